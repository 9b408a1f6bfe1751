/- (sum).told in general: a form, or ErrBound. -/
import Derived.Test.YtgellgobgiolnaaGreatDoorTold
import Derived.Test.YtgellgobgiolnaaGreatDoorAddOk
import Derived.Test.YtgellgobgiolnaaGreatDoorLogSum
import Derived.Test.YtgellgobgiolnaaGreatDoorPutEnt
import Derived.Test.YtgellgobgiolnaaGreatDoorValidWalk
import Derived.Deep.QuietTactic
import Derived.BigQuiet
import Derived.Test.YtgellgobgiolnaaGreatDoorPlus
import Derived.Test.YtgellgobgiolnaaGreatDoorWideMath
import Derived.Test.YtgellgobgiolnaaGreatDoorWLog
import Derived.Test.YtgellgobgiolnaaGreatDoorWTold
namespace Go.Proofs.YtgellgobgiolnaaGreatDoor
open Go.RowKit Go.Maps Go.Sort Go.Shelf

theorem all_next {cf : Int → Int} {G : Nat} {ks : List Int} {k : Nat} {p : Int} (ht : ks.take (k + 1) = ks.take k ++ [p]) (h : ∀ x ∈ ks.take k, (quo cf G x).natAbs ≤ 1099511627776) (hp : (quo cf G p).natAbs ≤ 1099511627776) : Hid (∀ x ∈ ks.take (k + 1), (quo cf G x).natAbs ≤ 1099511627776) := fun x hx => by
  rw [ht, List.mem_append] at hx
  rcases hx with hx | hx
  · exact h x hx
  · rw [List.mem_singleton] at hx; rw [hx]; exact hp

set_option maxRecDepth 100000 in
set_option maxHeartbeats 2000000 in
/-- told: a sum that has a form, or ErrBound. -/
theorem told_any (den : Int) (b nn : Nat) (D : DataW Unit) (cf : Int → Int) (ks : List Int) (w : World) (hown : w.ownsMap Tryz.prog 3 (plainElem Tryz.prog 3) b nn D)
    (hat : ∀ x, D.atKey (.int .i64 x) (.lit (.int .i64 0)) = .lit (.int .i64 (cf x))) (hks : ∀ ss : List Int, ss.Perm (intKeys D) → ss.mergeSort (fun x y => decide (x ≤ y)) = ks) (hsz : Maps.size D ≤ 100000) (hlen : ks.length ≤ 100000)
    (hwf : ∀ x ∈ ks, (Lit.int .i64 x).wf = true) (hd1 : 1 ≤ den) (hd2 : den ≤ 1000000000000) (hcf : ∀ x, -2305843009213693952 ≤ cf x ∧ cf x ≤ 2305843009213693952)
    (G : Nat) (hG : gcdL den cf ks ks.length = G) (a : Nat → Addr) (hE : Errs w a) (fit : Bool) (hfit : fit = true ↔ (den / (G : Int) ≤ 1000000 ∧ ∀ x ∈ ks, (quo cf G x).natAbs ≤ 1099511627776)) :
    Calls Tryz.prog 63 #[.agg #[.int .i64 den, .map (some b)]] w fun e w' => ((fit = true ∧ ∃ v, e = .returned (.tuple #[.agg #[.int .i64 (den / (G : Int)), v], .nilIface]) ∧ w'.ownsRow w.heap.size 65 2 v (countOf (quo cf G) ks) (termsOf (quo cf G) ks)) ∨ (fit = false ∧ e = .returned (.tuple #[.agg #[.int .i64 0, .slice none 0 0], .iface 184 (.pointer (some (a 1)))]))) ∧ Below w.heap.size w w' := by
  have hbl := hown.lt
  have HK : Hid (∀ ss : List Int, ss.Perm (intKeys D) → ss.mergeSort (fun x y => decide (x ≤ y)) = ks) := hks
  have HAT : Hid (∀ x, D.atKey (.int .i64 x) (.lit (.int .i64 0)) = .lit (.int .i64 (cf x))) := hat
  have HWF : Hid (∀ x ∈ ks, (Lit.int .i64 x).wf = true) := hwf
  have HCF : Hid (∀ x, -2305843009213693952 ≤ cf x ∧ cf x ≤ 2305843009213693952) := hcf
  have HG : Hid (gcdL den cf ks ks.length = G) := hG
  have HFIT := Hid.mk' hfit
  have HERR := Hid.mk' hE
  clear hks hat hwf hcf hG hfit hE
  have hb3 : Below w.heap.size w (((w.alloc (.cells #[.int .i64 den, .map (some b)] 102)).alloc (.cells #[.int .i64 0, .slice none 0 0] 27)).alloc (.cells #[.map (some b)] 100)) := (((Below.refl _ _).alloc (Nat.le_refl _) _).alloc (by simp) _).alloc (by simp; omega) _
  have hk := maps_keys (some b) ((w.alloc (.cells #[.int .i64 den, .map (some b)] 102)).alloc (.cells #[.int .i64 0, .slice none 0 0] 27))
  have hs := sorted_keys (w.heap.size + 1 + 1) b nn D _ (((w.alloc (.cells #[.int .i64 den, .map (some b)] 102)).alloc (.cells #[.int .i64 0, .slice none 0 0] 27)).alloc (.cells #[.map (some b)] 100)) (by rw [World.cell?_alloc_at _ _ _ _ (by simp)]; rfl) (by simp) (ownsMap_later hown (hb3.block b hbl)) (by unfold maxLen; omega) (by omega)
  go_enter Tryz.func63, Tryz.ntmps63
  go_wp2_with fail
  refine hk.mono ?_
  clear hk
  rintro e w1 ⟨rfl, rfl⟩
  go_wp2_with fail
  refine hs.mono ?_
  clear hs
  rintro e w2 ⟨v, ss, rfl, hperm, hrow, hnil, hb4⟩
  have hms := HK.out ss hperm
  rw [hms] at hrow
  have hsl : ss.length = ks.length := by rw [← hms]; simp
  rw [hsl] at hrow
  rcases hrow.2 with ⟨rfl, hz⟩ | ⟨g, cap, cur, rfl, hbase, hgb, r1, r2, r3, r4⟩
  · obtain rfl : ks = [] := List.eq_nil_of_length_eq_zero hz
    have hs4 := hb4.size
    simp at hs4
    have hbA := hb3.trans (hb4.mono (show w.heap.size ≤ _ by simp; omega))
    have x0 : w2.cell? ⟨w.heap.size, 0, none⟩ = some (.int .i64 den) := by
      rw [hb4.cell (p := ⟨w.heap.size, 0, none⟩) (by simp; omega), World.cell?_alloc_lt _ _ ⟨w.heap.size, 0, none⟩ (by simp; omega), World.cell?_alloc_lt _ _ ⟨w.heap.size, 0, none⟩ (by simp), World.cell?_alloc_at _ _ _ _ rfl]; rfl
    have z0 : w2.cell? ⟨w.heap.size + 1, 0, none⟩ = some (.int .i64 0) := by
      rw [hb4.cell (p := ⟨w.heap.size + 1, 0, none⟩) (by simp), World.cell?_alloc_lt _ _ ⟨w.heap.size + 1, 0, none⟩ (by simp), World.cell?_alloc_at _ _ _ _ (by simp)]; rfl
    have z1 : w2.cell? ⟨w.heap.size + 1, 1, none⟩ = some (.slice none 0 0) := by
      rw [hb4.cell (p := ⟨w.heap.size + 1, 1, none⟩) (by simp), World.cell?_alloc_lt _ _ ⟨w.heap.size + 1, 1, none⟩ (by simp), World.cell?_alloc_at _ _ _ _ (by simp)]; rfl
    have f0 : w2.frozen? ⟨w.heap.size + 1, 0, none⟩ = false := by
      rw [hb4.frozen (p := ⟨w.heap.size + 1, 0, none⟩) (by simp), World.frozen?_alloc_old _ _ ⟨w.heap.size + 1, 0, none⟩ (by simp)]; exact frozen_new (by simp)
    have f1 : w2.frozen? ⟨w.heap.size + 1, 1, none⟩ = false := by
      rw [hb4.frozen (p := ⟨w.heap.size + 1, 1, none⟩) (by simp), World.frozen?_alloc_old _ _ ⟨w.heap.size + 1, 1, none⟩ (by simp)]; exact frozen_new (by simp)
    obtain rfl : den.natAbs = G := HG.out
    have hG1 : (den.natAbs : Int) = den := by omega
    have hdd : den / den = 1 := Int.ediv_self (by omega)
    have HDD : Hid (den / (den.natAbs : Int) = 1) := by show _ = _; rw [hG1, hdd]
    have HBA : Hid (Below w.heap.size w w2) := hbA
    have hft : fit = true := HFIT.out.2 ⟨by rw [hG1, hdd]; omega, fun x hx => by cases hx⟩
    have HFT := Hid.mk' hft
    clear hrow hnil hb4 hb3 hbA HG hG1 hft
    have y0 : ∀ X, (w2.alloc X).cell? ⟨w.heap.size + 1, 0, none⟩ = some (.int .i64 0) := fun X => by rw [World.cell?_alloc_lt _ _ ⟨w.heap.size + 1, 0, none⟩ (by show w.heap.size + 1 < _; omega)]; exact z0
    have y1 : ∀ X, (w2.alloc X).cell? ⟨w.heap.size + 1, 1, none⟩ = some (.slice none 0 0) := fun X => by rw [World.cell?_alloc_lt _ _ ⟨w.heap.size + 1, 1, none⟩ (by show w.heap.size + 1 < _; omega)]; exact z1
    have g0 : ∀ X, (w2.alloc X).frozen? ⟨w.heap.size + 1, 0, none⟩ = false := fun X => by rw [World.frozen?_alloc_old _ _ ⟨w.heap.size + 1, 0, none⟩ (by show w.heap.size + 1 ≠ _; omega)]; exact f0
    have g1 : ∀ X, (w2.alloc X).frozen? ⟨w.heap.size + 1, 1, none⟩ = false := fun X => by rw [World.frozen?_alloc_old _ _ ⟨w.heap.size + 1, 1, none⟩ (by show w.heap.size + 1 ≠ _; omega)]; exact f1
    go_wp2_with fail
    refine wp_loop_rounds 1 ?_
    rw [rounds_succ]
    go_wp2_with fail
    refine wp_loop_rounds 1 ?_
    rw [rounds_succ]
    go_wp2_with fail
    refine bodyPost_ret (v := .tuple #[.agg #[.int .i64 1, .slice none 0 0], .nilIface]) (by simp [results, Tryz.results63, go_sem, y0, y1]) rfl ⟨Or.inl ⟨HFT.out, .slice none 0 0, by rw [HDD.out], ⟨rfl, Or.inl ⟨rfl, rfl⟩⟩⟩, ?_⟩
    exact ((HBA.out.alloc HBA.out.size _).setCell (by simp) _).setCell (by simp) _
  · have hI : InTold w w2 den b nn D g ks := by
      have hs4 := hb4.size
      simp at hs4
      refine ⟨?_, ?_, ?_, ?_, ?_, ?_, ?_, hb3.trans (hb4.mono (by simp; omega)), by omega, ?_⟩
      · rw [hb4.cell (p := ⟨w.heap.size, 0, none⟩) (by simp; omega), World.cell?_alloc_lt _ _ ⟨w.heap.size, 0, none⟩ (by simp; omega), World.cell?_alloc_lt _ _ ⟨w.heap.size, 0, none⟩ (by simp), World.cell?_alloc_at _ _ _ _ rfl]; rfl
      · rw [hb4.cell (p := ⟨w.heap.size, 1, none⟩) (by simp; omega), World.cell?_alloc_lt _ _ ⟨w.heap.size, 1, none⟩ (by simp; omega), World.cell?_alloc_lt _ _ ⟨w.heap.size, 1, none⟩ (by simp), World.cell?_alloc_at _ _ _ _ rfl]; rfl
      · rw [hb4.cell (p := ⟨w.heap.size + 1, 0, none⟩) (by simp), World.cell?_alloc_lt _ _ ⟨w.heap.size + 1, 0, none⟩ (by simp), World.cell?_alloc_at _ _ _ _ (by simp)]; rfl
      · rw [hb4.cell (p := ⟨w.heap.size + 1, 1, none⟩) (by simp), World.cell?_alloc_lt _ _ ⟨w.heap.size + 1, 1, none⟩ (by simp), World.cell?_alloc_at _ _ _ _ (by simp)]; rfl
      · rw [hb4.frozen (p := ⟨w.heap.size + 1, 0, none⟩) (by simp), World.frozen?_alloc_old _ _ ⟨w.heap.size + 1, 0, none⟩ (by simp)]; exact frozen_new (by simp)
      · rw [hb4.frozen (p := ⟨w.heap.size + 1, 1, none⟩) (by simp), World.frozen?_alloc_old _ _ ⟨w.heap.size + 1, 1, none⟩ (by simp)]; exact frozen_new (by simp)
      · exact ownsMap_later hown ((hb4.block b (by simp; omega)).trans (hb3.block b hbl))
      · intro i hi
        have : w2.cell? ⟨g, i, none⟩ = cur[i]? := by simp [World.cell?, hgb]
        have h5 : cur.toList[i]? = (ks.map encZ)[i]? := by rw [← r4, List.getElem?_take_of_lt (by omega)]
        rw [this, ← Array.getElem?_toList, h5]
        simp [encZ, hi]
    have HI : Hid (InTold w w2 den b nn D g ks) := hI
    clear hI hrow hnil hgb r4 r3 hb4 hb3
    have x0 := HI.out.box0
    go_wp2_with fail
    clear x0
    go_loopw [5, 20] (fun t i wr => ∃ k : Nat, k ≤ ks.length ∧ t = .int .i64 (gcdL den cf ks k) ∧ i = .int .i64 k ∧ Hid (InTold w wr den b nn D g ks)) (fun _ i _ => ks.length - (intOf i).toNat)
    case atStart => exact ⟨0, Nat.zero_le _, by show _ = Value.int IntKind.i64 ((den.natAbs : Nat) : Int); congr 1; omega, rfl, HI⟩
    case round =>
      clear HI
      obtain ⟨k, hk, rfl, rfl, HI⟩ := hrel
      have hgp := gcdTo_pos den (fun i => cf (ks.getD i 0)) hd1 k
      have HGP : Hid (1 ≤ gcdL den cf ks k ∧ gcdL den cf ks k ≤ den.natAbs) := hgp
      clear hgp
      have hg1 : 1 ≤ gcdL den cf ks k := HGP.out.1
      have hg2 : (gcdL den cf ks k : Int) ≤ 1000000000000 := by have := HGP.out.2; omega
      have x0 := HI.out.box0
      have x1 := HI.out.box1
      by_cases hlt : k < ks.length
      · have hck := HI.out.keys k hlt
        have hc1 := (HCF.out (ks.getD k 0)).1
        have hc2 := (HCF.out (ks.getD k 0)).2
        have hmem : ks.getD k 0 ∈ ks := by
          rw [List.getD_eq_getElem?_getD, List.getElem?_eq_getElem hlt]; exact List.getElem_mem hlt
        have hkey : keyOf Tryz.prog 3 (.int .i64 (ks.getD k 0)) = some (.int .i64 (ks.getD k 0)) := keyOf_int_mk Tryz.underlying3 (HWF.out _ hmem)
        have HKEY : Hid (keyOf Tryz.prog 3 (.int .i64 (ks.getD k 0)) = some (.int .i64 (ks.getD k 0))) := hkey
        obtain ⟨p, hp⟩ : ∃ p, p = ks.getD k 0 := ⟨_, rfl⟩
        have HP : Hid (p = ks.getD k 0) := hp
        rw [← hp] at hck hc1 hc2 HKEY
        clear hkey hmem hp
        go_wp2_with (first
          | (at_lookup; go_must (refine wpList_lookup_own_int _ rfl _ _ 100 rfl 3 3 .i64 Tryz.lawInt Tryz.underlying100 Tryz.underlying3 (Tryz.zeroInt _) b nn D rfl HI.out.own _ _ rfl HKEY.out ?_; intro c hat hwc; have hcc := coef_of HAT.out hat; clear hat hwc; subst hcc))
          | (go_at_call 65; refine (GCD_any _ _ _ (by omega) (by omega) (by omega) (by omega)).mono ?_; rintro e w' ⟨rfl, mm, rfl⟩))
        exact ⟨⟨k + 1, by omega, by show _ = Value.int IntKind.i64 ((Int.gcd (gcdL den cf ks k : Int) (cf (ks.getD k 0)) : Nat) : Int); rw [← HP.out], by go_num, HI.out.drewN mm⟩, by simp [intOf]; omega⟩
      · obtain rfl : k = ks.length := by omega
        have HG' := HG.out
        rw [HG'] at hg1 hg2 HGP ⊢
        clear HG'
        obtain ⟨i0, hi, hz0, hz1, hz2⟩ := info_parts Tryz.infoTerm
        have HINF : Hid (Tryz.prog.info? 65 = some i0 ∧ i0.zero = some (.agg #[.int .i64 0, .int .i64 0]) ∧ i0.size = 2 ∧ i0.bytes = 16) := ⟨hi, hz0, hz1, hz2⟩
        clear hi hz0 hz1 hz2
        have HS0 : Hid (InOut wr (wr.alloc (.cells #[.int .i64 (den / (G : Int)), .slice none 0 0] 27)) (den / (G : Int)) (.slice none 0 0) 0 []) := InOut.start wr _
        have hdq0 : 0 ≤ den / (G : Int) := Int.ediv_nonneg (by omega) (by omega)
        have HIN : Hid (InTold w wr den b nn D g ks) := HI.out
        clear HI
        by_cases hdq : den / (G : Int) ≤ 1000000
        case neg =>
          have hff : fit = false := not_true_of HFIT.out (fun h => hdq h.1)
          have hdq2 : den / (G : Int) ≤ 1000000000000 := Int.le_trans (Int.ediv_le_self _ (by omega)) hd2
          have hdq3 : 1000000 < den / (G : Int) := by omega
          have hbg := HIN.out.big
          have y0 : ∀ X, (wr.alloc X).cell? ⟨w.heap.size + 1, 0, none⟩ = some (.int .i64 0) := fun X => by rw [World.cell?_alloc_lt _ _ ⟨w.heap.size + 1, 0, none⟩ (cell_lt HIN.out.res0)]; exact HIN.out.res0
          have y1 : ∀ X, (wr.alloc X).cell? ⟨w.heap.size + 1, 1, none⟩ = some (.slice none 0 0) := fun X => by rw [World.cell?_alloc_lt _ _ ⟨w.heap.size + 1, 1, none⟩ (cell_lt HIN.out.res1)]; exact HIN.out.res1
          have g0 : ∀ X, (wr.alloc X).frozen? ⟨w.heap.size + 1, 0, none⟩ = false := fun X => by rw [World.frozen?_alloc_old _ _ ⟨w.heap.size + 1, 0, none⟩ (Nat.ne_of_lt (cell_lt HIN.out.res0))]; exact HIN.out.fr0
          have g1 : ∀ X, (wr.alloc X).frozen? ⟨w.heap.size + 1, 1, none⟩ = false := fun X => by rw [World.frozen?_alloc_old _ _ ⟨w.heap.size + 1, 1, none⟩ (Nat.ne_of_lt (cell_lt HIN.out.res1))]; exact HIN.out.fr1
          have ye : ∀ X, (wr.alloc X).cell? ⟨1, 0, none⟩ = some (.iface 184 (.pointer (some (a 1)))) := fun X => (HERR.out.below (HIN.out.below.alloc HIN.out.below.size X)).c1
          clear hdq
          go_wp2_with fail
          go_region
          go_wp2_with fail
          refine bodyPost_ret (v := .tuple #[.agg #[.int .i64 0, .slice none 0 0], .iface 184 (.pointer (some (a 1)))]) (by simp [results, Tryz.results63, go_sem, y0, y1]) rfl ⟨Or.inr ⟨hff, rfl⟩, ?_⟩
          exact (((HIN.out.below.alloc HIN.out.below.size _).setCell (by simp) _).setCell (by simp) _).drew
        go_wp2_with fail
        clear x0 x1
        obtain ⟨w1, hw1⟩ : ∃ w1, w1 = wr := ⟨_, rfl⟩
        rw [← hw1] at HS0 HIN ⊢
        clear hw1
        go_loopw [43] (fun i wr => ∃ (k : Nat) (sv : Value), k ≤ ks.length ∧ i = .int .i64 k ∧ Hid (∀ x ∈ ks.take k, (quo cf G x).natAbs ≤ 1099511627776) ∧ Hid (InOut w1 wr (den / (G : Int)) sv (countOf (quo cf G) (ks.take k)) (termsOf (quo cf G) (ks.take k)))) (fun i _ => ks.length - (intOf i).toNat)
        case atStart => exact ⟨0, .slice none 0 0, Nat.zero_le _, rfl, (fun x hx => by simp at hx), HS0.out⟩
        case round =>
          clear HS0
          obtain ⟨k, sv, hk, rfl, HAL, HO⟩ := hrel
          have HI : Hid (InTold w wr den b nn D g ks) := HIN.out.later HO.out.keep
          have x0 := HI.out.box0
          have x1 := HI.out.box1
          have y0 := HO.out.o0
          have y1 := HO.out.o1
          have yf := HO.out.fz
          by_cases hlt : k < ks.length
          · have hck := HI.out.keys k hlt
            have hmem : ks.getD k 0 ∈ ks := by
              rw [List.getD_eq_getElem?_getD, List.getElem?_eq_getElem hlt]; exact List.getElem_mem hlt
            have HKEY : Hid (keyOf Tryz.prog 3 (.int .i64 (ks.getD k 0)) = some (.int .i64 (ks.getD k 0))) := keyOf_int_mk Tryz.underlying3 (HWF.out _ hmem)
            have hc1 := (HCF.out (ks.getD k 0)).1
            have hc2 := (HCF.out (ks.getD k 0)).2
            obtain ⟨p, hp⟩ : ∃ p, p = ks.getD k 0 := ⟨_, rfl⟩
            have HP : Hid (p = ks.getD k 0) := hp
            rw [← hp] at hck HKEY hc1 hc2
            have HMEM : Hid (p ∈ ks) := by rw [← hp] at hmem; exact hmem
            clear hmem hp
            obtain ⟨q, hqq⟩ : ∃ q, q = quo cf G p := ⟨_, rfl⟩
            have HQQ : Hid (q = quo cf G p) := hqq
            have hqe : (cf p).tdiv (G : Int) = q := hqq.symm
            clear hqq
            have htake : Hid (ks.take (k + 1) = ks.take k ++ [p]) := by
              show _ = _
              rw [List.take_succ_eq_append_getElem hlt, HP.out, List.getD_eq_getElem?_getD, List.getElem?_eq_getElem hlt]
              rfl
            by_cases hqb : q.natAbs ≤ 1099511627776
            case neg =>
              have hff : fit = false := not_true_of HFIT.out (fun h => hqb (by have := h.2 p HMEM.out; rwa [← HQQ.out] at this))
              have hqs : q.natAbs ≤ (cf p).natAbs := by rw [← hqe]; exact Int.natAbs_tdiv_le_natAbs _ _
              have hqB : (1099511627776 : Int) < (q.natAbs : Int) := by omega
              have z0 := HI.out.res0
              have z1 := HI.out.res1
              have f0 := HI.out.fr0
              have f1 := HI.out.fr1
              have ye := (HERR.out.below HI.out.below).c1
              clear hqb
              go_wp2_with (first
                | (at_lookup; go_must (refine wpList_lookup_own_int _ rfl _ _ 100 rfl 3 3 .i64 Tryz.lawInt Tryz.underlying100 Tryz.underlying3 (Tryz.zeroInt _) b nn D rfl HI.out.own _ _ rfl HKEY.out ?_; intro c hat hwc; have hcc := coef_of HAT.out hat; clear hat hwc; subst hcc))
                | (go_at_call 40; refine (size_any _ _ (by omega) (by omega)).mono ?_; rintro e w' ⟨rfl, hw'⟩; rw [hw']; clear hw'))
              go_region
              go_wp2_with fail
              refine bodyPost_ret (v := .tuple #[.agg #[.int .i64 0, .slice none 0 0], .iface 184 (.pointer (some (a 1)))]) (by simp [results, Tryz.results63, go_sem, z0, z1]) rfl ⟨Or.inr ⟨hff, rfl⟩, ?_⟩
              exact ((HI.out.below.setCell (by simp) _).setCell (by simp) _).drew
            by_cases hq0 : q = 0
            · subst hq0
              go_wp2_with (first
                | (at_lookup; go_must (refine wpList_lookup_own_int _ rfl _ _ 100 rfl 3 3 .i64 Tryz.lawInt Tryz.underlying100 Tryz.underlying3 (Tryz.zeroInt _) b nn D rfl HI.out.own _ _ rfl HKEY.out ?_; intro c hat hwc; have hcc := coef_of HAT.out hat; clear hat hwc; subst hcc))
                | (go_at_call 40; refine (size_any _ _ (by omega) (by omega)).mono ?_; rintro e w' ⟨rfl, hw'⟩; rw [hw']; clear hw'))
              exact ⟨⟨k + 1, sv, by omega, by go_num, all_next htake.out HAL.out (by rw [← HQQ.out]; omega), by
                show InOut _ _ _ _ _ _
                rw [htake.out, termsOf_append, countOf_append]
                have h0 : quo cf G p = 0 := HQQ.out.symm
                simpa [termsOf, countOf, h0] using HO.out⟩, by simp [intOf]; omega⟩
            · have hqn : (q != 0) = true := by simp [hq0]
              have HQ0 : Hid (¬ q = 0) := hq0
              clear hq0
              have hcn := countOf_le (quo cf G) (ks.take k)
              have hcn2 : countOf (quo cf G) (ks.take k) ≤ 100000 := by have := List.length_take_le k ks; omega
              have HSZ : Hid (w1.heap.size < wr.heap.size) := cell_lt HO.out.o0
              have hsz := HSZ.out
              go_wp2_with (first
                | (at_lookup; go_must (refine wpList_lookup_own_int _ rfl _ _ 100 rfl 3 3 .i64 Tryz.lawInt Tryz.underlying100 Tryz.underlying3 (Tryz.zeroInt _) b nn D rfl HI.out.own _ _ rfl HKEY.out ?_; intro c hat hwc; have hcc := coef_of HAT.out hat; clear hat hwc; subst hcc))
                | (go_at_call 40; refine (size_any _ _ (by omega) (by omega)).mono ?_; rintro e w' ⟨rfl, hw'⟩; rw [hw']; clear hw')
                | (at_builtin; go_must (refine wpList_append_lies _ rfl _ _ _ rfl (w1.heap.size + 1) 65 i0 _ 2 16 Tryz.underlying25 HINF.out.1 HINF.out.2.1 HINF.out.2.2.1 HINF.out.2.2.2 rfl (by omega) sv _ _ rfl (HO.out.row.alloc _) ⟨wr.heap.size, 0, none⟩ 1 1 [.int .i64 p, .int .i64 q] rfl rfl (two_new _ _ _ _) (by simp [Value.oneCell']) (by omega) (by unfold maxLen; omega) (by omega) (by simp; omega) _ rfl ?_; intro g' cap' w3 hown3 hgrow3 hat3 hlt3; obtain ⟨z1, z2, HP3⟩ := HO.out.pushed hgrow3 hown3; have HPU := Hid.mk' HP3; clear hown3 hgrow3 hat3 HP3)))
              exact ⟨⟨k + 1, _, by omega, by go_num, all_next htake.out HAL.out (by rw [← HQQ.out]; omega), by
                show InOut _ _ _ _ _ _
                rw [htake.out, termsOf_append, countOf_append]
                have h0 : quo cf G p = q := HQQ.out.symm
                have h1 : ¬ q = 0 := HQ0.out
                simpa [termsOf, countOf, h0, h1] using HPU.out⟩, by simp [intOf]; omega⟩
          · obtain rfl : k = ks.length := by omega
            have z0 := HI.out.res0
            have z1 := HI.out.res1
            have f0 := HI.out.fr0
            have f1 := HI.out.fr1
            have hlt1 : w.heap.size + 1 < w1.heap.size := by have := HIN.out.big; omega
            have hfull : ks.take ks.length = ks := List.take_length
            have HOO : Hid (InOut w1 wr (den / (G : Int)) sv (countOf (quo cf G) ks) (termsOf (quo cf G) ks)) := by have := HO.out; rwa [hfull] at this
            have HFT : Hid (fit = true) := HFIT.out.2 ⟨hdq, by have := HAL.out; rwa [hfull] at this⟩
            clear hfull HO
            obtain ⟨ad, n', c', rfl⟩ : ∃ ad n' c', sv = .slice ad n' c' := by
              rcases HOO.out.row.2 with ⟨rfl, _⟩ | ⟨gg, cap', cur', rfl, _⟩
              · exact ⟨_, _, _, rfl⟩
              · exact ⟨_, _, _, rfl⟩
            go_wp2_with fail
            refine bodyPost_ret (v := .tuple #[.agg #[.int .i64 (den / (G : Int)), .slice ad n' c'], .nilIface]) (by simp [results, Tryz.results63, go_sem, z0, z1]) rfl ⟨Or.inl ⟨HFT.out, .slice ad n' c', rfl, ?_⟩, ?_⟩
            · have h1 := ownsRow_setCell_below HOO.out.row (a := ⟨w.heap.size + 1, 0, none⟩) (by show w.heap.size + 1 < _; omega) (.int .i64 (den / (G : Int)))
              have h2 := ownsRow_setCell_below h1 (a := ⟨w.heap.size + 1, 1, none⟩) (by show w.heap.size + 1 < _; omega) (.slice ad n' c')
              exact row_base h2 (by omega)
            · exact (HI.out.below.setCell (by simp) _).setCell (by simp) _
end Go.Proofs.YtgellgobgiolnaaGreatDoor

/- logs.Add in general: ErrShape, ErrBound, or the sum in form. -/
namespace Go.Proofs.YtgellgobgiolnaaGreatDoor
open Go.RowKit Go.Maps

theorem some_bool (P : Prop) : ∃ b : Bool, b = true ↔ P := by
  by_cases h : P
  · exact ⟨true, ⟨fun _ => h, fun _ => rfl⟩⟩
  · exact ⟨false, ⟨(fun e => by cases e), (fun e => absurd e h)⟩⟩
/-- Has a sum a form? -/
def Fits (den : Int) (G : Nat) (l : List (Int × Int)) : Prop := den / (G : Int) ≤ 1000000 ∧ ∀ e ∈ l, (e.2.tdiv (G : Int)).natAbs ≤ 1099511627776
/-- told by lists, in general. -/
theorem told_list_any (den : Int) (b nn : Nat) (l : List (Int × Int)) (w : World) (hown : w.ownsMap Tryz.prog 3 (plainElem (H := Unit) Tryz.prog 3) b nn (mapOf l)) (hr : Rising l) (hk : ∀ e ∈ l, 2 ≤ e.1 ∧ e.1 ≤ 1000000) (hlen : l.length ≤ 100000)
    (hb : ∀ x, -2305843009213693952 ≤ atL l x ∧ atL l x ≤ 2305843009213693952) (hd1 : 1 ≤ den) (hd2 : den ≤ 1000000000000) (G : Nat) (hG : gcdL den (atL l) (l.map Prod.fst) l.length = G) (a : Nat → Addr) (hE : Errs w a) (fit : Bool) (hfit : fit = true ↔ Fits den G l) :
    Calls Tryz.prog 63 #[.agg #[.int .i64 den, .map (some b)]] w fun e w' => ((fit = true ∧ ∃ v, e = .returned (.tuple #[.agg #[.int .i64 (den / (G : Int)), v], .nilIface]) ∧ w'.ownsRow w.heap.size 65 2 v (overL G l).length (termCells (pOf (overL G l)) (cOf (overL G l)) (overL G l).length)) ∨ (fit = false ∧ e = .returned (.tuple #[.agg #[.int .i64 0, .slice none 0 0], .iface 184 (.pointer (some (a 1)))]))) ∧ Below w.heap.size w w' := by
  have hcf : ∀ e ∈ l, atL l e.1 = e.2 := fun e he => atL_mem hr he
  have ht := terms_flat (atL l) G l hcf
  have hfit' : fit = true ↔ (den / (G : Int) ≤ 1000000 ∧ ∀ x ∈ l.map Prod.fst, (quo (atL l) G x).natAbs ≤ 1099511627776) := hfit.trans ⟨fun h => ⟨h.1, fun x hx => by obtain ⟨e, he, rfl⟩ := List.mem_map.1 hx; unfold quo; rw [hcf e he]; exact h.2 e he⟩, fun h => ⟨h.1, fun e he => by have := h.2 e.1 (List.mem_map.2 ⟨e, he, rfl⟩); unfold quo at this; rw [hcf e he] at this; exact this⟩⟩
  have := told_any den b nn (mapOf l) (atL l) (l.map Prod.fst) w hown (at_map l) (sort_keys hr) (by rw [size_map]; exact hlen) (by rw [List.length_map]; exact hlen)
    (fun x hx => by obtain ⟨e, he, rfl⟩ := List.mem_map.1 hx; have := hk e he; exact wf_int (by omega)) hd1 hd2 hb G (by rw [List.length_map]; exact hG) a hE fit hfit'
  rw [ht.1, ht.2, flat_cells] at this
  exact this

/-- Two boxes and a result. -/
theorem three_cells (w : World) (x0 x1 y0 y1 r0 r1 : Value) (t : TypeId) :
    ((((w.alloc (.cells #[x0, x1] t)).alloc (.cells #[y0, y1] t)).alloc (.cells #[r0, r1] t)).cell? ⟨w.heap.size, 0, none⟩ = some x0 ∧ (((w.alloc (.cells #[x0, x1] t)).alloc (.cells #[y0, y1] t)).alloc (.cells #[r0, r1] t)).cell? ⟨w.heap.size, 1, none⟩ = some x1) ∧ ((((w.alloc (.cells #[x0, x1] t)).alloc (.cells #[y0, y1] t)).alloc (.cells #[r0, r1] t)).cell? ⟨w.heap.size + 1, 0, none⟩ = some y0 ∧ (((w.alloc (.cells #[x0, x1] t)).alloc (.cells #[y0, y1] t)).alloc (.cells #[r0, r1] t)).cell? ⟨w.heap.size + 1, 1, none⟩ = some y1) ∧ ((((w.alloc (.cells #[x0, x1] t)).alloc (.cells #[y0, y1] t)).alloc (.cells #[r0, r1] t)).cell? ⟨w.heap.size + 1 + 1, 0, none⟩ = some r0 ∧ (((w.alloc (.cells #[x0, x1] t)).alloc (.cells #[y0, y1] t)).alloc (.cells #[r0, r1] t)).cell? ⟨w.heap.size + 1 + 1, 1, none⟩ = some r1) ∧ (((w.alloc (.cells #[x0, x1] t)).alloc (.cells #[y0, y1] t)).alloc (.cells #[r0, r1] t)).frozen? ⟨w.heap.size + 1 + 1, 0, none⟩ = false ∧ (((w.alloc (.cells #[x0, x1] t)).alloc (.cells #[y0, y1] t)).alloc (.cells #[r0, r1] t)).frozen? ⟨w.heap.size + 1 + 1, 1, none⟩ = false := by
  refine ⟨⟨?_, ?_⟩, ⟨?_, ?_⟩, ⟨?_, ?_⟩, frozen_new (by simp), frozen_new (by simp)⟩
  · rw [World.cell?_alloc_lt _ _ ⟨w.heap.size, 0, none⟩ (by simp; omega), World.cell?_alloc_lt _ _ ⟨w.heap.size, 0, none⟩ (by simp), World.cell?_alloc_at _ _ _ _ rfl]; rfl
  · rw [World.cell?_alloc_lt _ _ ⟨w.heap.size, 1, none⟩ (by simp; omega), World.cell?_alloc_lt _ _ ⟨w.heap.size, 1, none⟩ (by simp), World.cell?_alloc_at _ _ _ _ rfl]; rfl
  · rw [World.cell?_alloc_lt _ _ ⟨w.heap.size + 1, 0, none⟩ (by simp), World.cell?_alloc_at _ _ _ _ (by simp)]; rfl
  · rw [World.cell?_alloc_lt _ _ ⟨w.heap.size + 1, 1, none⟩ (by simp), World.cell?_alloc_at _ _ _ _ (by simp)]; rfl
  · rw [World.cell?_alloc_at _ _ _ _ (by simp)]; rfl
  · rw [World.cell?_alloc_at _ _ _ _ (by simp)]; rfl

end Go.Proofs.YtgellgobgiolnaaGreatDoor

/- Two lists that tell the same; the document's sum of two in form. -/
namespace Go.Proofs.YtgellgobgiolnaaGreatDoor
open Go.RowKit

def nzL (l : List (Int × Int)) : List (Int × Int) := l.filter fun e => !decide (e.2 = 0)
theorem nz_rise {l : List (Int × Int)} (h : Rising l) : Rising (nzL l) := List.Pairwise.filter _ h
theorem nz_nz {l : List (Int × Int)} : ∀ e ∈ nzL l, e.2 ≠ 0 := fun e he => by
  have := (List.mem_filter.1 he).2
  simpa using this
theorem nz_at {l : List (Int × Int)} (h : Rising l) (x : Int) : atL (nzL l) x = atL l x := by
  by_cases h0 : atL l x = 0
  · rw [h0]
    by_cases h1 : atL (nzL l) x = 0
    · exact h1
    · have h2 := (List.mem_filter.1 (atL_some h1)).1
      have h3 := atL_mem h h2
      simp only at h3
      exact h3.symm.trans h0
  · exact atL_mem (nz_rise h) (List.mem_filter.2 ⟨atL_some h0, by simpa using h0⟩)
theorem nz_same {l l' : List (Int × Int)} (h : Rising l) (h' : Rising l') (he : ∀ x, atL l x = atL l' x) : nzL l = nzL l' := rising_ext (nz_rise h) (nz_rise h') nz_nz nz_nz (fun x => by rw [nz_at h, nz_at h', he])
theorem nz_snd (l : List (Int × Int)) : (nzL l).map Prod.snd = (l.map Prod.snd).filter fun x => !decide (x = 0) := by
  unfold nzL
  rw [List.filter_map]
  rfl
theorem gList_same {l l' : List (Int × Int)} (h : Rising l) (h' : Rising l') (he : ∀ x, atL l x = atL l' x) (g : Nat) : gList g (l.map Prod.snd) = gList g (l'.map Prod.snd) := by
  rw [← gList_zeros, ← gList_zeros (l'.map Prod.snd), ← nz_snd, ← nz_snd, nz_same h h' he]
theorem over_same {l l' : List (Int × Int)} (h : Rising l) (h' : Rising l') (he : ∀ x, atL l x = atL l' x) (G : Nat) : overL G l = overL G l' := rising_ext (rising_over h G) (rising_over h' G) (fun e he => over_nz he) (fun e he => over_nz he) (fun x => by rw [atL_over h, atL_over h', he])
theorem fits_same {l l' : List (Int × Int)} (h' : Rising l') (he : ∀ x, atL l x = atL l' x) {M G : Nat} (hf : FitsL M G l) : FitsL M G l' := by
  refine ⟨hf.1, fun e hm => ?_⟩
  by_cases h0 : e.2 = 0
  · rw [h0]; simp
  · have h1 := atL_mem h' hm
    have h2 := he e.1
    rw [h1] at h2
    have h3 := hf.2 _ (atL_some (l := l) (x := e.1) (by rw [h2]; exact h0))
    simpa [h2] using h3
theorem gcdL_list {D : Nat} {l : List (Int × Int)} (hr : Rising l) : gcdL (D : Int) (atL l) (l.map Prod.fst) l.length = gList D (l.map Prod.snd) := by
  have h0 : gcdL (D : Int) (atL l) (l.map Prod.fst) l.length = gcdTo (D : Int) (cOf l) l.length := by
    have aux : ∀ k, k ≤ l.length → gcdTo (D : Int) (fun i => atL l ((l.map Prod.fst).getD i 0)) k = gcdTo (D : Int) (cOf l) k := by
      intro k
      induction k with
      | zero => intro _; rfl
      | succ k ih =>
        intro hk
        show Int.gcd (gcdTo (D : Int) (fun i => atL l ((l.map Prod.fst).getD i 0)) k : Int) (atL l ((l.map Prod.fst).getD k 0)) = Int.gcd (gcdTo (D : Int) (cOf l) k : Int) (cOf l k)
        rw [ih (by omega)]
        have : atL l ((l.map Prod.fst).getD k 0) = cOf l k := by rw [getD_fst (by omega)]; exact atL_mem hr (getD_mem (by omega))
        rw [this]
    exact aux _ (Nat.le_refl _)
  rw [h0, gcdTo_list _ _ _ (Nat.le_refl _), List.take_length, Int.natAbs_natCast]
theorem sumAt_list {t : List (Int × Int)} (hr : Rising t) (x : Int) : ∀ k, k ≤ t.length → sumAt (pOf t) (cOf t) x k = atL (t.take k) x
  | 0, _ => by simp [sumAt, atL]
  | k + 1, h => by
    rw [atL_take hr (by omega)]
    show sumAt _ _ _ k + _ = _
    rw [sumAt_list hr x k (by omega)]
    by_cases hx : x = pOf t k
    · rw [if_pos hx, if_pos hx.symm]
    · rw [if_neg hx, if_neg (Ne.symm hx)]
theorem sumAt_all {t : List (Int × Int)} (hr : Rising t) (x : Int) : sumAt (pOf t) (cOf t) x t.length = atL t x := by rw [sumAt_list hr x _ (Nat.le_refl _), List.take_length]
theorem sumAt_le {p c : Nat → Int} {n : Nat} (h : ∀ i, i < n → 0 ≤ p i ∧ -1099511627776 ≤ c i ∧ c i ≤ 1099511627776) (x : Int) : ∀ k, k ≤ n → (sumAt p c x k).natAbs ≤ k * 1099511627776
  | 0, _ => by simp [sumAt]
  | k + 1, hk => by
    have ih := sumAt_le h x k (by omega)
    have h1 := h k (by omega)
    show (sumAt p c x k + if x = p k then c k else 0).natAbs ≤ _
    by_cases hx : x = p k
    · rw [if_pos hx]; omega
    · rw [if_neg hx]; omega
theorem mul_bound {F s : Int} {a b : Nat} (hF : F.natAbs ≤ a) (hs : s.natAbs ≤ b) : (F * s).natAbs ≤ a * b := by rw [Int.natAbs_mul]; exact Nat.mul_le_mul hF hs
theorem okLog_pc {d : Int} {n : Nat} {p c : Nat → Int} (h : OkLog d n p c) : ∀ i, i < n → 0 ≤ p i ∧ -1099511627776 ≤ c i ∧ c i ≤ 1099511627776 := fun i hi => by
  have h1 := (h.2.2.1 i hi).2
  exact ⟨by have := h1.2.2.2.2.1; omega, h1.2.2.1, h1.2.2.2.1⟩
theorem LogAt.listed' {w : World} {sv : Value} {n : Nat} {p c : Nat → Int} (h : LogAt w sv n p c) : ∃ t : List (Int × Int), n = t.length ∧ LogAt w sv t.length (pOf t) (cOf t) := by
  refine ⟨(List.range n).map fun i => (p i, c i), by simp, ?_⟩
  rcases h with ⟨ad, cap, h1, h2⟩ | ⟨b, o, cap, h1, h2, h3⟩
  · exact Or.inl ⟨ad, cap, h1, by simp [h2]⟩
  · refine Or.inr ⟨b, o, cap, by simpa using h1, by simpa using h2, fun i hi => ?_⟩
    have hi' : i < n := by simpa using hi
    have e1 : pOf ((List.range n).map fun i => (p i, c i)) i = p i := by simp [pOf, List.getD, hi']
    have e2 : cOf ((List.range n).map fun i => (p i, c i)) i = c i := by simp [cOf, List.getD, hi']
    rw [e1, e2]
    exact h3 i hi'

/-- The answer of a sum: in form and nil, or nothing and ErrBound. -/
def SaidOf (M : Nat) (l : List (Int × Int)) (a : Nat → Addr) (w : World) (dn : Int) (v er : Value) : Prop := (FitsL M (gList M (l.map Prod.snd)) l ∧ dn = ((M / gList M (l.map Prod.snd) : Nat) : Int) ∧ er = .nilIface ∧ ListAt w v (overL (gList M (l.map Prod.snd)) l)) ∨ (¬ FitsL M (gList M (l.map Prod.snd)) l ∧ dn = 0 ∧ v = .slice none 0 0 ∧ er = .iface 184 (.pointer (some (a 1))))
theorem ToldOf.same {M : Nat} {l l' : List (Int × Int)} (h : Rising l) (h' : Rising l') (he : ∀ x, atL l x = atL l' x) {w : World} {dn : Int} {v : Value} {code : Int} (ht : ToldOf M l w dn v code) : ToldOf M l' w dn v code := by
  have hg := gList_same h h' he M
  have ho := over_same h h' he (gList M (l'.map Prod.snd))
  rcases ht with ⟨h1, h2, h3, h4⟩ | ⟨h1, h2, h3, h4⟩
  · rw [hg] at h1 h2 h4
    rw [ho] at h4
    exact Or.inl ⟨fits_same h' he h1, h2, h3, h4⟩
  · rw [hg] at h1
    exact Or.inr ⟨fun hf => h1 (fits_same h (fun x => (he x).symm) hf), h2, h3, h4⟩
theorem ToldOf.later {M : Nat} {l : List (Int × Int)} {w w' : World} {dn : Int} {v : Value} {code : Int} (ht : ToldOf M l w dn v code) (hb : Below w.heap.size w w') : ToldOf M l w' dn v code := by
  rcases ht with ⟨h1, h2, h3, h4⟩ | h
  · exact Or.inl ⟨h1, h2, h3, OwnAt.later h4 hb⟩
  · exact Or.inr h
theorem SaidOf.later {M : Nat} {l : List (Int × Int)} {a : Nat → Addr} {w w' : World} {dn : Int} {v er : Value} (ht : SaidOf M l a w dn v er) (hb : Below w.heap.size w w') : SaidOf M l a w' dn v er := by
  rcases ht with ⟨h1, h2, h3, h4⟩ | h
  · exact Or.inl ⟨h1, h2, h3, OwnAt.later h4 hb⟩
  · exact Or.inr h

/-- isLog of what both say of one sum. -/
theorem isLog_said (M : Nat) (l : List (Int × Int)) (a : Nat → Addr) (w : World) (h : Errs w a) (hl : l.length ≤ 1000000) (dn1 dn2 code : Int) (ad1 ad2 : Option Addr) (m1 m2 cap1 cap2 : Nat) (er : Value) (h1 : SaidOf M l a w dn1 (.slice ad1 m1 cap1) er) (h2 : ToldOf M l w dn2 (.slice ad2 m2 cap2) code) :
    Calls Tryz.prog 12 #[.agg #[.int .i64 dn1, .slice ad1 m1 cap1], er, .agg #[.int .i64 dn2, .slice ad2 m2 cap2], .int .i64 code] w fun e w' => e = .returned (.bool true) ∧ Below w.heap.size w w' := by
  rcases h1 with ⟨f1, rfl, rfl, l1⟩ | ⟨f1, rfl, v1, rfl⟩
  · rcases h2 with ⟨_, rfl, rfl, l2⟩ | ⟨f2, _⟩
    · exact isLog_ok _ _ _ _ _ _ w l1 l2 (by have := length_over l (gList M (l.map Prod.snd)); omega)
    · exact absurd f1 f2
  · rcases h2 with ⟨f2, _⟩ | ⟨_, rfl, v2, rfl⟩
    · exact absurd f2 f1
    · rw [v1]
      exact isLog_err a 1 (by decide) 0 ad2 m2 cap2 w h
end Go.Proofs.YtgellgobgiolnaaGreatDoor

/- dist.sumOver: a sum of all that a function puts. -/
namespace Go.Proofs.YtgellgobgiolnaaGreatDoor
open Go.RowKit Go.Maps

/-- What is told of a sum that has a form: f over M. -/
def LogBy (base M : Nat) (f : Int → Int) (w : World) (dn : Int) (v : Value) : Prop := ∃ l : List (Int × Int), Rising l ∧ (∀ x, atL l x = f x) ∧ l.length ≤ 90000 ∧ dn = ((M / gList M (l.map Prod.snd) : Nat) : Int) ∧ w.ownsRow base 65 2 v (overL (gList M (l.map Prod.snd)) l).length (termCells (pOf (overL (gList M (l.map Prod.snd)) l)) (cOf (overL (gList M (l.map Prod.snd)) l)) (overL (gList M (l.map Prod.snd)) l).length)
theorem LogBy.form {base M : Nat} {f : Int → Int} {w : World} {dn : Int} {v : Value} (h : LogBy base M f w dn v) : ∃ ad n c, v = .slice ad n c := by
  obtain ⟨l, _, _, _, _, hr⟩ := h
  rcases hr.2 with ⟨rfl, _⟩ | ⟨gg, cap', cur', rfl, _⟩
  · exact ⟨_, _, _, rfl⟩
  · exact ⟨_, _, _, rfl⟩
theorem LogBy.later {base M : Nat} {f : Int → Int} {w w' : World} {dn : Int} {v : Value} (h : LogBy base M f w dn v) (hb : Below w.heap.size w w') : LogBy base M f w' dn v := by
  obtain ⟨l, h1, h2, h3, h5, hr⟩ := h
  exact ⟨l, h1, h2, h3, h5, ownsRow_past hr hb⟩
theorem LogBy.lower {base base' M : Nat} {f : Int → Int} {w : World} {dn : Int} {v : Value} (h : LogBy base M f w dn v) (hb : base' ≤ base) : LogBy base' M f w dn v := by
  obtain ⟨l, h1, h2, h3, h5, hr⟩ := h
  exact ⟨l, h1, h2, h3, h5, row_base hr hb⟩
theorem LogBy.set {base M : Nat} {f : Int → Int} {w : World} {dn : Int} {v : Value} (h : LogBy base M f w dn v) {B : Nat} (hB : B < base) (x y : Value) : LogBy base M f ((w.setCell ⟨B, 0, none⟩ x).setCell ⟨B, 1, none⟩ y) dn v := by
  obtain ⟨l, h1, h2, h3, h5, hr⟩ := h
  exact ⟨l, h1, h2, h3, h5, ownsRow_setCell_below (ownsRow_setCell_below hr (a := ⟨B, 0, none⟩) hB x) (a := ⟨B, 1, none⟩) hB y⟩
theorem LogBy.list {base M : Nat} {f : Int → Int} {w : World} {dn : Int} {v : Value} (h : LogBy base M f w dn v) : ∃ l : List (Int × Int), Rising l ∧ (∀ x, atL l x = f x) ∧ l.length ≤ 90000 ∧ dn = ((M / gList M (l.map Prod.snd) : Nat) : Int) ∧ ListAt w v (overL (gList M (l.map Prod.snd)) l) := by
  obtain ⟨l, h1, h2, h3, h5, hr⟩ := h
  exact ⟨l, h1, h2, h3, h5, ownAt_of_row hr⟩

set_option maxRecDepth 100000 in
set_option maxHeartbeats 2000000 in
theorem sumOver_any (K : Nat) (cap : Array Value) (M c : Nat) (f : Int → Int) (w : World) (hent : ∀ (args : Array Value) (w : World), (callFunc K args).run Tryz.prog w = .ok (.enter K args) w) (hM : 1 ≤ M) (hM6 : M ≤ 4096) (hc : c ≤ 4000) (hf : ∀ x, -1000000000 ≤ f x ∧ f x ≤ 1000000000)
    (hp : ∀ (W : World) (mb : Nat), Below w.heap.size w W → W.ownsMap Tryz.prog 3 (plainElem (H := Unit) Tryz.prog 3) mb 0 (mapOf []) → Calls Tryz.prog K (#[putV M mb] ++ cap) W fun e w' => e = .returned (.tuple #[]) ∧ ∃ l nn, Puts W w' mb f c [] 0 l nn) :
    Calls Tryz.prog 32 #[.int .i64 M, .func (.func K) #[] cap] w fun e w' => ∃ dn v, e = .returned (.tuple #[.agg #[.int .i64 dn, v], .nilIface]) ∧ LogBy w.heap.size M f w' dn v ∧ Below w.heap.size w w' := by
  obtain ⟨W0, hW0⟩ : ∃ W0, W0 = w.alloc (.cells #[.int .i64 0, .slice none 0 0] 27) := ⟨_, rfl⟩
  have hb0 : Below w.heap.size w W0 := by rw [hW0]; exact new_below _ _
  have hres : ∀ W, Below W0.heap.size W0 W → W.cell? ⟨w.heap.size, 0, none⟩ = some (.int .i64 0) ∧ W.cell? ⟨w.heap.size, 1, none⟩ = some (.slice none 0 0) ∧ W.frozen? ⟨w.heap.size, 0, none⟩ = false ∧ W.frozen? ⟨w.heap.size, 1, none⟩ = false := fun W hb => by
    rw [hW0] at hb
    obtain ⟨q0, q1, q2, q3⟩ := res_past hb
    exact ⟨q0, q1, q2, q3⟩
  have hsz : W0.heap.size = w.heap.size + 1 := by rw [hW0]; simp
  have hov := newSum_any (M : Int) W0
  have HP := Hid.mk' hp
  have HF := Hid.mk' hf
  have HB0 := Hid.mk' hb0
  have HRES := Hid.mk' hres
  have HW0 := Hid.mk' hW0
  have HSZ := Hid.mk' hsz
  clear hp hf hb0 hres hW0 hsz
  go_enter Tryz.func32, Tryz.ntmps32
  go_wp2_with fail
  rw [← HW0.out]
  refine hov.mono ?_
  clear hov
  rintro e w1 ⟨rfl, hown1, hb1⟩
  have HB1 := Hid.mk' hb1
  have ho1 : (w1.alloc (.cells #[.int .i64 M, .map (some (W0.heap.size + 1))] 102)).ownsMap Tryz.prog 3 (plainElem (H := Unit) Tryz.prog 3) (W0.heap.size + 1) 0 (mapOf []) := ownsMap_later hown1 (Below.heap_alloc _ _ _ hown1.lt)
  have HX1 : Hid (w1.cell? ⟨W0.heap.size + 1, 0, none⟩ = none) := map_no_cell hown1
  have hlt1 := hown1.lt
  obtain ⟨W1, hW1⟩ : ∃ W1, W1 = w1.alloc (.cells #[.int .i64 M, .map (some (W0.heap.size + 1))] 102) := ⟨_, rfl⟩
  have hs0 : W1.cell? ⟨w1.heap.size, 0, none⟩ = some (.int .i64 M) := by rw [hW1]; simp
  have hs1 : W1.cell? ⟨w1.heap.size, 1, none⟩ = some (.map (some (W0.heap.size + 1))) := by rw [hW1]; simp
  have HB2 : Hid (Below W0.heap.size W0 W1) := by rw [hW1]; exact below_chain hb1 (new_below _ _)
  rw [← hW1] at ho1
  have HO1 := Hid.mk' ho1
  have HS := Hid.mk' (And.intro hs0 hs1)
  have HW1 := Hid.mk' hW1
  have HLT := Hid.mk' hlt1
  clear hown1 hb1 ho1 hs0 hs1 hW1 hlt1
  go_upto_region 2 with fail
  rw [← HW1.out]
  obtain ⟨hs0, hs1⟩ := HS.out
  have hcall := HP.out W1 (W0.heap.size + 1) (below_chain HB0.out HB2.out) HO1.out
  unfold putV at hcall
  clear HP
  go_wp2_with fail
  refine hcall.mono ?_
  clear hcall hs0 hs1
  rintro e w2 ⟨rfl, l, nn, hpt⟩
  have hne : w1.heap.size ≠ W0.heap.size + 1 := by have := HLT.out; omega
  have hs0 := cell_beside hpt.grow HS.out.1 hne
  have hs1 := cell_beside hpt.grow HS.out.2 hne
  have hz1 := HB2.out.size
  have hlw : w.heap.size < W0.heap.size := by have := HSZ.out; omega
  have HB3 : Hid (Below W0.heap.size W0 w2) := HB2.out.grown hpt.grow HB2.out.size (fun k e => by cases e; omega)
  have hval : ∀ x, atL l x = f x := fun x => by have := hpt.val x; simpa [atL] using this
  have hlen : l.length ≤ 90000 := by have := hpt.len; simp at this; omega
  have hG := gcdL_list (D := M) hpt.rise
  have hfit : ∀ e ∈ l, (e.2.tdiv (gList M (l.map Prod.snd) : Int)).natAbs ≤ 1099511627776 := fun e he => by
    have h1 := HF.out e.1
    rw [← hval, atL_mem hpt.rise he] at h1
    rw [Int.natAbs_tdiv]
    exact Nat.le_trans (Nat.div_le_self _ _) (by omega)
  have ht := told_list (M : Int) (W0.heap.size + 1) nn l w2 hpt.own hpt.rise hpt.keys (by omega) (fun x => by rw [hval]; have := HF.out x; omega) (by omega) (by omega) _ hG (by rw [← Int.natCast_ediv]; exact Int.le_trans (Int.ofNat_le.2 (Nat.div_le_self _ _)) (by omega)) hfit
  have HLB : Hid (Rising l ∧ (∀ x, atL l x = f x) ∧ l.length ≤ 90000) := ⟨hpt.rise, hval, hlen⟩
  have HLW := Hid.mk' hlw
  clear hpt hval hlen hG hfit HF hz1 hlw HS HO1 HW1
  go_wp2_with fail
  refine ht.mono ?_
  clear ht hs0 hs1
  rintro e w3 ⟨v, rfl, hrow, hb3⟩
  obtain ⟨c0, c1, q0, q1⟩ := HRES.out w3 (below_chain HB3.out hb3)
  have HBW := Hid.mk' (below_chain HB0.out (below_chain HB3.out hb3))
  have HZ : Hid (w.heap.size < w2.heap.size) := by have h1 := HLW.out; have h2 := HB3.out.size; show _ < _; omega
  have HROW := Hid.mk' hrow
  obtain ⟨ad, n', c', rfl⟩ : ∃ ad n' c', v = .slice ad n' c' := by
    rcases hrow.2 with ⟨rfl, _⟩ | ⟨gg, cap', cur', rfl, _⟩
    · exact ⟨_, _, _, rfl⟩
    · exact ⟨_, _, _, rfl⟩
  clear hrow hb3 HRES
  go_wp2_with fail
  refine bodyPost_ret (v := .tuple #[.agg #[.int .i64 ((M : Int) / (gList M (l.map Prod.snd) : Int)), .slice ad n' c'], .nilIface]) (by simp [results, Tryz.results32, go_sem, c0, c1]) rfl ⟨_, .slice ad n' c', rfl, ⟨l, HLB.out.1, HLB.out.2.1, HLB.out.2.2, by simp, ?_⟩, ?_⟩
  · have h1 := ownsRow_setCell_below HROW.out (a := ⟨w.heap.size, 0, none⟩) HZ.out (.int .i64 ((M : Int) / (gList M (l.map Prod.snd) : Int)))
    have h2 := ownsRow_setCell_below h1 (a := ⟨w.heap.size, 1, none⟩) HZ.out (.slice ad n' c')
    exact row_base h2 (Nat.le_of_lt HZ.out)
  · exact (HBW.out.setCell (by simp) _).setCell (by simp) _

/-- Two that are told of one sum are the same. -/
theorem isLog_by {M b1 b2 : Nat} {f g : Int → Int} {w : World} {d1 d2 : Int} {v1 v2 : Value} (h1 : LogBy b1 M f w d1 v1) (h2 : LogBy b2 M g w d2 v2) (he : ∀ x, f x = g x) :
    Calls Tryz.prog 12 #[.agg #[.int .i64 d1, v1], .nilIface, .agg #[.int .i64 d2, v2], .int .i64 0] w fun e w' => e = .returned (.bool true) ∧ Below w.heap.size w w' := by
  obtain ⟨l1, r1, a1, n1, rfl, o1⟩ := h1.list
  obtain ⟨l2, r2, a2, n2, rfl, o2⟩ := h2.list
  have hx : ∀ x, atL l1 x = atL l2 x := fun x => by rw [a1, a2, he]
  rw [gList_same r1 r2 hx] at o1 ⊢
  rw [over_same r1 r2 hx] at o1
  exact isLog_ok _ _ _ _ _ _ w o1 o2 (by have := length_over l2 (gList M (l2.map Prod.snd)); omega)
end Go.Proofs.YtgellgobgiolnaaGreatDoor

/- dist.Entropy at any weights. -/
namespace Go.Proofs.YtgellgobgiolnaaGreatDoor
open Go.RowKit Go.Maps

theorem new_one {w w1 : World} {x : Value} {t : TypeId} (hb : Below (w.alloc (.cells #[x] t)).heap.size (w.alloc (.cells #[x] t)) w1) : w1.cell? ⟨w.heap.size, 0, none⟩ = some x := by
  have c0 : (w.alloc (.cells #[x] t)).cell? ⟨w.heap.size, 0, none⟩ = some x := by rw [World.cell?_alloc_at _ _ _ _ rfl]; rfl
  exact (cell_past c0 hb).2

set_option maxRecDepth 100000 in
theorem Entropy_parts (den : Int) (mb B b o cap n : Nat) (z : Nat → Int) (w : World) (hown : w.ownsMap Tryz.prog 3 (plainElem (H := Unit) Tryz.prog 3) mb 0 (mapOf [])) (hB : w.cell? ⟨B, 0, none⟩ = some (.slice (some ⟨b, o, none⟩) n cap)) (h : RowAt w b o n z) (hz : ∀ i, i < n → 0 ≤ z i) (hs : sumN z n ≤ 4096) (hn : n ≤ 256) :
    Calls Tryz.prog 34 #[putV den mb, .pointer (some ⟨B, 0, none⟩)] w fun e w' => e = .returned (.tuple #[]) ∧ ∃ l nn, Puts w w' mb (fun x => sumN (entV z (sumN z n).toNat x) n) (2 * n) [] 0 l nn := by
  have hp := putEntropy_some den mb 0 b o cap n z [] w hown List.Pairwise.nil (fun e he => by cases he) (fun x => by simp [atL]) (by omega) h hz hs hn
  clear hown h hz hs
  unfold putV at hp ⊢
  go_enter Tryz.func34, Tryz.ntmps34
  go_wp2_with fail
  refine hp.mono ?_
  clear hp
  rintro e w1 ⟨rfl, l, nn, hpt⟩
  have HP := Hid.mk' hpt
  clear hpt
  go_wp2_with fail
  go_end0
  exact ⟨rfl, l, nn, HP.out⟩

theorem ent_bound {z : Nat → Int} {n N : Nat} (hz : ∀ i, i < n → 0 ≤ z i ∧ z i ≤ 4096) (hN : N ≤ 4096) (hn : n ≤ 256) (x : Int) : -1000000000 ≤ sumN (entV z N x) n ∧ sumN (entV z N x) n ≤ 1000000000 := by
  have h3 := sumN_bound (f := entV z N x) (B := 200000) (n := n) (fun i hi => entV_le x (hz i hi) hN)
  have : (n : Int) * 200000 ≤ 51200000 := by omega
  omega

set_option maxRecDepth 100000 in
set_option maxHeartbeats 1000000 in
theorem Entropy_ok (a : Nat → Addr) (b o cap n N : Nat) (z : Nat → Int) (w : World) (hE : Errs w a) (h : RowAt w b o n z) (h0 : weightsErr z n = 0) (hN : sumN z n = N) (hz : ∀ i, i < n → 0 ≤ z i) (hn : n ≤ 16) (hN1 : 1 ≤ N) (hN6 : N ≤ 4096) (h0n : 0 < n) :
    Calls Tryz.prog 10 #[.slice (some ⟨b, o, none⟩) n cap] w fun e w' => ∃ dn v, e = .returned (.tuple #[.agg #[.int .i64 dn, v], .nilIface]) ∧ LogBy w.heap.size N (fun x => sumN (entV z N x) n) w' dn v ∧ Below w.heap.size w w' := by
  have hzi : ∀ i, i < n → 0 ≤ z i ∧ z i ≤ 4096 := fun i hi => ⟨hz i hi, by have := sumN_ge hz hi; omega⟩
  have hle : ∀ k, k ≤ n → 0 ≤ sumN z k ∧ sumN z k ≤ 4096 := fun k hk => ⟨sumN_nonneg (fun i hi => hz i (by omega)), by have := sumN_mono hz hk; omega⟩
  obtain ⟨W0, hW0⟩ : ∃ W0, W0 = (w.alloc (.cells #[.slice (some ⟨b, o, none⟩) n cap] 22)).alloc (.cells #[.int .i64 0, .slice none 0 0] 27) := ⟨_, rfl⟩
  have hb0 : Below w.heap.size w W0 := by rw [hW0]; exact below_chain (new_below _ _) (new_below _ _)
  have hbox : W0.cell? ⟨w.heap.size, 0, none⟩ = some (.slice (some ⟨b, o, none⟩) n cap) := by rw [hW0]; exact new_one (new_below _ _)
  have hres : ∀ W, Below W0.heap.size W0 W → W.cell? ⟨w.heap.size + 1, 0, none⟩ = some (.int .i64 0) ∧ W.cell? ⟨w.heap.size + 1, 1, none⟩ = some (.slice none 0 0) ∧ W.frozen? ⟨w.heap.size + 1, 0, none⟩ = false ∧ W.frozen? ⟨w.heap.size + 1, 1, none⟩ = false := fun W hb => by
    rw [hW0] at hb
    have := res_past hb
    simpa using this
  have hv := Valid_weights a (.slice (some ⟨b, o, none⟩) n cap) n z W0 (hE.below hb0) (Or.inr ⟨b, o, cap, rfl, h0n, h.later hb0⟩) (by omega)
  rw [h0] at hv
  have ht := total_some b o cap n z W0 (h.later hb0) (fun k hk => by have := hle k hk; omega) (fun i hi => by have := hzi i hi; omega) (by omega)
  rw [hN] at ht
  have hso := sumOver_any 34 #[.pointer (some ⟨w.heap.size, 0, none⟩)] N (2 * n) (fun x => sumN (entV z N x) n) W0 (enters_of Tryz.func34 (by kernel_rfl) rfl) hN1 hN6 (by omega) (fun x => ent_bound hzi hN6 (by omega) x)
    (fun W mb hb ho => by
      have := Entropy_parts N mb w.heap.size b o cap n z W ho (cell_past hbox hb).2 ((h.later hb0).later hb) hz (by omega) (by omega)
      rw [hN, Int.toNat_natCast] at this
      exact this)
  have HB0 := Hid.mk' hb0
  have HRES := Hid.mk' hres
  have HW0 := Hid.mk' hW0
  have hlt : w.heap.size + 1 < W0.heap.size := by rw [hW0]; simp
  have HLT := Hid.mk' hlt
  clear hE h hb0 hres hW0 hzi hle hz hN h0 hlt
  go_enter Tryz.func10, Tryz.ntmps10
  go_upto_region 1 with fail
  rw [← HW0.out]
  go_wp2_with fail
  refine hv.mono ?_
  clear hv
  rintro e w1 ⟨rfl, hw1⟩
  rw [hw1]
  clear hw1
  rw [errV_zero]
  go_wp2_with (first
    | (go_at_call 33; refine ht.mono ?_; rintro e w2 ⟨rfl, hw2⟩; rw [hw2]; clear hw2)
    | (go_at_call 32; refine hso.mono ?_; rintro e w3 ⟨dn, v, rfl, hlb, hb3⟩; obtain ⟨c0, c1, q0, q1⟩ := HRES.out w3 hb3; have HBW := Hid.mk' (below_chain HB0.out hb3); have HLB := Hid.mk' hlb; obtain ⟨ad, n', c', rfl⟩ := hlb.form; clear hlb))
  refine bodyPost_ret (v := .tuple #[.agg #[.int .i64 dn, .slice ad n' c'], .nilIface]) (by simp [results, Tryz.results10, go_sem, c0, c1]) rfl ⟨_, .slice ad n' c', rfl, (HLB.out.set HLT.out _ _).lower (by have := HLT.out; omega), ?_⟩
  exact (HBW.out.setCell (by simp) _).setCell (by simp) _

set_option maxRecDepth 100000 in
set_option maxHeartbeats 1000000 in
theorem Entropy_bad (a : Nat → Addr) (v : Value) (n : Nat) (z : Nat → Int) (w : World) (hE : Errs w a) (h : NumsAt w v n z) (hn : n ≤ 400) (h0 : weightsErr z n ≠ 0) :
    Calls Tryz.prog 10 #[v] w fun e w' => e = .returned (.tuple #[.agg #[.int .i64 0, .slice none 0 0], errV a (weightsErr z n)]) ∧ Below w.heap.size w w' := by
  obtain ⟨ad, cap, rfl⟩ := h.form
  obtain ⟨W0, hW0⟩ : ∃ W0, W0 = (w.alloc (.cells #[.slice ad n cap] 22)).alloc (.cells #[.int .i64 0, .slice none 0 0] 27) := ⟨_, rfl⟩
  have hb0 : Below w.heap.size w W0 := by rw [hW0]; exact below_chain (new_below _ _) (new_below _ _)
  have hbox : W0.cell? ⟨w.heap.size, 0, none⟩ = some (.slice ad n cap) := by rw [hW0]; exact new_one (new_below _ _)
  have hres : W0.cell? ⟨w.heap.size + 1, 0, none⟩ = some (.int .i64 0) ∧ W0.cell? ⟨w.heap.size + 1, 1, none⟩ = some (.slice none 0 0) ∧ W0.frozen? ⟨w.heap.size + 1, 0, none⟩ = false ∧ W0.frozen? ⟨w.heap.size + 1, 1, none⟩ = false := by
    rw [hW0]
    simp
  have hv := Valid_weights a (.slice ad n cap) n z W0 (hE.below hb0) (h.later hb0) (by omega)
  rw [errV_pos a h0] at hv ⊢
  generalize a (weightsErr z n - 1) = ea at hv ⊢
  obtain ⟨c0, c1, q0, q1⟩ := hres
  have HB0 := Hid.mk' hb0
  have HW0 := Hid.mk' hW0
  clear hE h hb0 hW0 h0
  go_enter Tryz.func10, Tryz.ntmps10
  go_upto_region 1 with fail
  rw [← HW0.out]
  go_wp2_with (go_at_call 31; refine hv.mono ?_; rintro e w1 ⟨rfl, hw1⟩; rw [hw1]; clear hw1)
  refine bodyPost_ret (v := .tuple #[.agg #[.int .i64 0, .slice none 0 0], .iface 184 (.pointer (some ea))]) (by simp [results, Tryz.results10, go_sem, c0, c1]) rfl ⟨rfl, ?_⟩
  exact (HB0.out.setCell (by simp) _).setCell (by simp) _
end Go.Proofs.YtgellgobgiolnaaGreatDoor

/- Two lists of weights: the program's and the document's errors. -/
namespace Go.Proofs.YtgellgobgiolnaaGreatDoor
open Go.RowKit

def twoErr (p : Nat → Int) (n : Nat) (q : Nat → Int) (m : Nat) : Nat := if weightsErr p n ≠ 0 then weightsErr p n else if weightsErr q m ≠ 0 then weightsErr q m else if n ≠ m then 3 else 0

set_option maxRecDepth 100000 in
set_option maxHeartbeats 1000000 in
theorem TwoError_any (v u : Value) (n m : Nat) (p q : Nat → Int) (w : World) (h : NumsAt w v n p) (k : NumsAt w u m q) (hn : n ≤ 1000000) (hm : m ≤ 1000000) :
    Calls Tryz.prog 13 #[v, u] w fun e w' => e = .returned (.int .i64 (twoErr p n q m : Int)) ∧ w' = w := by
  have h1 := WeightsError_any v n p w h hn
  have h2 := WeightsError_any u m q w k hm
  obtain ⟨ad, cap, rfl⟩ := h.form
  obtain ⟨ad', cap', rfl⟩ := k.form
  clear h k
  have HT : Hid (twoErr p n q m = if weightsErr p n ≠ 0 then weightsErr p n else if weightsErr q m ≠ 0 then weightsErr q m else if n ≠ m then 3 else 0) := rfl
  generalize twoErr p n q m = r at HT ⊢
  generalize weightsErr p n = c at h1 HT
  generalize weightsErr q m = d at h2 HT
  by_cases hc : c = 0
  · subst hc
    by_cases hd : d = 0
    · subst hd
      by_cases hnm : n = m
      · subst hnm
        have HR : Hid (r = 0) := by show _ = _; rw [HT.out]; simp
        clear HT
        go_enter Tryz.func13, Tryz.ntmps13
        go_wp2_with fail
        refine h1.mono ?_
        rintro e w1 ⟨rfl, hw1⟩
        rw [hw1]
        clear hw1 h1
        go_wp2_with fail
        refine h2.mono ?_
        rintro e w1 ⟨rfl, hw1⟩
        rw [hw1]
        clear hw1 h2
        go_wp2_with fail
        go_ret
        exact ⟨by rw [HR.out]; rfl, rfl⟩
      · have HR : Hid (r = 3) := by show _ = _; rw [HT.out]; simp [hnm]
        have hb : ((n : Int) == (m : Int)) = false := by simp; omega
        clear HT
        go_enter Tryz.func13, Tryz.ntmps13
        go_wp2_with fail
        refine h1.mono ?_
        rintro e w1 ⟨rfl, hw1⟩
        rw [hw1]
        clear hw1 h1
        go_wp2_with fail
        refine h2.mono ?_
        rintro e w1 ⟨rfl, hw1⟩
        rw [hw1]
        clear hw1 h2
        go_wp2_with fail
        go_ret
        exact ⟨by rw [HR.out]; rfl, rfl⟩
    · have HR : Hid (r = d) := by show _ = _; rw [HT.out]; simp [hd]
      have hb : ((d : Int) == 0) = false := by simpa using hd
      clear HT
      go_enter Tryz.func13, Tryz.ntmps13
      go_wp2_with fail
      refine h1.mono ?_
      rintro e w1 ⟨rfl, hw1⟩
      rw [hw1]
      clear hw1 h1
      go_wp2_with fail
      refine h2.mono ?_
      rintro e w1 ⟨rfl, hw1⟩
      rw [hw1]
      clear hw1 h2
      go_wp2_with fail
      go_ret
      exact ⟨by rw [HR.out]; rfl, rfl⟩
  · have HR : Hid (r = c) := by show _ = _; rw [HT.out]; simp [hc]
    have hb : ((c : Int) == 0) = false := by simpa using hc
    clear HT
    go_enter Tryz.func13, Tryz.ntmps13
    go_wp2_with (go_at_call 8; refine h1.mono ?_; rintro e w1 ⟨rfl, hw1⟩; rw [hw1]; clear hw1)
    go_ret
    exact ⟨by rw [HR.out]; rfl, rfl⟩

set_option maxRecDepth 100000 in
set_option maxHeartbeats 1000000 in
theorem checkPair_any (a : Nat → Addr) (v u : Value) (n m : Nat) (p q : Nat → Int) (w : World) (hE : Errs w a) (h : NumsAt w v n p) (k : NumsAt w u m q) (hn : n ≤ 1000000) (hm : m ≤ 1000000) :
    Calls Tryz.prog 38 #[v, u] w fun e w' => e = .returned (errV a (twoErr p n q m)) ∧ w' = w := by
  have h1 := Valid_weights a v n p w hE h hn
  have h2 := Valid_weights a u m q w hE k hm
  obtain ⟨ad, cap, rfl⟩ := h.form
  obtain ⟨ad', cap', rfl⟩ := k.form
  have e2 := hE.c2
  clear h k hE
  have HT : Hid (twoErr p n q m = if weightsErr p n ≠ 0 then weightsErr p n else if weightsErr q m ≠ 0 then weightsErr q m else if n ≠ m then 3 else 0) := rfl
  generalize twoErr p n q m = r at HT ⊢
  generalize weightsErr p n = c at h1 HT
  generalize weightsErr q m = d at h2 HT
  by_cases hc : c = 0
  · subst hc
    rw [errV_zero] at h1
    by_cases hd : d = 0
    · subst hd
      rw [errV_zero] at h2
      by_cases hnm : n = m
      · subst hnm
        have HR : Hid (r = 0) := by show _ = _; rw [HT.out]; simp
        clear HT
        go_enter Tryz.func38, Tryz.ntmps38
        go_wp2_with fail
        refine h1.mono ?_
        rintro e w1 ⟨rfl, hw1⟩
        rw [hw1]
        clear hw1 h1
        go_wp2_with fail
        refine h2.mono ?_
        rintro e w1 ⟨rfl, hw1⟩
        rw [hw1]
        clear hw1 h2
        go_wp2_with fail
        go_ret
        exact ⟨by rw [HR.out]; rfl, rfl⟩
      · have HR : Hid (r = 3) := by show _ = _; rw [HT.out]; simp [hnm]
        have hb : ((n : Int) == (m : Int)) = false := by simp; omega
        clear HT
        go_enter Tryz.func38, Tryz.ntmps38
        go_wp2_with fail
        refine h1.mono ?_
        rintro e w1 ⟨rfl, hw1⟩
        rw [hw1]
        clear hw1 h1
        go_wp2_with fail
        refine h2.mono ?_
        rintro e w1 ⟨rfl, hw1⟩
        rw [hw1]
        clear hw1 h2
        go_wp2_with fail
        go_ret
        exact ⟨by rw [HR.out]; rfl, rfl⟩
    · have HR : Hid (r = d) := by show _ = _; rw [HT.out]; simp [hd]
      have HD := Hid.mk' (errV_pos a hd)
      rw [HD.out] at h2
      clear HT
      go_enter Tryz.func38, Tryz.ntmps38
      go_wp2_with fail
      refine h1.mono ?_
      rintro e w1 ⟨rfl, hw1⟩
      rw [hw1]
      clear hw1 h1
      go_wp2_with fail
      refine h2.mono ?_
      rintro e w1 ⟨rfl, hw1⟩
      rw [hw1]
      clear hw1 h2
      go_wp2_with fail
      go_ret
      exact ⟨by rw [HR.out, HD.out]; rfl, rfl⟩
  · have HR : Hid (r = c) := by show _ = _; rw [HT.out]; simp [hc]
    have HD := Hid.mk' (errV_pos a hc)
    rw [HD.out] at h1
    clear HT
    go_enter Tryz.func38, Tryz.ntmps38
    go_wp2_with (go_at_call 31; refine h1.mono ?_; rintro e w1 ⟨rfl, hw1⟩; rw [hw1]; clear hw1)
    go_ret
    exact ⟨by rw [HR.out, HD.out]; rfl, rfl⟩
theorem twoErr_ok {p q : Nat → Int} {n m : Nat} (h : twoErr p n q m = 0) : n = m ∧ n ≤ 16 ∧ OkW p n ∧ OkW q m := by
  unfold twoErr at h
  by_cases h1 : weightsErr p n = 0
  · by_cases h2 : weightsErr q m = 0
    · by_cases h3 : n = m
      · refine ⟨h3, ?_⟩
        unfold weightsErr at h1 h2
        by_cases h16 : 16 < n
        · rw [if_pos h16] at h1; cases h1
        · rw [if_neg h16] at h1
          rw [← h3, if_neg h16] at h2
          rw [← h3]
          exact ⟨by omega, listErr_ok h1, listErr_ok h2⟩
      · simp [h1, h2, h3] at h
    · simp [h1, h2] at h
  · simp [h1] at h
end Go.Proofs.YtgellgobgiolnaaGreatDoor

/- whole.Lowest at any fraction. -/
namespace Go.Proofs.YtgellgobgiolnaaGreatDoor
open Go.RowKit

theorem quo_nat30 {a b : Nat} (h : a ≤ 1073741824) : wrap64 ((a : Int) / (b : Int)) = ((a / b : Nat) : Int) := by
  have h0 : (a : Int) / (b : Int) = ((a / b : Nat) : Int) := by simp
  have h1 : a / b ≤ a := Nat.div_le_self _ _
  rw [h0]
  generalize a / b = q at h1
  rw [w64 _ (by omega)]

set_option maxRecDepth 10000 in
set_option maxHeartbeats 1000000 in
theorem lowest_any (n : Int) (d : Nat) (w : World) (h1 : -1073741824 ≤ n) (h2 : n ≤ 1073741824) (hd0 : 1 ≤ d) (hd1 : d ≤ 1073741824) (g : Nat) (hg : g = Nat.gcd n.natAbs d) : Calls Tryz.prog 41 #[.int .i64 n, .int .i64 d] w fun e w' => e = .returned (.agg #[.int .i64 (n.tdiv (g : Int)), .int .i64 ((d / g : Nat) : Int)]) ∧ Below w.heap.size w w' := by
  have hB0 : Below w.heap.size w (w.alloc (.cells #[.int .i64 0, .int .i64 0] 42)) := (Below.refl _ _).alloc (Nat.le_refl _) _
  have hgc := GCD_any n d (w.alloc (.cells #[.int .i64 0, .int .i64 0] 42)) (by omega) (by omega) (by omega) (by omega)
  have hgi : Int.gcd n (d : Int) = g := by rw [hg]; simp [Int.gcd]
  rw [hgi] at hgc
  have hgp : 0 < g := by rw [hg]; exact Nat.gcd_pos_of_pos_right _ hd0
  have hgz : ¬ g = 0 := by omega
  have hgl : g ≤ d := by rw [hg]; exact Nat.gcd_le_right _ (by omega)
  have HB := Hid.mk' hB0
  clear hB0 hgi hg
  go_enter Tryz.func41, Tryz.ntmps41
  go_wp2_with fail
  refine hgc.mono ?_
  clear hgc
  rintro e w1 ⟨rfl, m, rfl⟩
  go_wp2_with fail
  go_region
  go_wp2_with fail
  refine bodyPost_ret (v := .agg #[.int .i64 (n.tdiv (g : Int)), .int .i64 (wrap64 ((d : Int) / (g : Int)))]) (by simp [results, Tryz.results41, go_sem]) rfl ⟨by rw [quo_nat30 hd1], ?_⟩
  exact ((below_drewN HB.out _).setCell (by simp) _).setCell (by simp) _
end Go.Proofs.YtgellgobgiolnaaGreatDoor

/- dist.Variation. -/
namespace Go.Proofs.YtgellgobgiolnaaGreatDoor
open Go.RowKit

/-- How far two are at a place, over both sums. -/
def apV (p q : Nat → Int) (P Q : Nat) (i : Nat) : Int := ((p i * Q - q i * P).natAbs : Int)
theorem mul_le6 {x : Int} {Q : Nat} (hx : 0 ≤ x ∧ x ≤ 4096) (hQ : Q ≤ 4096) : 0 ≤ x * (Q : Int) ∧ x * (Q : Int) ≤ 16777216 := by
  obtain ⟨y, rfl⟩ := Int.eq_ofNat_of_zero_le hx.1
  have h1 : y * Q ≤ 4096 * 4096 := Nat.mul_le_mul (by omega) hQ
  have h2 : (y : Int) * (Q : Int) = ((y * Q : Nat) : Int) := by simp
  rw [h2]
  generalize y * Q = z at h1
  omega
theorem apV_le {p q : Nat → Int} {P Q i : Nat} (hp : 0 ≤ p i ∧ p i ≤ 4096) (hq : 0 ≤ q i ∧ q i ≤ 4096) (hP : P ≤ 4096) (hQ : Q ≤ 4096) : 0 ≤ apV p q P Q i ∧ apV p q P Q i ≤ 16777216 := by
  unfold apV
  have h1 := mul_le6 hp hQ
  have h2 := mul_le6 hq hP
  generalize p i * (Q : Int) = a at *
  generalize q i * (P : Int) = b at *
  omega

set_option maxRecDepth 100000 in
set_option maxHeartbeats 4000000 in
theorem Variation_right (a : Nat → Addr) (b o cap b' o' cap' n P Q g : Nat) (p q : Nat → Int) (w : World) (hE : Errs w a) (h : RowAt w b o n p) (k : RowAt w b' o' n q) (h0 : twoErr p n q n = 0) (hP : sumN p n = P) (hQ : sumN q n = Q) (hg : g = Nat.gcd (sumN (apV p q P Q) n).natAbs (2 * P * Q)) :
    Calls Tryz.prog 16 #[.slice (some ⟨b, o, none⟩) n cap, .slice (some ⟨b', o', none⟩) n cap'] w fun e w' => e = .returned (.tuple #[.agg #[.int .i64 ((sumN (apV p q P Q) n).tdiv (g : Int)), .int .i64 ((2 * P * Q / g : Nat) : Int)], .nilIface]) ∧ Below w.heap.size w w' := by
  obtain ⟨_, hn, hok1, hok2⟩ := twoErr_ok h0
  have h0n := hok1.posN
  have hP1 : 1 ≤ P ∧ P ≤ 4096 := by have := hok1.pos; have := hok1.le; omega
  have hQ1 : 1 ≤ Q ∧ Q ≤ 4096 := by have := hok2.pos; have := hok2.le; omega
  obtain ⟨D, hD⟩ : ∃ D, D = 2 * P * Q := ⟨_, rfl⟩
  have hD1 : 1 ≤ D ∧ D ≤ 33554432 := by
    rw [hD]
    refine ⟨Nat.mul_pos (by omega) (by omega), ?_⟩
    have : 2 * P * Q ≤ 8192 * 4096 := Nat.mul_le_mul (by omega) hQ1.2
    omega
  have hDw : wrap64 (2 * (P : Int) * (Q : Int)) = (D : Int) := by
    rw [show 2 * (P : Int) * (Q : Int) = ((2 * P * Q : Nat) : Int) by simp, ← hD, w64 _ (by omega)]
  rw [← hD] at hg ⊢
  obtain ⟨W0, hW0⟩ : ∃ W0, W0 = w.alloc (.cells #[.int .i64 0, .int .i64 0] 42) := ⟨_, rfl⟩
  have hb0 : Below w.heap.size w W0 := by rw [hW0]; exact new_below _ _
  have hres : ∀ W, Below W0.heap.size W0 W → W.cell? ⟨w.heap.size, 0, none⟩ = some (.int .i64 0) ∧ W.cell? ⟨w.heap.size, 1, none⟩ = some (.int .i64 0) ∧ W.frozen? ⟨w.heap.size, 0, none⟩ = false ∧ W.frozen? ⟨w.heap.size, 1, none⟩ = false := fun W hb => by
    rw [hW0] at hb
    exact res_past hb
  have hcp := checkPair_any a (.slice (some ⟨b, o, none⟩) n cap) (.slice (some ⟨b', o', none⟩) n cap') n n p q W0 (hE.below hb0) (Or.inr ⟨b, o, cap, rfl, h0n, h.later hb0⟩) (Or.inr ⟨b', o', cap', rfl, h0n, k.later hb0⟩) (by omega) (by omega)
  rw [h0, errV_zero] at hcp
  have HR : Hid (RowAt W0 b o n p ∧ RowAt W0 b' o' n q) := ⟨h.later hb0, k.later hb0⟩
  have htp := total_some b o cap n p W0 HR.out.1 (fun k hk => by have := hok1.part hk; omega) (fun i hi => by have := hok1.lt hi; omega) (by omega)
  have htq := total_some b' o' cap' n q W0 HR.out.2 (fun k hk => by have := hok2.part hk; omega) (fun i hi => by have := hok2.lt hi; omega) (by omega)
  rw [hP] at htp
  rw [hQ] at htq
  have HPI : Hid (∀ i, i < n → 0 ≤ p i ∧ p i ≤ 4096) := fun i hi => hok1.lt hi
  have HQI : Hid (∀ i, i < n → 0 ≤ q i ∧ q i ≤ 4096) := fun i hi => hok2.lt hi
  have HSB : Hid (∀ k, k ≤ n → 0 ≤ sumN (apV p q P Q) k ∧ sumN (apV p q P Q) k ≤ 268435456) := fun k hk => by
    have h1 := sumN_nonneg (z := apV p q P Q) (n := k) (fun i hi => (apV_le (HPI.out i (by omega)) (HQI.out i (by omega)) hP1.2 hQ1.2).1)
    have h2 := sumN_bound (f := apV p q P Q) (B := 16777216) (n := k) (fun i hi => by have := apV_le (HPI.out i (by omega)) (HQI.out i (by omega)) hP1.2 hQ1.2; omega)
    have : (k : Int) * 16777216 ≤ 268435456 := by omega
    omega
  have hDu : D ≤ 1073741824 := Nat.le_trans hD1.2 (by decide)
  have hSn := HSB.out n (Nat.le_refl _)
  have HLO : Hid (∀ W : World, Calls Tryz.prog 41 #[.int .i64 (sumN (apV p q P Q) n), .int .i64 D] W fun e w' => e = .returned (.agg #[.int .i64 ((sumN (apV p q P Q) n).tdiv (g : Int)), .int .i64 ((D / g : Nat) : Int)]) ∧ Below W.heap.size W w') := fun W => lowest_any _ D W (Int.le_trans (by decide) hSn.1) (Int.le_trans hSn.2 (by decide)) hD1.1 hDu g hg
  clear hSn hDu
  have HB0 := Hid.mk' hb0
  have HRES := Hid.mk' hres
  have HW0 := Hid.mk' hW0
  have HDW := Hid.mk' hDw
  clear hE h k hb0 hres hW0 hok1 hok2 h0 hP hQ hD hg hDw
  go_enter Tryz.func16, Tryz.ntmps16
  go_upto_region 1 with fail
  rw [← HW0.out]
  go_wp2_with (first
    | (go_at_call 38; refine hcp.mono ?_; rintro e w1 ⟨rfl, hw1⟩; rw [hw1]; clear hw1)
    | (go_at_call_of 33 b; refine htp.mono ?_; rintro e w1 ⟨rfl, hw1⟩; rw [hw1]; clear hw1)
    | (go_at_call_of 33 b'; refine htq.mono ?_; rintro e w1 ⟨rfl, hw1⟩; rw [hw1]; clear hw1))
  clear hcp htp htq
  go_loopw [9, 10, 24] (fun s _ i wr => ∃ k : Nat, k ≤ n ∧ s = .int .i64 (sumN (apV p q P Q) k) ∧ i = .int .i64 k ∧ Hid (Below W0.heap.size W0 wr)) (fun _ _ i _ => n - (intOf i).toNat)
  case atStart => exact ⟨0, Nat.zero_le _, rfl, rfl, Hid.mk' (Below.refl _ _)⟩
  case round =>
    obtain ⟨k, hk, rfl, rfl, HW⟩ := hrel
    rcases Nat.lt_or_ge k n with h1 | h1
    · have hcP := (HR.out.1.later HW.out) k h1
      have hcQ := (HR.out.2.later HW.out) k h1
      have hkn : (k : Int) < (n : Int) := by omega
      have hk0 : (0 : Int) ≤ (k : Int) := by omega
      have HV : Hid (sumN (apV p q P Q) (k + 1) = sumN (apV p q P Q) k + ((p k * Q - q k * P).natAbs : Int)) := rfl
      have hs1 := HSB.out k hk
      have hx := mul_le6 (HPI.out k h1) hQ1.2
      have hy := mul_le6 (HQI.out k h1) hP1.2
      have hxw := w64 (p k * (Q : Int)) (by omega)
      have hyw := w64 (q k * (P : Int)) (by omega)
      generalize p k = x at *
      generalize q k = y at *
      obtain ⟨A, hA⟩ : ∃ A, A = x * (Q : Int) := ⟨_, rfl⟩
      obtain ⟨B, hB⟩ : ∃ B, B = y * (P : Int) := ⟨_, rfl⟩
      rw [← hA] at hx hxw HV
      rw [← hB] at hy hyw HV
      have hxm : wrap64 (x * (Q : Int)) = A := by rw [← hA]; exact hxw
      have hym : wrap64 (y * (P : Int)) = B := by rw [← hB]; exact hyw
      generalize sumN (apV p q P Q) k = S at *
      have hsz := fun W => size_any (A - B) W (by omega) (by omega)
      have hdf : wrap64 (A - B) = A - B := w64 _ (by omega)
      clear hA hB hxw hyw
      go_wp2_with fail
      go_quiet ((first | (go_at_call 40; exact (hsz _).mono fun _ _ h => ⟨h.1, _, h.2⟩)))
      go_wp2_with fail
      exact ⟨⟨k + 1, by omega, by rw [HV.out], by go_num, below_drewN HW.out _⟩, by simp [intOf]; omega⟩
    · obtain rfl : k = n := by omega
      obtain ⟨c0, c1, q0, q1⟩ := HRES.out wr HW.out
      have hlo := HLO.out wr
      have HBW := Hid.mk' (below_chain HB0.out HW.out)
      clear HLO HRES
      go_wp2_with fail
      rw [HDW.out]
      refine hlo.mono ?_
      clear hlo
      rintro e w2 ⟨rfl, hb2⟩
      have d0 := (cell_past c0 hb2).2
      have d1 := (cell_past c1 hb2).2
      have e0 := (frozen_past c0 q0 hb2).2
      have e1 := (frozen_past c1 q1 hb2).2
      have HB2 := Hid.mk' (below_chain HBW.out hb2)
      clear c0 c1 q0 q1 hb2
      go_wp2_with fail
      refine bodyPost_ret (v := .tuple #[.agg #[.int .i64 ((sumN (apV p q P Q) k).tdiv (g : Int)), .int .i64 ((D / g : Nat) : Int)], .nilIface]) (by simp [results, Tryz.results16, go_sem, d0, d1]) rfl ⟨rfl, ?_⟩
      exact (HB2.out.setCell (Nat.le_refl _) _).setCell (Nat.le_refl _) _

set_option maxRecDepth 100000 in
set_option maxHeartbeats 1000000 in
theorem Variation_bad (a : Nat → Addr) (v u : Value) (n m : Nat) (p q : Nat → Int) (w : World) (hE : Errs w a) (h : NumsAt w v n p) (k : NumsAt w u m q) (hn : n ≤ 400) (hm : m ≤ 400) (h0 : twoErr p n q m ≠ 0) :
    Calls Tryz.prog 16 #[v, u] w fun e w' => e = .returned (.tuple #[.agg #[.int .i64 0, .int .i64 0], errV a (twoErr p n q m)]) ∧ Below w.heap.size w w' := by
  obtain ⟨ad, cap, rfl⟩ := h.form
  obtain ⟨ad', cap', rfl⟩ := k.form
  obtain ⟨W0, hW0⟩ : ∃ W0, W0 = w.alloc (.cells #[.int .i64 0, .int .i64 0] 42) := ⟨_, rfl⟩
  have hb0 : Below w.heap.size w W0 := by rw [hW0]; exact new_below _ _
  have hres : W0.cell? ⟨w.heap.size, 0, none⟩ = some (.int .i64 0) ∧ W0.cell? ⟨w.heap.size, 1, none⟩ = some (.int .i64 0) ∧ W0.frozen? ⟨w.heap.size, 0, none⟩ = false ∧ W0.frozen? ⟨w.heap.size, 1, none⟩ = false := by
    rw [hW0]
    exact res_past (Below.refl _ _)
  have hcp := checkPair_any a (.slice ad n cap) (.slice ad' m cap') n m p q W0 (hE.below hb0) (h.later hb0) (k.later hb0) (by omega) (by omega)
  rw [errV_pos a h0] at hcp ⊢
  generalize a (twoErr p n q m - 1) = ea at hcp ⊢
  obtain ⟨c0, c1, q0, q1⟩ := hres
  have HB0 := Hid.mk' hb0
  have HW0 := Hid.mk' hW0
  clear hE h k hb0 hW0 h0
  go_enter Tryz.func16, Tryz.ntmps16
  go_upto_region 1 with fail
  rw [← HW0.out]
  go_wp2_with (go_at_call 38; refine hcp.mono ?_; rintro e w1 ⟨rfl, hw1⟩; rw [hw1]; clear hw1)
  refine bodyPost_ret (v := .tuple #[.agg #[.int .i64 0, .int .i64 0], .iface 184 (.pointer (some ea))]) (by simp [results, Tryz.results16, go_sem, c0, c1]) rfl ⟨rfl, ?_⟩
  exact (HB0.out.setCell (Nat.le_refl _) _).setCell (Nat.le_refl _) _
end Go.Proofs.YtgellgobgiolnaaGreatDoor

/- The document's differences. -/
namespace Go.Proofs.YtgellgobgiolnaaGreatDoor
open Go.RowKit

set_option maxRecDepth 10000 in
set_option maxHeartbeats 4000000 in
/-- Minus: the difference, in its lowest terms. -/
theorem Minus_ratio (v1 v2 : Value) (n1 n2 : Int) (d1 d2 k : Nat) (w : World) (h1 : RatioAt w v1 n1 d1) (h2 : RatioAt w v2 n2 d2) (hd1 : 0 < d1) (hd2 : 0 < d2) (hn1 : n1.natAbs < 1000000 ^ k) (hn2 : n2.natAbs < 1000000 ^ k) (hk1 : d1 < 1000000 ^ k) (hk2 : d2 < 1000000 ^ k) (hk : k + k + 1 + 1 ≤ 1000000) :
    Calls Tryz.prog 36 #[v1, v2] w fun e w' => ∃ r, e = .returned r ∧ RatioAt w' r ((n1 * d2 + -n2 * d1).tdiv ((Nat.gcd (n1 * d2 + -n2 * d1).natAbs (d1 * d2) : Nat) : Int)) (d1 * d2 / Nat.gcd (n1 * d2 + -n2 * d1).natAbs (d1 * d2)) ∧ Below w.heap.size w w' := by
  obtain ⟨u1, q1, rfl, hu1, hq1⟩ := h1
  obtain ⟨u2, q2, rfl, hu2, hq2⟩ := h2
  obtain ⟨ad1, l1, cap1, rfl, _⟩ := hu1.len
  obtain ⟨bd1, m1, bap1, rfl, _⟩ := hq1.len
  obtain ⟨ad2, l2, cap2, rfl, _⟩ := hu2.len
  obtain ⟨bd2, m2, bap2, rfl, _⟩ := hq2.len
  obtain ⟨s1, hs1⟩ : ∃ s, decide (n1 < 0) = s := ⟨_, rfl⟩
  obtain ⟨s2, hs2⟩ : ∃ s, decide (n2 < 0) = s := ⟨_, rfl⟩
  rw [hs1, hs2]
  have hB0 : Below w.heap.size w (((w.alloc (.cells #[.bool s1, .slice ad1 l1 cap1, .slice bd1 m1 bap1] 52)).alloc (.cells #[.bool s2, .slice ad2 l2 cap2, .slice bd2 m2 bap2] 52)).alloc (.cells #[.bool false, .slice none 0 0, .slice none 0 0] 52)) := (((Below.refl _ _).alloc (Nat.le_refl _) _).alloc (by simp) _).alloc (by simp; omega) _
  have hN := noInts_third3 w (.cells #[.bool s1, .slice ad1 l1 cap1, .slice bd1 m1 bap1] 52) (.cells #[.bool s2, .slice ad2 l2 cap2, .slice bd2 m2 bap2] 52) 52
  have hNP := fun (w1 : World) => nine_past (w := w) (w1 := w1) (x0 := .bool s1) (x1 := .slice ad1 l1 cap1) (x2 := .slice bd1 m1 bap1) (y0 := .bool s2) (y1 := .slice ad2 l2 cap2) (y2 := .slice bd2 m2 bap2) (r0 := .bool false) (r1 := .slice none 0 0) (r2 := .slice none 0 0) (t := 52)
  have hz0 : w.heap.size + 1 + 1 + 1 = (((w.alloc (.cells #[.bool s1, .slice ad1 l1 cap1, .slice bd1 m1 bap1] 52)).alloc (.cells #[.bool s2, .slice ad2 l2 cap2, .slice bd2 m2 bap2] 52)).alloc (.cells #[.bool false, .slice none 0 0, .slice none 0 0] 52)).heap.size := by simp
  generalize hW : (((w.alloc (.cells #[.bool s1, .slice ad1 l1 cap1, .slice bd1 m1 bap1] 52)).alloc (.cells #[.bool s2, .slice ad2 l2 cap2, .slice bd2 m2 bap2] 52)).alloc (.cells #[.bool false, .slice none 0 0, .slice none 0 0] 52)) = W0 at hB0 hN hNP hz0
  have hKS : ∀ W, Below (w.heap.size + 1 + 1) W0 W → (W.cell? ⟨w.heap.size, 0, none⟩ = some (.bool s1) ∧ W.cell? ⟨w.heap.size, 1, none⟩ = some (.slice ad1 l1 cap1) ∧ W.cell? ⟨w.heap.size, 2, none⟩ = some (.slice bd1 m1 bap1)) ∧ (W.cell? ⟨w.heap.size + 1, 0, none⟩ = some (.bool s2) ∧ W.cell? ⟨w.heap.size + 1, 1, none⟩ = some (.slice ad2 l2 cap2) ∧ W.cell? ⟨w.heap.size + 1, 2, none⟩ = some (.slice bd2 m2 bap2)) := fun W hb => by
    obtain ⟨⟨a0, a1, a2⟩, ⟨b0, b1, b2⟩, _⟩ := hNP W0 (Below.refl _ _)
    have ha : ∀ j v, W0.cell? ⟨w.heap.size, j, none⟩ = some v → W.cell? ⟨w.heap.size, j, none⟩ = some v := fun j v h => by rw [hb.cell (p := ⟨w.heap.size, j, none⟩) (by show w.heap.size < _; omega)]; exact h
    have hb' : ∀ j v, W0.cell? ⟨w.heap.size + 1, j, none⟩ = some v → W.cell? ⟨w.heap.size + 1, j, none⟩ = some v := fun j v h => by rw [hb.cell (p := ⟨w.heap.size + 1, j, none⟩) (by show w.heap.size + 1 < _; omega)]; exact h
    exact ⟨⟨ha 0 _ a0, ha 1 _ a1, ha 2 _ a2⟩, ⟨hb' 0 _ b0, hb' 1 _ b1, hb' 2 _ b2⟩⟩
  have HS2 := Hid.mk' (show SignedAt W0.drew (.agg #[.bool s2, .slice ad2 l2 cap2]) n2 from ⟨_, by rw [hs2], (hu2.later hB0).later ((Below.refl _ _).drew)⟩)
  have HD2 := Hid.mk' ((hq2.later hB0).later ((Below.refl _ _).drew))
  have HR1 := Hid.mk' (show RatioAt W0.drew (.agg #[.bool s1, .slice ad1 l1 cap1, .slice bd1 m1 bap1]) n1 d1 from ⟨_, _, by rw [hs1], (hu1.later hB0).later ((Below.refl _ _).drew), (hq1.later hB0).later ((Below.refl _ _).drew)⟩)
  have hback := SignedBack_any _ n2 W0.drew HS2.out
  have HBACK := Hid.mk' hback
  have HKS := Hid.mk' hKS
  have HW := Hid.mk' hW
  have HNP := Hid.mk' hNP
  have HN := Hid.mk' hN
  have HB := Hid.mk' hB0
  have HBD : Hid (n1.natAbs < 1000000 ^ k ∧ (-n2).natAbs < 1000000 ^ k ∧ d1 < 1000000 ^ k ∧ d2 < 1000000 ^ k) := ⟨hn1, by rw [Int.natAbs_neg]; exact hn2, hk1, hk2⟩
  have hcur0 : Below (w.heap.size + 1 + 1) W0 W0 := Below.refl _ _
  have hcur : Below (w.heap.size + 1 + 1) W0 W0.drew := (Below.refl _ _).drew
  obtain ⟨zz, hzz⟩ : ∃ zz, zz = n1 * (d2 : Int) + -n2 * (d1 : Int) := ⟨_, rfl⟩
  rw [← hzz]
  have HZZ := Hid.mk' hzz
  clear hs1 hs2 hu1 hu2 hq1 hq2 hB0 hN hNP hW hKS hback hn1 hn2 hk1 hk2 hzz
  go_enter Tryz.func36, Tryz.ntmps36
  go_wp2_with fail
  rw [HW.out]
  go_region_held3 (fun W => (W.cell? ⟨w.heap.size, 0, none⟩ = some (.bool s1) ∧ W.cell? ⟨w.heap.size, 1, none⟩ = some (.slice ad1 l1 cap1) ∧ W.cell? ⟨w.heap.size, 2, none⟩ = some (.slice bd1 m1 bap1)) ∧ (W.cell? ⟨w.heap.size + 1, 0, none⟩ = some (.bool s2) ∧ W.cell? ⟨w.heap.size + 1, 1, none⟩ = some (.slice ad2 l2 cap2) ∧ W.cell? ⟨w.heap.size + 1, 2, none⟩ = some (.slice bd2 m2 bap2)))
    (first | exact HKS.out _ hcur0 | exact HKS.out _ hcur | exact HKS.out _ hc1 | exact HKS.out _ hc3 | exact HKS.out _ (below_set3 hc3 (Nat.le_refl _) _ _ _))
    (first
      | (go_at_call 51; refine HBACK.out.mono ?_; rintro e w1 ⟨sv, rfl, ⟨us, rfl, hus⟩, hb1⟩; obtain ⟨sg, hsg⟩ : ∃ sg, decide (-n2 < 0) = sg := ⟨_, rfl⟩; rw [hsg]; obtain ⟨ad3, l3, cap3, rfl, _⟩ := hus.len; have hbw1 := below_chain ((Below.refl _ _).drew) hb1; have hc1 : Below (w.heap.size + 1 + 1) W0 w1 := hbw1.mono (by omega); have HRA : Hid (RatioAt w1 (.agg #[.bool sg, .slice ad3 l3 cap3, .slice bd2 m2 bap2]) (-n2) d2) := ⟨_, _, by rw [hsg], hus, HD2.out.later hb1⟩; have HRB := Hid.mk' (HR1.out.later hb1); have HBW1 := Hid.mk' hbw1; clear hus hb1 hbw1 hsg)
      | (go_at_call 45; refine (Plus_ratio _ _ n1 (-n2) d1 d2 k w1 HRB.out HRA.out hd1 hd2 HBD.out.1 HBD.out.2.1 HBD.out.2.2.1 HBD.out.2.2.2 hk).mono ?_; rintro e w3 ⟨rv, rfl, hrv, hb3⟩; rw [← HZZ.out] at hrv; obtain ⟨ur, qr, rfl, hur, hqr⟩ := hrv; obtain ⟨ad5, l5, cap5, rfl, _⟩ := hur.len; obtain ⟨ad6, l6, cap6, rfl, _⟩ := hqr.len; have hbw3 := below_chain HBW1.out hb3; have hc3 : Below (w.heap.size + 1 + 1) W0 w3 := hbw3.mono (by omega); obtain ⟨_, _, ⟨c0, c1, c2⟩, f0, f1, f2⟩ := HNP.out w3 hbw3; have HUR := Hid.mk' hur; have HQR := Hid.mk' hqr; have HBW3 := Hid.mk' hbw3; clear hur hqr hb3 hbw3))
  go_wp2_with fail
  refine bodyPost_ret (v := .agg #[.bool (decide (zz.tdiv ((Nat.gcd zz.natAbs (d1 * d2) : Nat) : Int) < 0)), .slice ad5 l5 cap5, .slice ad6 l6 cap6]) (by simp [results, Tryz.results36, go_sem, c0, c1, c2]) rfl ⟨_, rfl, ⟨_, _, rfl, HUR.out.set3 (HN.out.later (by omega) HBW3.out) c0 c1, HQR.out.set3 (HN.out.later (by omega) HBW3.out) c0 c1⟩, below_set3 (below_chain HB.out HBW3.out) (by omega) _ _ _⟩

/-- What is less than nothing by a part of M. -/
theorem low_minus {M : Nat} (hM : 0 < M) (z : Int) : (0 * (lowD M z : Int) + -lowN M z * (1 : Nat)).tdiv ((Nat.gcd (0 * (lowD M z : Int) + -lowN M z * (1 : Nat)).natAbs (1 * lowD M z) : Nat) : Int) = lowN M (-z) ∧ 1 * lowD M z / Nat.gcd (0 * (lowD M z : Int) + -lowN M z * (1 : Nat)).natAbs (1 * lowD M z) = lowD M (-z) := by
  refine low_same hM (by have := lowD_pos hM z; omega) ?_
  have h1 := low_cross hM z
  rw [Nat.one_mul]
  generalize lowN M z = a at *
  generalize (lowD M z : Int) = c at *
  simp only [Int.zero_mul, Int.zero_add, Int.natCast_one, Int.mul_one]
  rw [Int.neg_mul, h1, Int.neg_mul]
/-- A part of a part: n of M times x of n is x of M. -/
theorem low_times {M n : Nat} (hM : 0 < M) (hn : 0 < n) (x : Int) : (lowN M n * lowN n x).tdiv ((Nat.gcd (lowN M n * lowN n x).natAbs (lowD M n * lowD n x) : Nat) : Int) = lowN M x ∧ lowD M n * lowD n x / Nat.gcd (lowN M n * lowN n x).natAbs (lowD M n * lowD n x) = lowD M x := by
  refine low_same hM (Nat.mul_pos (lowD_pos hM n) (lowD_pos hn x)) ?_
  have h1 := low_cross hM (n : Int)
  have h2 := low_cross hn x
  rw [Int.natCast_mul]
  generalize lowN M n = a at *
  generalize lowN n x = b at *
  generalize (lowD M n : Int) = c at *
  generalize (lowD n x : Int) = e at *
  calc a * b * (M : Int) = (a * (M : Int)) * b := by rw [Int.mul_assoc, Int.mul_comm b, ← Int.mul_assoc]
    _ = (b * (n : Int)) * c := by rw [h1, Int.mul_comm (n : Int) c, Int.mul_assoc, Int.mul_comm c, Int.mul_comm (n : Int) b]
    _ = x * (c * e) := by rw [h2, Int.mul_assoc, Int.mul_comm e c]
theorem low_self {M : Nat} (hM : 0 < M) : lowN M M = 1 ∧ lowD M M = 1 := by
  have h := low_same (M := M) (d := 1) (z := (M : Int)) (n := 1) hM (by decide) (by simp)
  simpa using And.intro h.1.symm h.2.symm
end Go.Proofs.YtgellgobgiolnaaGreatDoor

/- The document's Entropy of a Wide, and EntropyOf. -/
namespace Go.Proofs.YtgellgobgiolnaaGreatDoor
open Go.RowKit

/-- A Wide to which f came, in at most c calls. -/
structure WPuts (base M B : Nat) (W0 wr : World) (f : Int → Int) (c : Nat) (L0 : List Ent) (vp vc : Value) (L : List Ent) : Prop where
  wide : WideAt base M wr B vp vc L
  rise : Rising (absL L)
  val : ∀ x, atL (absL L) x = atL (absL L0) x + f x
  len : L.length ≤ L0.length + 20 * c
  kept : IntsKept W0 wr
  moved : Moved B W0 wr
  below : Below base W0 wr
theorem WPuts.trans {base M B : Nat} {W0 W1 W2 : World} {f g : Int → Int} {c d : Nat} {L0 L1 L2 : List Ent} {vp vc vp' vc' : Value} (h : WPuts base M B W0 W1 f c L0 vp vc L1) (k : WPuts base M B W1 W2 g d L1 vp' vc' L2) : WPuts base M B W0 W2 (fun x => f x + g x) (c + d) L0 vp' vc' L2 :=
  ⟨k.wide, k.rise, fun x => by rw [k.val, h.val]; omega, by have := h.len; have := k.len; omega, h.kept.trans k.kept, h.moved.trans k.moved, h.below.trans k.below⟩
theorem WPuts.congr {base M B : Nat} {W0 W1 : World} {f g : Int → Int} {c d : Nat} {L0 L1 : List Ent} {vp vc : Value} (h : WPuts base M B W0 W1 f c L0 vp vc L1) (hc : c ≤ d) (he : ∀ x, f x = g x) : WPuts base M B W0 W1 g d L0 vp vc L1 :=
  ⟨h.wide, h.rise, fun x => by rw [h.val, he], by have := h.len; omega, h.kept, h.moved, h.below⟩
theorem WPuts.later {base M B : Nat} {W0 W1 W2 : World} {f : Int → Int} {c : Nat} {L0 L1 : List Ent} {vp vc : Value} (h : WPuts base M B W0 W1 f c L0 vp vc L1) (hb : Below W1.heap.size W1 W2) : WPuts base M B W0 W2 f c L0 vp vc L1 :=
  ⟨h.wide.later hb, h.rise, h.val, h.len, h.kept.trans (IntsKept.of_below hb), h.moved.trans (Moved.of_below hb h.wide.lt), h.below.trans (hb.mono (by have := h.wide.hB; have := h.wide.lt; omega))⟩
theorem WPuts.start {base M B : Nat} {W0 : World} {L : List Ent} {vp vc : Value} (h : WideAt base M W0 B vp vc L) (hr : Rising (absL L)) {f : Int → Int} (hf : ∀ x, f x = 0) (c : Nat) : WPuts base M B W0 W0 f c L vp vc L :=
  ⟨h, hr, fun x => by rw [hf]; omega, by omega, IntsKept.refl _, Moved.refl _ _, Below.refl _ _⟩
/-- Number, in these words. -/
theorem Number_by (base M B n0 : Nat) (z : Int) (cv vp vc : Value) (L : List Ent) (w : World) (hW : WideAt base M w B vp vc L) (hc : RatioAt w cv (lowN M z) (lowD M z)) (hM : 0 < M) (hM6 : M ≤ 4096) (hr : Rising (absL L)) (hlen : L.length ≤ 90000) (hn1 : 1 ≤ n0) (hn6 : n0 ≤ 1000000) (hb : ∀ x, -1000000000000000 ≤ atL (absL L) x ∧ atL (absL L) x ≤ 1000000000000000) (hz : -1000000 ≤ z ∧ z ≤ 1000000) :
    Calls Tryz.prog 37 #[.pointer (some ⟨B, 0, none⟩), .int .i64 n0, cv] w fun e w' => e = .returned (.tuple #[]) ∧ ∃ vp' vc' L', WPuts base M B w w' (fun x => z * multI x n0) 1 L vp' vc' L' := by
  have p3 : (1000000 : Nat) ^ 3 = 1000000000000000000 := by decide
  refine (Number_any base M B n0 z cv vp vc L 3 w hW hc hM hr hlen hn1 hn6 (fun x => by rw [p3]; have := hb x; omega) (by rw [p3]; omega) (by decide)).mono ?_
  rintro e w' ⟨rfl, vp', vc', L', k, h⟩
  have hk := h.cnt_le (by decide) hn6
  refine ⟨rfl, vp', vc', L', h.wide, h.rise, fun x => ?_, by have := h.len; omega, h.kept, h.moved, h.below⟩
  have := h.val x
  rw [multI_one, Int.mul_zero, Int.add_zero] at this
  exact this

/-- A fraction in a box. -/
structure RBox (W0 W : World) (B : Nat) (n : Int) (d : Nat) : Prop where
  below : Below W0.heap.size W0 W
  hB : W0.heap.size ≤ B
  box : ∃ s ad l cap ad' l' cap', W.cell? ⟨B, 0, none⟩ = some (.bool s) ∧ W.cell? ⟨B, 1, none⟩ = some (.slice ad l cap) ∧ W.cell? ⟨B, 2, none⟩ = some (.slice ad' l' cap') ∧ RatioAt W (.agg #[.bool s, .slice ad l cap, .slice ad' l' cap']) n d
theorem rBox_late {W0 W : World} {n : Int} {d : Nat} {s : Bool} {ad ad' : Option Addr} {l cap l' cap' : Nat} (h : Below W0.heap.size W0 W) (hr : RatioAt W (.agg #[.bool s, .slice ad l cap, .slice ad' l' cap']) n d) : RBox W0 (W.alloc (.cells #[.bool s, .slice ad l cap, .slice ad' l' cap'] 52)) W.heap.size n d :=
  ⟨more_below h _, h.size, s, ad, l, cap, ad', l', cap', by simp, by simp, by simp, hr.later (new_below _ _)⟩
theorem rBox_soon {W0 W : World} {B : Nat} {n : Int} {d : Nat} {s : Bool} {ad ad' : Option Addr} {l cap l' cap' : Nat} (h : Below W0.heap.size W0 W) (hr : RatioAt W (.agg #[.bool s, .slice ad l cap, .slice ad' l' cap']) n d) (hn : NewBox3 W0 W B) : RBox W0 (((W.setCell ⟨B, 0, none⟩ (.bool s)).setCell ⟨B, 1, none⟩ (.slice ad l cap)).setCell ⟨B, 2, none⟩ (.slice ad' l' cap')) B n d := by
  refine ⟨below_set3 h hn.hB _ _ _, hn.hB, s, ad, l, cap, ad', l', cap', ?_, ?_, ?_, ?_⟩
  · rw [World.cell?_setCell_other _ _ _ _ (by simp), World.cell?_setCell_other _ _ _ _ (by simp)]; exact World.cell?_setCell_same _ _ _ hn.c0
  · rw [World.cell?_setCell_other _ _ _ _ (by simp)]; exact World.cell?_setCell_same _ _ _ (by rw [World.cell?_setCell_other _ _ _ _ (by simp)]; exact hn.c1)
  · exact World.cell?_setCell_same _ _ _ (by rw [World.cell?_setCell_other _ _ _ _ (by simp), World.cell?_setCell_other _ _ _ _ (by simp)]; exact hn.c2)
  · obtain ⟨u, q, hv, hu, hq⟩ := hr
    have hv' := hv
    simp only [Value.agg.injEq, Array.mk.injEq, List.cons.injEq, and_true] at hv'
    obtain ⟨_, rfl, rfl⟩ := hv'
    exact ⟨_, _, hv, hu.set3 hn.no hn.c0 hn.c1, hq.set3 hn.no hn.c0 hn.c1⟩
theorem RatioOf_low (x : Int) (n : Nat) (w : World) (h0 : -1000000 ≤ x ∧ x ≤ 1000000) (hd : 0 < n) (hd1 : n ≤ 1000000) :
    Calls Tryz.prog 23 #[.int .i64 x, .int .i64 n] w fun e w' => ∃ r, e = .returned r ∧ RatioAt w' r (lowN n x) (lowD n x) ∧ Below w.heap.size w w' := RatioOf_any x n w (by omega) (by omega) hd (by omega)
theorem low_lt {M : Nat} (hM : 0 < M) {z : Int} (hM6 : M ≤ 4096) (hz : -1000000 ≤ z ∧ z ≤ 1000000) : (lowN M z).natAbs < 1000000 ^ 3 ∧ lowD M z < 1000000 ^ 3 := by
  have p3 : (1000000 : Nat) ^ 3 = 1000000000000000000 := by decide
  have h1 := lowN_le hM z
  have h2 := lowD_le M z
  rw [p3]
  omega
/-- A chance of a chance. -/
theorem Times_low (M n : Nat) (x : Int) (c r : Value) (w : World) (hc : RatioAt w c (lowN M n) (lowD M n)) (hr : RatioAt w r (lowN n x) (lowD n x)) (hM : 0 < M) (hM6 : M ≤ 4096) (hn : 0 < n) (hn6 : n ≤ 4096) (hx : -1000000 ≤ x ∧ x ≤ 1000000) :
    Calls Tryz.prog 21 #[c, r] w fun e w' => ∃ r', e = .returned r' ∧ RatioAt w' r' (lowN M x) (lowD M x) ∧ Below w.heap.size w w' := by
  have l1 := low_lt hM (z := (n : Int)) hM6 (by omega)
  have l2 := low_lt hn (z := x) hn6 hx
  have h := Times_ratio c r _ _ _ _ 3 w hc hr (lowD_pos hM _) (lowD_pos hn _) l1.1 l2.1 l1.2 l2.2 (by decide)
  have e := low_times hM hn x
  rw [e.1, e.2] at h
  exact h
/-- What is less than nothing. -/
theorem Minus_low (M : Nat) (x : Int) (o r : Value) (w : World) (ho : RatioAt w o (lowN 1 0) (lowD 1 0)) (hr : RatioAt w r (lowN M x) (lowD M x)) (hM : 0 < M) (hM6 : M ≤ 4096) (hx : -1000000 ≤ x ∧ x ≤ 1000000) :
    Calls Tryz.prog 36 #[o, r] w fun e w' => ∃ r', e = .returned r' ∧ RatioAt w' r' (lowN M (-x)) (lowD M (-x)) ∧ Below w.heap.size w w' := by
  have l2 := low_lt hM (z := x) hM6 hx
  have l1 := low_lt (M := 1) (by decide) (z := 0) (by decide) (by omega)
  rw [(low_one 0).1, (low_one 0).2] at ho l1
  have h := Minus_ratio o r 0 _ 1 _ 3 w ho hr (by decide) (lowD_pos hM _) l1.1 l2.1 l1.2 l2.2 (by decide)
  have e := low_minus hM x
  rw [e.1, e.2] at h
  exact h
end Go.Proofs.YtgellgobgiolnaaGreatDoor

/- A variable that holds a fraction of the document. -/
namespace Go.Proofs.YtgellgobgiolnaaGreatDoor
open Go.RowKit

theorem IntsAt.set1 {w : World} {u v : Value} {l : List Nat} {B j : Nat} {y : Value} (h : IntsAt w u l) (hc : w.cell? ⟨B, j, none⟩ = some v) (hv : ∀ x, v ≠ .int .i64 x) : IntsAt (w.setCell ⟨B, j, none⟩ y) u l := by
  rcases h with h | ⟨b, o, cap, h1, h2, h3, h4⟩
  · exact Or.inl h
  · refine Or.inr ⟨b, o, cap, h1, h2, h3, fun i hi => ?_⟩
    rw [World.cell?_setCell_other _ _ _ _ (fun e => ?_)]
    · exact h4 i hi
    · have := h4 i hi
      rw [← e, hc] at this
      exact hv _ (Option.some.inj this)
theorem BigAt.set1 {w : World} {u v : Value} {n B j : Nat} {y : Value} (h : BigAt w u n) (hc : w.cell? ⟨B, j, none⟩ = some v) (hv : ∀ x, v ≠ .int .i64 x) : BigAt (w.setCell ⟨B, j, none⟩ y) u n := by
  obtain ⟨l, h1, h2, h3, h4⟩ := h
  exact ⟨l, h1, h2, h3, h4.set1 hc hv⟩
theorem RatioAt.set1 {w : World} {u v : Value} {n : Int} {d B j : Nat} {y : Value} (h : RatioAt w u n d) (hc : w.cell? ⟨B, j, none⟩ = some v) (hv : ∀ x, v ≠ .int .i64 x) : RatioAt (w.setCell ⟨B, j, none⟩ y) u n d := by
  obtain ⟨a, b, h1, h2, h3⟩ := h
  exact ⟨a, b, h1, h2.set1 hc hv, h3.set1 hc hv⟩
structure FBox (W0 W : World) (B : Nat) (n : Int) (d : Nat) : Prop where
  below : Below W0.heap.size W0 W
  hB : W0.heap.size ≤ B
  f0 : W.frozen? ⟨B, 0, none⟩ = false
  f1 : W.frozen? ⟨B, 1, none⟩ = false
  f2 : W.frozen? ⟨B, 2, none⟩ = false
  box : ∃ s ad l cap ad' l' cap', W.cell? ⟨B, 0, none⟩ = some (.bool s) ∧ W.cell? ⟨B, 1, none⟩ = some (.slice ad l cap) ∧ W.cell? ⟨B, 2, none⟩ = some (.slice ad' l' cap') ∧ RatioAt W (.agg #[.bool s, .slice ad l cap, .slice ad' l' cap']) n d
theorem FBox.later {W0 W W' : World} {B : Nat} {n : Int} {d : Nat} (h : FBox W0 W B n d) (hb : Below W.heap.size W W') : FBox W0 W' B n d := by
  obtain ⟨s, ad, l, cap, ad', l', cap', c0, c1, c2, hr⟩ := h.box
  exact ⟨below_chain h.below hb, h.hB, (frozen_past c0 h.f0 hb).2, (frozen_past c1 h.f1 hb).2, (frozen_past c2 h.f2 hb).2, s, ad, l, cap, ad', l', cap', (cell_past c0 hb).2, (cell_past c1 hb).2, (cell_past c2 hb).2, hr.later hb⟩
theorem fBox_late {W0 W : World} {n : Int} {d : Nat} {s : Bool} {ad ad' : Option Addr} {l cap l' cap' : Nat} (h : Below W0.heap.size W0 W) (hr : RatioAt W (.agg #[.bool s, .slice ad l cap, .slice ad' l' cap']) n d) : FBox W0 (W.alloc (.cells #[.bool s, .slice ad l cap, .slice ad' l' cap'] 52)) W.heap.size n d :=
  ⟨more_below h _, h.size, by simp, by simp, by simp, s, ad, l, cap, ad', l', cap', by simp, by simp, by simp, hr.later (new_below _ _)⟩
/-- Another fraction is stored. -/
theorem fBox_put {W0 W : World} {B : Nat} {n : Int} {d : Nat} {s t : Bool} {ad ad' bd bd' : Option Addr} {l cap l' cap' m bap m' bap' : Nat} (h : Below W0.heap.size W0 W) (hB : W0.heap.size ≤ B) (f0 : W.frozen? ⟨B, 0, none⟩ = false) (f1 : W.frozen? ⟨B, 1, none⟩ = false) (f2 : W.frozen? ⟨B, 2, none⟩ = false) (c0 : W.cell? ⟨B, 0, none⟩ = some (.bool t)) (c1 : W.cell? ⟨B, 1, none⟩ = some (.slice bd m bap)) (c2 : W.cell? ⟨B, 2, none⟩ = some (.slice bd' m' bap')) (hr : RatioAt W (.agg #[.bool s, .slice ad l cap, .slice ad' l' cap']) n d) : FBox W0 (((W.setCell ⟨B, 0, none⟩ (.bool s)).setCell ⟨B, 1, none⟩ (.slice ad l cap)).setCell ⟨B, 2, none⟩ (.slice ad' l' cap')) B n d := by
  have e1 : (W.setCell ⟨B, 0, none⟩ (.bool s)).cell? ⟨B, 1, none⟩ = some (.slice bd m bap) := by rw [World.cell?_setCell_other _ _ _ _ (by simp)]; exact c1
  have e2 : ((W.setCell ⟨B, 0, none⟩ (.bool s)).setCell ⟨B, 1, none⟩ (.slice ad l cap)).cell? ⟨B, 2, none⟩ = some (.slice bd' m' bap') := by rw [World.cell?_setCell_other _ _ _ _ (by simp), World.cell?_setCell_other _ _ _ _ (by simp)]; exact c2
  refine ⟨below_set3 h hB _ _ _, hB, by simpa using f0, by simpa using f1, by simpa using f2, s, ad, l, cap, ad', l', cap', ?_, ?_, ?_, ?_⟩
  · rw [World.cell?_setCell_other _ _ _ _ (by simp), World.cell?_setCell_other _ _ _ _ (by simp)]; exact World.cell?_setCell_same _ _ _ c0
  · rw [World.cell?_setCell_other _ _ _ _ (by simp)]; exact World.cell?_setCell_same _ _ _ e1
  · exact World.cell?_setCell_same _ _ _ e2
  · exact ((hr.set1 c0 (by simp)).set1 e1 (by simp)).set1 e2 (by simp)
theorem fBox_soon {W0 W : World} {B : Nat} {n : Int} {d : Nat} {s : Bool} {ad ad' : Option Addr} {l cap l' cap' : Nat} (h : Below W0.heap.size W0 W) (hr : RatioAt W (.agg #[.bool s, .slice ad l cap, .slice ad' l' cap']) n d) (hn : NewBox3 W0 W B) : FBox W0 (((W.setCell ⟨B, 0, none⟩ (.bool s)).setCell ⟨B, 1, none⟩ (.slice ad l cap)).setCell ⟨B, 2, none⟩ (.slice ad' l' cap')) B n d :=
  fBox_put h hn.hB hn.f0 hn.f1 hn.f2 hn.c0 hn.c1 hn.c2 hr
/-- Its sign is cleared. -/
theorem FBox.plain {W0 W : World} {B : Nat} {n : Int} {d : Nat} (h : FBox W0 W B n d) : FBox W0 (W.setCell ⟨B, 0, none⟩ (.bool false)) B (n.natAbs : Int) d := by
  obtain ⟨s, ad, l, cap, ad', l', cap', c0, c1, c2, u, q, hv, hu, hq⟩ := h.box
  have hv' := hv
  simp only [Value.agg.injEq, Array.mk.injEq, List.cons.injEq, and_true] at hv'
  obtain ⟨_, h1, h2⟩ := hv'
  refine ⟨h.below.setCell h.hB _, h.hB, by simpa using h.f0, by simpa using h.f1, by simpa using h.f2, false, ad, l, cap, ad', l', cap', World.cell?_setCell_same _ _ _ c0, ?_, ?_, ?_⟩
  · rw [World.cell?_setCell_other _ _ _ _ (by simp)]; exact c1
  · rw [World.cell?_setCell_other _ _ _ _ (by simp)]; exact c2
  · refine ⟨_, _, ?_, hu.set1 c0 (by simp), hq.set1 c0 (by simp)⟩
    rw [decide_eq_false (show ¬ (n.natAbs : Int) < 0 by omega), h1, h2]
/-- Another's sign is cleared. -/
theorem FBox.aside {W0 W : World} {B C : Nat} {n : Int} {d : Nat} {s : Bool} {y : Value} (h : FBox W0 W B n d) (hC : W0.heap.size ≤ C) (hne : C ≠ B) (hc : W.cell? ⟨C, 0, none⟩ = some (.bool s)) : FBox W0 (W.setCell ⟨C, 0, none⟩ y) B n d := by
  obtain ⟨t, ad, l, cap, ad', l', cap', c0, c1, c2, hr⟩ := h.box
  refine ⟨h.below.setCell hC _, h.hB, by simpa using h.f0, by simpa using h.f1, by simpa using h.f2, t, ad, l, cap, ad', l', cap', ?_, ?_, ?_, hr.set1 hc (by simp)⟩
  · rw [World.cell?_setCell_far _ _ _ _ hne]; exact c0
  · rw [World.cell?_setCell_far _ _ _ _ hne]; exact c1
  · rw [World.cell?_setCell_far _ _ _ _ hne]; exact c2
theorem FBox.lower {W0 W1 W : World} {B : Nat} {n : Int} {d : Nat} (h : FBox W1 W B n d) (hb : Below W0.heap.size W0 W1) : FBox W0 W B n d :=
  ⟨below_chain hb h.below, Nat.le_trans hb.size h.hB, h.f0, h.f1, h.f2, h.box⟩
theorem low_abs (M : Nat) (z : Int) : ((lowN M z).natAbs : Int) = lowN M (z.natAbs : Int) ∧ lowD M z = lowD M (z.natAbs : Int) := by
  have hg : lowG M z = lowG M (z.natAbs : Int) := by unfold lowG; simp
  unfold lowN lowD
  rw [← hg]
  refine ⟨?_, rfl⟩
  rcases Int.le_total 0 z with h | h
  · rw [show ((z.natAbs : Nat) : Int) = z by omega]
    have := Int.tdiv_nonneg h (show (0 : Int) ≤ (lowG M z : Int) by omega)
    omega
  · rw [show ((z.natAbs : Nat) : Int) = -z by omega, Int.neg_tdiv]
    have := Int.tdiv_nonneg (show 0 ≤ -z by omega) (show (0 : Int) ≤ (lowG M z : Int) by omega)
    rw [Int.neg_tdiv] at this
    omega
end Go.Proofs.YtgellgobgiolnaaGreatDoor

/- The document's Over. -/
namespace Go.Proofs.YtgellgobgiolnaaGreatDoor
open Go.RowKit

set_option maxRecDepth 10000 in
set_option maxHeartbeats 4000000 in
/-- Over: the quotient by one above 0, in its lowest terms. -/
theorem Over_ratio (v1 v2 : Value) (n1 : Int) (m d1 d2 k : Nat) (w : World) (h1 : RatioAt w v1 n1 d1) (h2 : RatioAt w v2 (m : Int) d2) (hd1 : 0 < d1) (hm0 : 0 < m) (hn1 : n1.natAbs < 1000000 ^ k) (hn2 : m < 1000000 ^ k) (hk1 : d1 < 1000000 ^ k) (hk2 : d2 < 1000000 ^ k) (hk : k + k + 1 + 1 ≤ 1000000) :
    Calls Tryz.prog 46 #[v1, v2] w fun e w' => ∃ r, e = .returned r ∧ RatioAt w' r ((n1 * d2).tdiv ((Nat.gcd (n1 * d2).natAbs (d1 * m) : Nat) : Int)) (d1 * m / Nat.gcd (n1 * d2).natAbs (d1 * m)) ∧ Below w.heap.size w w' := by
  obtain ⟨u1, q1, rfl, hu1, hq1⟩ := h1
  obtain ⟨u2, q2, rfl, hu2, hq2⟩ := h2
  obtain ⟨ad1, l1, cap1, rfl, _⟩ := hu1.len
  obtain ⟨bd1, m1, bap1, rfl, _⟩ := hq1.len
  obtain ⟨ad2, l2, cap2, rfl, _⟩ := hu2.len
  obtain ⟨bd2, m2, bap2, rfl, _⟩ := hq2.len
  obtain ⟨s1, hs1⟩ : ∃ s, decide (n1 < 0) = s := ⟨_, rfl⟩
  have hs2 : decide ((m : Int) < 0) = false := decide_eq_false (by omega)
  rw [hs1, hs2]
  rw [Int.natAbs_natCast] at hu2
  have hB0 : Below w.heap.size w (((w.alloc (.cells #[.bool s1, .slice ad1 l1 cap1, .slice bd1 m1 bap1] 52)).alloc (.cells #[.bool false, .slice ad2 l2 cap2, .slice bd2 m2 bap2] 52)).alloc (.cells #[.bool false, .slice none 0 0, .slice none 0 0] 52)) := (((Below.refl _ _).alloc (Nat.le_refl _) _).alloc (by simp) _).alloc (by simp; omega) _
  have hN := noInts_third3 w (.cells #[.bool s1, .slice ad1 l1 cap1, .slice bd1 m1 bap1] 52) (.cells #[.bool false, .slice ad2 l2 cap2, .slice bd2 m2 bap2] 52) 52
  have hNP := fun (w1 : World) => nine_past (w := w) (w1 := w1) (x0 := .bool s1) (x1 := .slice ad1 l1 cap1) (x2 := .slice bd1 m1 bap1) (y0 := .bool false) (y1 := .slice ad2 l2 cap2) (y2 := .slice bd2 m2 bap2) (r0 := .bool false) (r1 := .slice none 0 0) (r2 := .slice none 0 0) (t := 52)
  have hz0 : w.heap.size + 1 + 1 + 1 = (((w.alloc (.cells #[.bool s1, .slice ad1 l1 cap1, .slice bd1 m1 bap1] 52)).alloc (.cells #[.bool false, .slice ad2 l2 cap2, .slice bd2 m2 bap2] 52)).alloc (.cells #[.bool false, .slice none 0 0, .slice none 0 0] 52)).heap.size := by simp
  generalize hW : (((w.alloc (.cells #[.bool s1, .slice ad1 l1 cap1, .slice bd1 m1 bap1] 52)).alloc (.cells #[.bool false, .slice ad2 l2 cap2, .slice bd2 m2 bap2] 52)).alloc (.cells #[.bool false, .slice none 0 0, .slice none 0 0] 52)) = W0 at hB0 hN hNP hz0
  have hKS : ∀ W, Below W0.heap.size W0 W → (W.cell? ⟨w.heap.size, 0, none⟩ = some (.bool s1) ∧ W.cell? ⟨w.heap.size, 1, none⟩ = some (.slice ad1 l1 cap1) ∧ W.cell? ⟨w.heap.size, 2, none⟩ = some (.slice bd1 m1 bap1)) ∧ (W.cell? ⟨w.heap.size + 1, 0, none⟩ = some (.bool false) ∧ W.cell? ⟨w.heap.size + 1, 1, none⟩ = some (.slice ad2 l2 cap2) ∧ W.cell? ⟨w.heap.size + 1, 2, none⟩ = some (.slice bd2 m2 bap2)) := fun W hb => by
    obtain ⟨a, b, _⟩ := hNP W hb
    exact ⟨a, b⟩
  have HS1 : Hid (∀ W, Below W0.heap.size W0 W → SignedAt W (.agg #[.bool s1, .slice ad1 l1 cap1]) n1) := fun W hb => ⟨_, by rw [hs1], (hu1.later hB0).later hb⟩
  have HU2 : Hid (∀ W, Below W0.heap.size W0 W → BigAt W (.slice ad2 l2 cap2) m) := fun W hb => (hu2.later hB0).later hb
  have HD1 : Hid (∀ W, Below W0.heap.size W0 W → BigAt W (.slice bd1 m1 bap1) d1) := fun W hb => (hq1.later hB0).later hb
  have HD2 : Hid (∀ W, Below W0.heap.size W0 W → BigAt W (.slice bd2 m2 bap2) d2) := fun W hb => (hq2.later hB0).later hb
  have HKS := Hid.mk' hKS
  have HW := Hid.mk' hW
  have HNP := Hid.mk' hNP
  have HN := Hid.mk' hN
  have HB := Hid.mk' hB0
  have hsm : (n1 * (d2 : Int)).natAbs < 1000000 ^ (k + k) := by rw [Int.natAbs_mul, Int.natAbs_natCast, Nat.pow_add]; exact Nat.mul_lt_mul'' hn1 hk2
  have hdd : d1 * m < 1000000 ^ (k + k) := by rw [Nat.pow_add]; exact Nat.mul_lt_mul'' hk1 hn2
  have HM := Hid.mk' (And.intro hsm hdd)
  have HBD : Hid (n1.natAbs < 1000000 ^ k ∧ (d2 : Int).natAbs < 1000000 ^ k) := ⟨hn1, by rw [Int.natAbs_natCast]; exact hk2⟩
  have HDK := Hid.mk' (And.intro hk1 hn2)
  have hcur0 : Below W0.heap.size W0 W0 := Below.refl _ _
  have hcur : Below W0.heap.size W0 W0.drew := (Below.refl _ _).drew
  have hcurA : ∀ X, Below W0.heap.size W0 (W0.alloc X).drew := fun X => (new_below _ _).drew
  have hdn2 : ¬ (d2 : Int) < 0 := by omega
  have HDE : Hid (decide ((d2 : Int) < 0) = false) := decide_eq_false hdn2
  clear hs1 hs2 hu1 hu2 hq1 hq2 hB0 hN hNP hW hKS hn1 hn2 hk1 hk2 hsm hdd hdn2
  generalize hz : n1 * (d2 : Int) = z at HM ⊢
  have HZ := Hid.mk' hz
  clear hz
  go_enter Tryz.func46, Tryz.ntmps46
  go_wp2_with fail
  rw [HW.out]
  go_cut [5] from 6 (fun s wx => ∃ Bs : Nat, s = .pointer (some ⟨Bs, 0, none⟩) ∧ Hid (SignBox W0 wx Bs z))
  case first =>
    go_region_held3 (fun W => (W.cell? ⟨w.heap.size, 0, none⟩ = some (.bool s1) ∧ W.cell? ⟨w.heap.size, 1, none⟩ = some (.slice ad1 l1 cap1) ∧ W.cell? ⟨w.heap.size, 2, none⟩ = some (.slice bd1 m1 bap1)) ∧ (W.cell? ⟨w.heap.size + 1, 0, none⟩ = some (.bool false) ∧ W.cell? ⟨w.heap.size + 1, 1, none⟩ = some (.slice ad2 l2 cap2) ∧ W.cell? ⟨w.heap.size + 1, 2, none⟩ = some (.slice bd2 m2 bap2)))
      (first | exact HKS.out _ hcur0 | exact HKS.out _ hcur | exact HKS.out _ (hcurA _) | (refine HKS.out _ ?_; assumption) | (refine HKS.out _ (more_below ?_ _); assumption) | (refine HKS.out _ (setB_below ?_ NB.hB _ _); assumption))
      (first
        | (go_at_call 48; refine (SignedMul_any _ _ n1 (d2 : Int) k _ (HS1.out _ ?_) (HX1.out _ ?_) HBD.out.1 HBD.out.2 (by omega)).mono ?_; (first | exact hbw1 | exact more_below hbw1 _); (first | exact Below.refl _ _ | exact new_below _ _); rintro e w2 ⟨sv2, rfl, ⟨x2, rfl, hx2⟩, hb2⟩; rw [HZ.out] at hx2 ⊢; obtain ⟨ad4, l4, cap4, rfl, _⟩ := hx2.len; (first | (have hbw2 := below_chain hbw1 hb2; try have NB := NB.later hb2) | (have hbw2 := below_chain (more_below hbw1 _) hb2; have NB := newBox_of hbw1 hb2)); (try (have y0 := NB.c0; have y1 := NB.c1; have y2 := NB.f0; have y3 := NB.f1)); have HX5 := Hid.mk' hx2; clear hx2 hb2)
        | (go_at_call 59; refine (wide_any (.slice bd2 m2 bap2) d2 _ (HD2.out _ ?_)).mono ?_; (first | exact hcur | exact hcurA _); rintro e w1 ⟨sv1, rfl, ⟨x1, rfl, hx1⟩, hb1⟩; rw [HDE.out]; obtain ⟨ad3, l3, cap3, rfl, _⟩ := hx1.len; (first | have hbw1 := below_chain hcur hb1 | (have hbw1 := below_chain (hcurA _) hb1; have NB := newBox_of hcur0 (below_chain ((Below.refl _ _).drew) hb1))); have HX1 : Hid (∀ W, Below w1.heap.size w1 W → SignedAt W (.agg #[.bool false, .slice ad3 l3 cap3]) (d2 : Int)) := (fun W hb => ⟨_, by rw [HDE.out], hx1.later hb⟩); clear hx1 hb1))
    all_goals
      go_wp2_with fail
      go_meet
      first | exact ⟨_, rfl, signBox_late hbw2 HX5.out⟩ | exact ⟨_, rfl, signBox_soon hbw2 HX5.out NB⟩
  case rest =>
  obtain ⟨Bs, rfl, HSB⟩ := hcut
  obtain ⟨u, x0, x1, hu⟩ := HSB.out.box
  obtain ⟨ad, l, cap, rfl, _⟩ := hu.len
  obtain ⟨sg, hsg⟩ : ∃ sg, decide (z < 0) = sg := ⟨_, rfl⟩
  rw [hsg] at x0
  have hBs := HSB.out.hB
  have hSc : ∀ W, Below wc.heap.size wc W → W.cell? ⟨Bs, 0, none⟩ = some (.bool sg) ∧ W.cell? ⟨Bs, 1, none⟩ = some (.slice ad l cap) ∧ W.cell? ⟨w.heap.size, 2, none⟩ = some (.slice bd1 m1 bap1) ∧ W.cell? ⟨w.heap.size + 1, 1, none⟩ = some (.slice ad2 l2 cap2) := fun W hb => by
    have h1 := HKS.out _ (below_chain HSB.out.below hb)
    exact ⟨(cell_past x0 hb).2, (cell_past x1 hb).2, h1.1.2.2, h1.2.2.1⟩
  have HSC := Hid.mk' hSc
  have hmul := BigMul_any _ _ d1 m k wc.drew (HD1.out _ HSB.out.below.drew) (HU2.out _ HSB.out.below.drew) HDK.out.1 HDK.out.2 (by omega)
  have HMUL := Hid.mk' hmul
  have HU := Hid.mk' hu
  have HSG := Hid.mk' hsg
  have hc0 : Below wc.heap.size wc wc := Below.refl _ _
  have hc1 : Below wc.heap.size wc wc.drew := (Below.refl _ _).drew
  have HBC := Hid.mk' HSB.out.below
  have hsetS : ∀ (W : World) (x y q : Value), Below wc.heap.size wc W → Bs ≠ w.heap.size + 1 + 1 → (((W.setCell ⟨w.heap.size + 1 + 1, 0, none⟩ x).setCell ⟨w.heap.size + 1 + 1, 1, none⟩ y).setCell ⟨w.heap.size + 1 + 1, 2, none⟩ q).cell? ⟨Bs, 0, none⟩ = some (.bool sg) ∧ (((W.setCell ⟨w.heap.size + 1 + 1, 0, none⟩ x).setCell ⟨w.heap.size + 1 + 1, 1, none⟩ y).setCell ⟨w.heap.size + 1 + 1, 2, none⟩ q).cell? ⟨Bs, 1, none⟩ = some (.slice ad l cap) ∧ (((W.setCell ⟨w.heap.size + 1 + 1, 0, none⟩ x).setCell ⟨w.heap.size + 1 + 1, 1, none⟩ y).setCell ⟨w.heap.size + 1 + 1, 2, none⟩ q).cell? ⟨w.heap.size, 2, none⟩ = some (.slice bd1 m1 bap1) ∧ (((W.setCell ⟨w.heap.size + 1 + 1, 0, none⟩ x).setCell ⟨w.heap.size + 1 + 1, 1, none⟩ y).setCell ⟨w.heap.size + 1 + 1, 2, none⟩ q).cell? ⟨w.heap.size + 1, 1, none⟩ = some (.slice ad2 l2 cap2) := fun W x y q hb hne => by
    obtain ⟨e0, e1, e2, e3⟩ := HSC.out W hb
    refine ⟨?_, ?_, ?_, ?_⟩
    · rw [World.cell?_setCell_far _ _ _ _ (fun e => hne e.symm), World.cell?_setCell_far _ _ _ _ (fun e => hne e.symm), World.cell?_setCell_far _ _ _ _ (fun e => hne e.symm)]; exact e0
    · rw [World.cell?_setCell_far _ _ _ _ (fun e => hne e.symm), World.cell?_setCell_far _ _ _ _ (fun e => hne e.symm), World.cell?_setCell_far _ _ _ _ (fun e => hne e.symm)]; exact e1
    · rw [World.cell?_setCell_far _ _ _ _ (by show w.heap.size + 1 + 1 ≠ w.heap.size; omega), World.cell?_setCell_far _ _ _ _ (by show w.heap.size + 1 + 1 ≠ w.heap.size; omega), World.cell?_setCell_far _ _ _ _ (by show w.heap.size + 1 + 1 ≠ w.heap.size; omega)]; exact e2
    · rw [World.cell?_setCell_far _ _ _ _ (by show w.heap.size + 1 + 1 ≠ w.heap.size + 1; omega), World.cell?_setCell_far _ _ _ _ (by show w.heap.size + 1 + 1 ≠ w.heap.size + 1; omega), World.cell?_setCell_far _ _ _ _ (by show w.heap.size + 1 + 1 ≠ w.heap.size + 1; omega)]; exact e3
  have HSS := Hid.mk' hsetS
  have hne : Bs ≠ w.heap.size + 1 + 1 := by omega
  have hg0 := (HKS.out _ HSB.out.below).2.1
  clear hu hsg hSc hmul hsetS x0 x1
  go_wp2_with fail
  go_region_held3 (fun W => W.cell? ⟨Bs, 0, none⟩ = some (.bool sg) ∧ W.cell? ⟨Bs, 1, none⟩ = some (.slice ad l cap) ∧ W.cell? ⟨w.heap.size, 2, none⟩ = some (.slice bd1 m1 bap1) ∧ W.cell? ⟨w.heap.size + 1, 1, none⟩ = some (.slice ad2 l2 cap2))
    (first | exact HSC.out _ hc0 | exact HSC.out _ hc1 | exact HSC.out _ hc2 | exact HSC.out _ hc3 | exact HSS.out _ _ _ _ hc3 hne)
    (first
      | (go_at_call 47; refine (Lowest_any _ z (d1 * m) (k + k) w6 HRA.out (Nat.mul_pos hd1 hm0) HM.out.1 HM.out.2 (by omega)).mono ?_; rintro e w7 ⟨rv, rfl, ⟨ur, qr, rfl, hur, hqr⟩, hb7⟩; obtain ⟨ad8, l8, cap8, rfl, _⟩ := hur.len; obtain ⟨ad9, l9, cap9, rfl, _⟩ := hqr.len; have hc3 := below_chain hc2 hb7; have hbw7 := below_chain HBC.out hc3; obtain ⟨_, _, ⟨c0, c1, c2⟩, f0, f1, f2⟩ := HNP.out w7 hbw7; have HUR := Hid.mk' hur; have HQR := Hid.mk' hqr; have HBW7 := Hid.mk' hbw7; clear hur hqr hb7 hbw7)
      | (go_at_call 49; refine HMUL.out.mono ?_; rintro e w6 ⟨qv, rfl, hqv, hb6⟩; obtain ⟨bd6, m6, bap6, rfl, _⟩ := hqv.len; have hc2 := below_chain hc1 hb6; have HRA : Hid (RatioAt w6 (.agg #[.bool sg, .slice ad l cap, .slice bd6 m6 bap6]) z (d1 * m)) := ⟨_, _, by rw [HSG.out], HU.out.later hc2, hqv⟩; clear hqv hb6))
  go_wp2_with fail
  refine bodyPost_ret (v := .agg #[.bool (decide (z.tdiv ((Nat.gcd z.natAbs (d1 * m) : Nat) : Int) < 0)), .slice ad8 l8 cap8, .slice ad9 l9 cap9]) (by simp [results, Tryz.results46, go_sem, c0, c1, c2]) rfl ⟨_, rfl, ⟨_, _, rfl, HUR.out.set3 (HN.out.later (by omega) HBW7.out) c0 c1, HQR.out.set3 (HN.out.later (by omega) HBW7.out) c0 c1⟩, below_set3 (below_chain HB.out HBW7.out) (by omega) _ _ _⟩
end Go.Proofs.YtgellgobgiolnaaGreatDoor
