/- The document's fractions: Lowest, RatioOf. -/
import Derived.Test.YtiegobkbinojeaaDoorSignedAdd
namespace Go.Proofs.YtiegobkbinojeaaDoor
open Go.RowKit

/-- A fraction. -/
def RatioAt (w : World) (v : Value) (n : Int) (d : Nat) : Prop := ∃ u q, v = .agg #[.bool (decide (n < 0)), u, q] ∧ BigAt w u n.natAbs ∧ BigAt w q d
theorem RatioAt.later {w w' : World} {v : Value} {n : Int} {d : Nat} (h : RatioAt w v n d) (hb : Below w.heap.size w w') : RatioAt w' v n d := by
  obtain ⟨u, q, rfl, h1, h2⟩ := h
  exact ⟨u, q, rfl, h1.later hb, h2.later hb⟩
theorem noInts_new3 (w : World) (a : Bool) (ad : Option Addr) (n cap : Nat) (ad' : Option Addr) (n' cap' : Nat) (t : TypeId) : NoInts (w.alloc (.cells #[.bool a, .slice ad n cap, .slice ad' n' cap'] t)) w.heap.size := fun j x e => by
  rw [World.cell?_alloc_at _ _ _ _ rfl] at e
  rcases j with _ | _ | _ | j
  · simp at e
  · simp at e
  · simp at e
  · simp at e
theorem BigAt.set3 {w : World} {u : Value} {n B : Nat} {x y : Value} {a : Bool} {ad : Option Addr} {l cap : Nat} {ad' : Option Addr} {l' cap' : Nat} (h : BigAt w u n) (hn : NoInts w B) (c0 : w.cell? ⟨B, 0, none⟩ = some x) (c1 : w.cell? ⟨B, 1, none⟩ = some y) : BigAt (((w.setCell ⟨B, 0, none⟩ (.bool a)).setCell ⟨B, 1, none⟩ (.slice ad l cap)).setCell ⟨B, 2, none⟩ (.slice ad' l' cap')) u n := by
  have h1 := hn.set c0 (y := .bool a) (fun x e => by cases e)
  have c1' : (w.setCell ⟨B, 0, none⟩ (.bool a)).cell? ⟨B, 1, none⟩ = some y := by rw [World.cell?_setCell_other _ _ _ _ (by simp)]; exact c1
  exact ((h.set hn).set h1).set (h1.set c1' (fun x e => by cases e))
theorem below_set3 {w1 w2 : World} {N B : Nat} (h : Below N w1 w2) (hB : N ≤ B) (x y z : Value) : Below N w1 (((w2.setCell ⟨B, 0, none⟩ x).setCell ⟨B, 1, none⟩ y).setCell ⟨B, 2, none⟩ z) := ((h.setCell hB _).setCell hB _).setCell hB _
/-- A box and a result, three cells each, behind a call. -/
theorem six_past {w w1 : World} {x0 x1 x2 r0 r1 r2 : Value} {t : TypeId} (hb : Below ((w.alloc (.cells #[x0, x1, x2] t)).alloc (.cells #[r0, r1, r2] t)).heap.size ((w.alloc (.cells #[x0, x1, x2] t)).alloc (.cells #[r0, r1, r2] t)) w1) :
    (w1.cell? ⟨w.heap.size, 0, none⟩ = some x0 ∧ w1.cell? ⟨w.heap.size, 1, none⟩ = some x1 ∧ w1.cell? ⟨w.heap.size, 2, none⟩ = some x2) ∧ (w1.cell? ⟨w.heap.size + 1, 0, none⟩ = some r0 ∧ w1.cell? ⟨w.heap.size + 1, 1, none⟩ = some r1 ∧ w1.cell? ⟨w.heap.size + 1, 2, none⟩ = some r2) ∧ w1.frozen? ⟨w.heap.size + 1, 0, none⟩ = false ∧ w1.frozen? ⟨w.heap.size + 1, 1, none⟩ = false ∧ w1.frozen? ⟨w.heap.size + 1, 2, none⟩ = false := by
  have a : ∀ j v, #[x0, x1, x2][j]? = some v → ((w.alloc (.cells #[x0, x1, x2] t)).alloc (.cells #[r0, r1, r2] t)).cell? ⟨w.heap.size, j, none⟩ = some v := fun j v h => by rw [World.cell?_alloc_lt _ _ ⟨w.heap.size, j, none⟩ (by simp), World.cell?_alloc_at _ _ _ _ rfl]; exact h
  have c : ∀ j v, #[r0, r1, r2][j]? = some v → ((w.alloc (.cells #[x0, x1, x2] t)).alloc (.cells #[r0, r1, r2] t)).cell? ⟨w.heap.size + 1, j, none⟩ = some v := fun j v h => by rw [World.cell?_alloc_at _ _ _ _ (by simp)]; exact h
  exact ⟨⟨(cell_past (a 0 x0 rfl) hb).2, (cell_past (a 1 x1 rfl) hb).2, (cell_past (a 2 x2 rfl) hb).2⟩, ⟨(cell_past (c 0 r0 rfl) hb).2, (cell_past (c 1 r1 rfl) hb).2, (cell_past (c 2 r2 rfl) hb).2⟩, (frozen_past (c 0 r0 rfl) (frozen_new (by simp)) hb).2, (frozen_past (c 1 r1 rfl) (frozen_new (by simp)) hb).2, (frozen_past (c 2 r2 rfl) (frozen_new (by simp)) hb).2⟩
theorem low_sign {n : Int} {g d : Nat} (hn : n ≠ 0) (hg : g = Nat.gcd n.natAbs d) (hd : 0 < d) : decide (n.tdiv (g : Int) < 0) = decide (n < 0) ∧ (n.tdiv (g : Int)).natAbs = n.natAbs / g := by
  have hgp : 0 < g := by rw [hg]; exact Nat.gcd_pos_of_pos_right _ hd
  have hdv : g ∣ n.natAbs := by rw [hg]; exact Nat.gcd_dvd_left _ _
  have hq : 0 < n.natAbs / g := Nat.div_pos (Nat.le_of_dvd (by omega) hdv) hgp
  have hab : (n.tdiv (g : Int)).natAbs = n.natAbs / g := by rw [Int.natAbs_tdiv, Int.natAbs_natCast]; rfl
  refine ⟨?_, hab⟩
  by_cases h : n < 0
  · rw [decide_eq_true h, decide_eq_true]
    obtain ⟨m, rfl⟩ : ∃ m : Nat, n = -(m : Int) := ⟨n.natAbs, by omega⟩
    have h1 : (m : Int).tdiv (g : Int) = ((m / g : Nat) : Int) := by simp
    rw [Int.neg_tdiv, h1]
    rw [Int.natAbs_neg, Int.natAbs_natCast] at hq
    generalize m / g = q at hq
    omega
  · rw [decide_eq_false h, decide_eq_false]
    have := Int.tdiv_nonneg (show 0 ≤ n by omega) (show (0 : Int) ≤ (g : Int) by omega)
    omega

set_option maxRecDepth 10000 in
set_option maxHeartbeats 2000000 in
/-- Lowest terms. -/
theorem Lowest_any (v : Value) (n : Int) (d k : Nat) (w : World) (h : RatioAt w v n d) (hd : 0 < d) (hn : n.natAbs < 1000000 ^ k) (hdk : d < 1000000 ^ k) (hk : k + 1 ≤ 1000000) :
    Calls Tryd.prog 46 #[v] w fun e w' => ∃ r, e = .returned r ∧ RatioAt w' r (n.tdiv ((Nat.gcd n.natAbs d : Nat) : Int)) (d / Nat.gcd n.natAbs d) ∧ Below w.heap.size w w' := by
  obtain ⟨u, q, rfl, hu, hq⟩ := h
  obtain ⟨ad1, l1, cap1, rfl, hl1⟩ := hu.len
  obtain ⟨ad2, l2, cap2, rfl, _⟩ := hq.len
  obtain ⟨s, hs⟩ : ∃ s, decide (n < 0) = s := ⟨_, rfl⟩
  rw [hs]
  have hB0 : Below w.heap.size w ((w.alloc (.cells #[.bool s, .slice ad1 l1 cap1, .slice ad2 l2 cap2] 50)).alloc (.cells #[.bool false, .slice none 0 0, .slice none 0 0] 50)) := ((Below.refl _ _).alloc (Nat.le_refl _) _).alloc (by simp) _
  have hN : NoInts ((w.alloc (.cells #[.bool s, .slice ad1 l1 cap1, .slice ad2 l2 cap2] 50)).alloc (.cells #[.bool false, .slice none 0 0, .slice none 0 0] 50)) (w.heap.size + 1) := by
    have := noInts_new3 (w.alloc (.cells #[.bool s, .slice ad1 l1 cap1, .slice ad2 l2 cap2] 50)) false none 0 0 none 0 0 50
    simpa using this
  have hSP := fun (w1 : World) => six_past (w := w) (w1 := w1) (x0 := .bool s) (x1 := .slice ad1 l1 cap1) (x2 := .slice ad2 l2 cap2) (r0 := .bool false) (r1 := .slice none 0 0) (r2 := .slice none 0 0) (t := 50)
  have hz0 : w.heap.size + 1 + 1 = ((w.alloc (.cells #[.bool s, .slice ad1 l1 cap1, .slice ad2 l2 cap2] 50)).alloc (.cells #[.bool false, .slice none 0 0, .slice none 0 0] 50)).heap.size := by simp
  generalize hW : ((w.alloc (.cells #[.bool s, .slice ad1 l1 cap1, .slice ad2 l2 cap2] 50)).alloc (.cells #[.bool false, .slice none 0 0, .slice none 0 0] 50)) = W0 at hB0 hN hSP hz0
  have HU := Hid.mk' (And.intro (hu.later hB0) (hq.later hB0))
  have HW := Hid.mk' hW
  have HSP := Hid.mk' hSP
  have HN := Hid.mk' hN
  have HB := Hid.mk' hB0
  have HBD := Hid.mk' (And.intro hn hdk)
  obtain ⟨⟨a0, a1, a2⟩, _⟩ := hSP W0 (Below.refl _ _)
  by_cases h0 : n = 0
  · subst h0
    have hl0 : l1 = 0 := hl1.2 rfl
    have hone := BigOf_any 1 W0 (by omega)
    subst hl0
    have hgd : Nat.gcd (0 : Int).natAbs d = d := Nat.gcd_zero_left d
    have HGD := Hid.mk' hgd
    clear hu hq hl1 hB0 hN hSP hW hn hdk hgd
    go_enter Tryd.func46, Tryd.ntmps46
    go_wp2_with fail
    rw [HW.out]
    refine hone.mono ?_
    clear hone a0 a1 a2
    rintro e w1 ⟨v1, rfl, hv1, hb1⟩
    obtain ⟨ad, l, cap, rfl, _⟩ := hv1.len
    obtain ⟨_, ⟨c0, c1, c2⟩, f0, f1, f2⟩ := HSP.out w1 hb1
    have HV := Hid.mk' hv1
    have HB1 := Hid.mk' hb1
    clear hv1 hb1
    go_wp2_with fail
    refine bodyPost_ret (v := .agg #[.bool false, .slice none 0 0, .slice ad l cap]) (by simp [results, Tryd.results46, go_sem, c0, c1, c2]) rfl ⟨_, rfl, ?_, ?_⟩
    · rw [HGD.out, Int.zero_tdiv, Nat.div_self hd]
      exact ⟨_, _, rfl, bigAt_zero _, HV.out.set3 (HN.out.later (by omega) HB1.out) c0 c1⟩
    · exact below_set3 (below_chain HB.out HB1.out) (by omega) _ _ _
  · have hl0 : ((l1 : Int) == 0) = false := by
      rw [beq_eq_false_iff_ne]
      have := hl1.1
      omega
    have hgp : 0 < Nat.gcd n.natAbs d := Nat.gcd_pos_of_pos_right _ hd
    have hgk : Nat.gcd n.natAbs d < 1000000 ^ k := Nat.lt_of_le_of_lt (Nat.gcd_le_right _ hd) hdk
    have hgk1 : Nat.gcd n.natAbs d < 1000000 ^ (k + 1) := Nat.lt_trans hgk (Nat.pow_lt_pow_right (by decide) (by omega))
    have hlow := low_sign (d := d) h0 rfl hd
    have hgcd := BigGcd_any _ _ _ _ k W0 HU.out.1 HU.out.2 hn hdk hk
    rw [hs] at hlow
    have HLOW := Hid.mk' hlow
    have HGP := Hid.mk' (And.intro hgp hgk1)
    clear hu hq hl1 hB0 hN hSP hW hn hdk hgp hgk hgk1 hlow hs
    generalize Nat.gcd n.natAbs d = g at *
    go_enter Tryd.func46, Tryd.ntmps46
    go_wp2_with fail
    rw [HW.out]
    refine hgcd.mono ?_
    clear hgcd a0 a1 a2
    rintro e w1 ⟨vg, rfl, hvg, hb1⟩
    obtain ⟨⟨a0, a1, a2⟩, _⟩ := HSP.out w1 hb1
    have hp1 := BigPart_any k hk _ HBD.out.1 _ g rfl HGP.out.1 HGP.out.2 (.slice ad1 l1 cap1) vg w1 (HU.out.1.later hb1) hvg
    have HVG := Hid.mk' hvg
    have HB1 := Hid.mk' hb1
    clear hvg hb1
    go_wp2_with fail
    refine hp1.mono ?_
    clear hp1 a0 a1 a2
    rintro e w2 ⟨p, r1, rfl, hp, _, hb2⟩
    have hbw2 := below_chain HB1.out hb2
    obtain ⟨⟨a0, a1, a2⟩, _⟩ := HSP.out w2 hbw2
    have hp2 := BigPart_any k hk d HBD.out.2 _ g rfl HGP.out.1 HGP.out.2 (.slice ad2 l2 cap2) vg w2 (HU.out.2.later hbw2) (HVG.out.later hb2)
    have HP := Hid.mk' hp
    have HB2 := Hid.mk' hbw2
    clear hp hb2 hbw2
    go_wp2_with fail
    refine hp2.mono ?_
    clear hp2 a0 a1 a2
    rintro e w3 ⟨qq, r2, rfl, hqq, _, hb3⟩
    have hbw3 := below_chain HB2.out hb3
    obtain ⟨⟨a0, a1, a2⟩, ⟨c0, c1, c2⟩, f0, f1, f2⟩ := HSP.out w3 hbw3
    have hp3 := HP.out.later hb3
    obtain ⟨ad, l, cap, rfl, _⟩ := hp3.len
    obtain ⟨ad', l', cap', rfl, _⟩ := hqq.len
    have HP3 := Hid.mk' hp3
    have HQ3 := Hid.mk' hqq
    have HB3 := Hid.mk' hbw3
    clear hp3 hqq hb3 hbw3 HP
    go_wp2_with fail
    refine bodyPost_ret (v := .agg #[.bool s, .slice ad l cap, .slice ad' l' cap']) (by simp [results, Tryd.results46, go_sem, c0, c1, c2]) rfl ⟨_, rfl, ⟨_, _, by rw [HLOW.out.1], by rw [HLOW.out.2]; exact HP3.out.set3 (HN.out.later (by omega) HB3.out) c0 c1, HQ3.out.set3 (HN.out.later (by omega) HB3.out) c0 c1⟩, below_set3 (below_chain HB.out HB3.out) (by omega) _ _ _⟩
end Go.Proofs.YtiegobkbinojeaaDoor
