/- The number that bits behind a point tell. -/
import Derived.Test.YtncgpldfenkiiaaGreatDoorIvD
import Derived.Test.YtncgpldfenkiiaaGreatDoorIntervalP
import Derived.Test.YtncgpldfenkiiaaGreatDoorReadMath
namespace Go.Proofs.YtncgpldfenkiiaaGreatDoor
open Go.RowKit

theorem SignedAt.sl {w : World} {v : Value} {z : Int} (h : SignedAt w v z) : ∃ s ad l cap, v = .agg #[.bool s, .slice ad l cap] := by
  obtain ⟨u, rfl, h1⟩ := h
  obtain ⟨ad, l, cap, rfl, _⟩ := h1.len
  exact ⟨_, _, _, _, rfl⟩
theorem SignedAt.setA {w : World} {u y : Value} {z : Int} {p : Addr} {v : Value} (h : SignedAt w u z) (hc : w.cell? p = some v) (hv : ∀ x, v ≠ .int .i64 x) : SignedAt (w.setCell p y) u z := by
  obtain ⟨a, h1, h2⟩ := h
  exact ⟨a, h1, h2.setA hc hv⟩
/-- A variable that holds a whole number of the document. -/
structure SBox (w : World) (b : Nat) (s : Bool) (x : Option Addr) (l c : Nat) (z : Int) : Prop where
  c0 : w.cell? ⟨b, 0, none⟩ = some (.bool s)
  c1 : w.cell? ⟨b, 1, none⟩ = some (.slice x l c)
  sg : SignedAt w (.agg #[.bool s, .slice x l c]) z
  f0 : w.frozen? ⟨b, 0, none⟩ = false
  f1 : w.frozen? ⟨b, 1, none⟩ = false
theorem SBox.later {w w' : World} {b : Nat} {s : Bool} {x : Option Addr} {l c : Nat} {z : Int} (h : SBox w b s x l c z) (hb : Below w.heap.size w w') : SBox w' b s x l c z :=
  ⟨by rw [hb.cell (cell_lt h.c0)]; exact h.c0, by rw [hb.cell (cell_lt h.c1)]; exact h.c1, h.sg.later hb, by rw [hb.frozen (show b < w.heap.size from cell_lt h.c0)]; exact h.f0, by rw [hb.frozen (show b < w.heap.size from cell_lt h.c0)]; exact h.f1⟩
theorem SBox.keepS {w : World} {b : Nat} {s : Bool} {x : Option Addr} {l c : Nat} {z y : Int} {v : Value} (h : SBox w b s x l c z) (hv : SignedAt w v y) (y0 y1 : Value) : SignedAt (put2 w b y0 y1) v y := by
  unfold put2
  exact (hv.setA h.c0 (by simp)).setA (v := .slice x l c) (by rw [cell_put _ h.c0, if_neg (by simp)]; exact h.c1) (by simp)
theorem BigAt.put2 {w : World} {b n : Nat} {s : Bool} {x : Option Addr} {l c : Nat} {z : Int} {v : Value} (hv : BigAt w v n) (h : SBox w b s x l c z) (y0 y1 : Value) : BigAt (put2 w b y0 y1) v n := by
  unfold Go.Proofs.YtncgpldfenkiiaaGreatDoor.put2
  exact (hv.setA h.c0 (by simp)).setA (v := .slice x l c) (by rw [cell_put _ h.c0, if_neg (by simp)]; exact h.c1) (by simp)
theorem SBox.put {w : World} {b : Nat} {s t : Bool} {x y : Option Addr} {l c m q : Nat} {z z2 : Int} (h : SBox w b s x l c z) (hr : SignedAt w (.agg #[.bool t, .slice y m q]) z2) : SBox (put2 w b (.bool t) (.slice y m q)) b t y m q z2 := by
  have hc := put2_cell (.bool t) (.slice y m q) h.c0 h.c1
  exact ⟨by rw [hc, if_neg (by simp), if_pos rfl], by rw [hc, if_pos rfl], h.keepS hr _ _, by unfold put2; rw [World.frozen?_setCell, World.frozen?_setCell]; exact h.f0, by unfold put2; rw [World.frozen?_setCell, World.frozen?_setCell]; exact h.f1⟩
theorem SBox.aside {w : World} {b b2 : Nat} {s s2 : Bool} {x x2 : Option Addr} {l c l2 c2 : Nat} {z z2 : Int} (h : SBox w b s x l c z) (h2 : SBox w b2 s2 x2 l2 c2 z2) (hne : b2 ≠ b) (y0 y1 : Value) : SBox (put2 w b2 y0 y1) b s x l c z := by
  have hc := put2_cell y0 y1 h2.c0 h2.c1
  have e : ∀ j k, (⟨b, j, none⟩ : Addr) ≠ ⟨b2, k, none⟩ := fun j k e => hne (congrArg Addr.block e).symm
  exact ⟨by rw [hc, if_neg (e _ _), if_neg (e _ _)]; exact h.c0, by rw [hc, if_neg (e _ _), if_neg (e _ _)]; exact h.c1, h2.keepS h.sg _ _, by unfold put2; rw [World.frozen?_setCell, World.frozen?_setCell]; exact h.f0, by unfold put2; rw [World.frozen?_setCell, World.frozen?_setCell]; exact h.f1⟩
theorem SBox.fresh {w : World} {s : Bool} {x : Option Addr} {l c : Nat} {z : Int} (hr : SignedAt w (.agg #[.bool s, .slice x l c]) z) : SBox (w.alloc (.cells #[.bool s, .slice x l c] 42)) w.heap.size s x l c z :=
  ⟨by simp, by simp, hr.later ((Below.refl _ _).alloc (Nat.le_refl _) _), by simp, by simp⟩

/-- The number of the first bits. -/
def valT (t : ByteArray) : Nat → Nat
  | 0 => 0
  | i + 1 => 2 * valT t i + (bitAt t i).getD 0
theorem valT_lt {t : ByteArray} : ∀ i, valT t i < 2 ^ i
  | 0 => by simp [valT]
  | i + 1 => by
    have h := valT_lt (t := t) i
    have hb : (bitAt t i).getD 0 ≤ 1 := by
      cases hb : bitAt t i with
      | none => exact Nat.zero_le _
      | some b => rcases (bitAt_some hb).2 with rfl | rfl <;> decide
    show 2 * valT t i + (bitAt t i).getD 0 < 2 ^ (i + 1)
    rw [Nat.pow_succ]; omega
theorem two_small {j : Nat} (hj : j ≤ 200) : 2 ^ j < 1000000 ^ 20 := Nat.lt_of_le_of_lt (Nat.pow_le_pow_right (by decide) hj) (by decide)

set_option maxRecDepth 100000 in
set_option maxHeartbeats 2000000 in
theorem ValueOf_any (t : ByteArray) (w : World) (ht : t.size ≤ 160) (hbits : ∀ i (hi : i < t.size), (t[i]'hi) = 48 ∨ (t[i]'hi) = 49) :
    Calls Tryz.prog 14 #[.string t] w fun e w' => ∃ v, e = .returned v ∧ RatioAt w' v (lowN (2 ^ t.size) (valT t t.size : Nat)) (lowD (2 ^ t.size) (valT t t.size : Nat)) ∧ Below w.heap.size w w' := by
  obtain ⟨W0, hW0⟩ : ∃ W0, W0 = w.alloc (.cells #[.bool false, .slice none 0 0, .slice none 0 0] 44) := ⟨_, rfl⟩
  have hb0 : Below w.heap.size w W0 := by rw [hW0]; exact (Below.refl _ _).alloc (Nat.le_refl _) _
  have HR0 : Hid (∀ W, Below W0.heap.size W0 W → RBox W w.heap.size false none 0 0 none 0 0 0 0) := fun W hb => by
    have h : RBox W0 w.heap.size false none 0 0 none 0 0 0 0 := by rw [hW0]; exact RBox.fresh (w := w) ⟨_, _, rfl, big_none w, big_none w⟩
    exact h.later hb
  have HB0 := Hid.mk' hb0
  have HLT : Hid (w.heap.size < W0.heap.size) := by show _ < _; rw [hW0]; simp
  have HBT := Hid.mk' hbits
  have HQ0 := Hid.mk' (fun W => SignedOf_any 0 W (by decide) (by decide))
  have HQ2 := Hid.mk' (fun W => SignedOf_any 2 W (by decide) (by decide))
  have HB1 := Hid.mk' (fun W => BigOf_any 1 W (by decide))
  have HB2 := Hid.mk' (fun W => BigOf_any 2 W (by decide))
  clear hb0 hbits
  go_enter Tryz.func14, Tryz.ntmps14
  go_upto_region 1 with fail
  rw [← hW0]
  clear hW0
  have hcur := Below.refl W0.heap.size W0
  go_wp2_with fail
  refine (HQ0.out _).mono ?_
  rintro e w1 ⟨r, rfl, hr, hb1⟩
  obtain ⟨s1, x1, l1, c1, rfl⟩ := hr.sl
  have HR1 := Hid.mk' (SBox.fresh hr)
  have hcur := below_chain hcur hb1
  have HLT1 := Hid.mk' hcur.size
  have hcur := hcur.alloc hcur.size (.cells #[.bool s1, .slice x1 l1 c1] 42)
  clear hr hb1
  go_wp2_with fail
  generalize w1.alloc (.cells #[.bool s1, .slice x1 l1 c1] 42) = W1 at *
  generalize w1.heap.size = B1 at *
  refine (HB1.out _).mono ?_
  rintro e w2 ⟨d2, rfl, hd2, hb2⟩
  have HR1 := Hid.mk' (HR1.out.later hb2)
  have hcur := below_chain hcur hb2
  have HDN := Hid.mk' hd2
  obtain ⟨ad2, l2, cap2, rfl, _⟩ := hd2.len
  clear hd2 hb2
  go_wp2_with fail
  refine (HQ2.out _).mono ?_
  rintro e w3 ⟨r, rfl, hr, hb3⟩
  obtain ⟨s3, x3, l3, c3, rfl⟩ := hr.sl
  have HR2 := Hid.mk' (SBox.fresh hr)
  have HSZ : Hid (B1 < w3.heap.size) := Nat.lt_of_lt_of_le (cell_lt HR1.out.c0) hb3.size
  have hb4 : Below w3.heap.size w3 (w3.alloc (.cells #[.bool s3, .slice x3 l3 c3] 42)) := (Below.refl _ _).alloc (Nat.le_refl _) _
  have HR1 := Hid.mk' ((HR1.out.later hb3).later hb4)
  have HDN := Hid.mk' ((HDN.out.later hb3).later hb4)
  have HCUR := Hid.mk' (below_chain (below_chain hcur hb3) hb4)
  clear hr hb3 hb4 hcur
  go_wp2_with fail
  generalize w3.alloc (.cells #[.bool s3, .slice x3 l3 c3] 42) = W3 at *
  generalize w3.heap.size = B2 at *
  have HNE : Hid (B1 ≠ B2) := by have := HSZ.out; show B1 ≠ B2; omega
  clear HQ0 HQ2 HB1
  go_loopw [4, 6] (fun d i wr => ∃ (k : Nat) (s1 : Bool) (x1 x2 : Option Addr) (l1 c1 l2 c2 : Nat), k ≤ t.size ∧ d = .slice x2 l2 c2 ∧ i = .int .i64 k ∧ Hid (SBox wr B1 s1 x1 l1 c1 (valT t k : Nat)) ∧ Hid (SBox wr B2 s3 x3 l3 c3 2) ∧ Hid (BigAt wr (.slice x2 l2 c2) (2 ^ k)) ∧ Hid (Below W0.heap.size W0 wr)) (fun _ i _ => t.size - (intOf i).toNat)
  case atStart => exact ⟨0, s1, x1, ad2, l1, c1, l2, cap2, Nat.zero_le _, rfl, rfl, HR1.out, HR2.out, HDN.out, HCUR.out⟩
  case round =>
    clear HR1 HR2 HCUR HDN
    obtain ⟨k, s1, x1, x2, l1, c1, l2, c2, hk, rfl, rfl, HR1, HR2, HDN, HB⟩ := hrel
    have hk0 : (0 : Int) ≤ (k : Int) := by omega
    rcases Nat.lt_or_ge k t.size with h1 | h1
    · have hkI : (k : Int) < (t.size : Int) := by omega
      obtain ⟨b, hb2, hbit, hn⟩ : ∃ b : Nat, b ≤ 1 ∧ bitAt t k = some b ∧ ((t[k]'h1).toNat : Int) = 48 + (b : Int) := by
        rcases HBT.out k h1 with hx | hx
        · exact ⟨0, by decide, bitAt_zero h1 hx, by rw [hx]; rfl⟩
        · exact ⟨1, by decide, bitAt_one h1 hx, by rw [hx]; rfl⟩
      have HV : Hid (valT t (k + 1) = valT t k * 2 + b) := by show 2 * valT t k + (bitAt t k).getD 0 = _; rw [hbit]; show 2 * valT t k + b = _; omega
      have hv1 := valT_lt (t := t) k
      have hp1 := two_small (j := k) (by omega)
      have hp2 := two_small (j := k + 1) (by omega)
      rw [Nat.pow_succ] at hp2
      have HMU : Hid (∀ W, Below wr.heap.size wr W → Calls Tryz.prog 37 #[.agg #[.bool s1, .slice x1 l1 c1], .agg #[.bool s3, .slice x3 l3 c3]] W fun e w' => ∃ r, e = .returned r ∧ SignedAt w' r ((valT t k * 2 : Nat) : Int) ∧ Below W.heap.size W w') := fun W hb => by
        have h3 := SignedMul_any _ _ ((valT t k : Nat) : Int) 2 20 W (HR1.out.later hb).sg (HR2.out.later hb).sg (by rw [Int.natAbs_natCast]; omega) (by decide) (by decide)
        rw [show ((valT t k : Nat) : Int) * 2 = ((valT t k * 2 : Nat) : Int) by simp] at h3
        exact h3
      have HOF : Hid (∀ W, Calls Tryz.prog 34 #[.int .i64 (b : Int)] W fun e w' => ∃ v, e = .returned v ∧ SignedAt w' v (b : Int) ∧ Below W.heap.size W w') := fun W => SignedOf_any (b : Int) W (by omega) (by omega)
      have HAD : Hid (∀ W u v, SignedAt W u ((valT t k * 2 : Nat) : Int) → SignedAt W v (b : Int) → Calls Tryz.prog 36 #[u, v] W fun e w' => ∃ r, e = .returned r ∧ SignedAt w' r ((valT t (k + 1) : Nat) : Int) ∧ Below W.heap.size W w') := fun W u v hu hv => by
        have h3 := SignedAdd_any u v _ _ 20 W hu hv (by rw [Int.natAbs_natCast]; omega) (by rw [Int.natAbs_natCast]; omega) (by decide)
        rw [← Int.natCast_add, ← HV.out] at h3
        exact h3
      have HBM : Hid (∀ W v, BigAt W (.slice x2 l2 c2) (2 ^ k) → BigAt W v 2 → Calls Tryz.prog 38 #[.slice x2 l2 c2, v] W fun e w' => ∃ r, e = .returned r ∧ BigAt w' r (2 ^ (k + 1)) ∧ Below W.heap.size W w') := fun W v hu hv => by
        have h3 := BigMul_any _ v _ _ 20 W hu hv hp1 (by decide) (by decide)
        rw [← Nat.pow_succ] at h3
        exact h3
      clear hv1 hp1 hp2
      have y0 := HR1.out.c0
      have y1 := HR1.out.c1
      have v0 := HR2.out.c0
      have v1 := HR2.out.c1
      have HKS : Hid (∀ W, Below wr.heap.size wr W → ((W.cell? ⟨B1, 0, none⟩ = some (.bool s1) ∧ W.cell? ⟨B1, 1, none⟩ = some (.slice x1 l1 c1)) ∧ (W.cell? ⟨B2, 0, none⟩ = some (.bool s3) ∧ W.cell? ⟨B2, 1, none⟩ = some (.slice x3 l3 c3)))) := fun W hb => ⟨⟨by rw [hb.cell (cell_lt y0)]; exact y0, by rw [hb.cell (cell_lt y1)]; exact y1⟩, ⟨by rw [hb.cell (cell_lt v0)]; exact v0, by rw [hb.cell (cell_lt v1)]; exact v1⟩⟩
      have HLW := Hid.mk' (fun (W : World) (hb : Below wr.heap.size wr W) => And.intro (HR1.out.later hb) (HR2.out.later hb))
      have hcur : Below wr.heap.size wr wr.drew := (Below.refl _ _).drew
      clear y0 y1 v0 v1 hbit
      have hbI : (0 : Int) ≤ (b : Int) ∧ (b : Int) ≤ 1 := by omega
      obtain ⟨hb3, hb4⟩ := hbI
      have hwb : IntKind.u8.wrap (48 + (b : Int) - 48) = (b : Int) := by rcases (show b = 0 ∨ b = 1 by omega) with rfl | rfl <;> decide
      rcases (show b = 0 ∨ b = 1 by omega) with rfl | rfl
      · go_wp2_with fail
        refine region_but_last (n := 10) (S := fun W => (W.cell? ⟨B1, 0, none⟩ = some (.bool s1) ∧ W.cell? ⟨B1, 1, none⟩ = some (.slice x1 l1 c1)) ∧ (W.cell? ⟨B2, 0, none⟩ = some (.bool s3) ∧ W.cell? ⟨B2, 1, none⟩ = some (.slice x3 l3 c3))) (by kernel_rfl) (by kernel_rfl) (by kernel_rfl) (HKS.out _ hcur) (fun hHeld => ?_)
        refine wpAnyH_take (i := 0) (v := ?v0a) rfl (by kernel_rfl) (by kernel_rfl) (by kernel_rfl) (fun _ _ _ h => h) (Or.inl ⟨by rfl, ?hy0a⟩) (by assumption) ?rest0a
        case hy0a => (intro w hSw; (try dsimp only at hSw); go_simp <;> (try with_reducible rfl))
        simp only [Act.put]
        refine wpAnyH_take (i := 1) (v := ?v1a) rfl (by kernel_rfl) (by kernel_rfl) (by kernel_rfl) (fun _ _ _ h => h) (Or.inl ⟨by rfl, ?hy1a⟩) (by assumption) ?rest1a
        case hy1a => (intro w hSw; (try dsimp only at hSw); go_simp <;> (try with_reducible rfl))
        simp only [Act.put]
        refine wpAnyH_take (i := 3) (v := ?v3a) rfl (by kernel_rfl) (by kernel_rfl) (by kernel_rfl) (fun _ _ _ h => h) (Or.inl ⟨by rfl, ?hy3a⟩) (by assumption) ?rest3a
        case hy3a => (intro w hSw; (try dsimp only at hSw); go_simp <;> (try with_reducible rfl))
        simp only [Act.put]
        refine wpAnyH_take (i := 4) (v := ?v4a) rfl (by kernel_rfl) (by kernel_rfl) (by kernel_rfl) (fun _ _ _ h => h) (Or.inl ⟨by rfl, ?hy4a⟩) (by assumption) ?rest4a
        case hy4a => (intro w hSw; (try dsimp only at hSw); go_simp <;> (try with_reducible rfl))
        simp only [Act.put]
        refine wpAnyH_take (i := 5) (v := ?v5a) rfl (by kernel_rfl) (by kernel_rfl) (by kernel_rfl) (fun _ _ _ h => h) (Or.inl ⟨by rfl, ?hy5a⟩) (by assumption) ?rest5a
        case hy5a => (intro w hSw; (try dsimp only at hSw); go_simp <;> (try with_reducible rfl))
        simp only [Act.put]
        refine wpAnyH_take (i := 6) (v := ?v6a) rfl (by kernel_rfl) (by kernel_rfl) (by kernel_rfl) (fun _ _ _ h => h) (Or.inl ⟨by rfl, ?hy6a⟩) (by assumption) ?rest6a
        case hy6a => (intro w hSw; (try dsimp only at hSw); go_simp <;> (try with_reducible rfl))
        simp only [Act.put]
        refine wpAnyH_take (i := 7) (v := ?v7a) rfl (by kernel_rfl) (by kernel_rfl) (by kernel_rfl) (fun _ _ _ h => h) (Or.inl ⟨by rfl, ?hy7a⟩) (by assumption) ?rest7a
        case hy7a => (intro w hSw; (try dsimp only at hSw); go_simp <;> (try with_reducible rfl))
        simp only [Act.put]
        refine wpAnyH_ready (rs := [2]) (by kernel_rfl) (by simp) ?_
        refine AllReadyH.cons rfl (fun K hK => ?_) AllReadyH.nil
        go_simp
        refine (HMU.out _ hcur).mono ?_
        rintro e w5 ⟨r1, rfl, hr1, hb5⟩
        have hcur := below_chain hcur hb5
        have HX1 := Hid.mk' hr1
        obtain ⟨t1, p1, m1, q1, hr1e⟩ := hr1.sl
        subst hr1e
        clear hr1
        go_wp2_with fail
        refine hK.out _ _ ?_ (fun hHeld => ?_)
        · exact HKS.out _ hcur
        clear hK K
        refine wpAnyH_ready (rs := [8]) (by kernel_rfl) (by simp) ?_
        refine AllReadyH.cons rfl (fun K hK => ?_) AllReadyH.nil
        go_simp
        refine (HOF.out _).mono ?_
        rintro e w6 ⟨r2, rfl, hr2, hb6⟩
        have hcur := below_chain hcur hb6
        have HX1 := Hid.mk' (HX1.out.later hb6)
        have HX2 := Hid.mk' hr2
        obtain ⟨t2, p2, m2, q2, hr2e⟩ := hr2.sl
        subst hr2e
        clear hr2
        go_wp2_with fail
        refine hK.out _ _ ?_ (fun hHeld => ?_)
        · exact HKS.out _ hcur
        clear hK K
        refine wpAnyH_ready (rs := [9]) (by kernel_rfl) (by simp) ?_
        refine AllReadyH.cons rfl (fun K hK => ?_) AllReadyH.nil
        go_simp
        refine (HAD.out _ _ _ HX1.out HX2.out).mono ?_
        rintro e w7 ⟨r3, rfl, hr3, hb7⟩
        have hcur := below_chain hcur hb7
        have HX3 := Hid.mk' hr3
        obtain ⟨t3, p3, m3, q3, hr3e⟩ := hr3.sl
        subst hr3e
        clear hr3
        have hL := HLW.out _ hcur
        have fz0 := hL.1.f0
        have fz1 := hL.1.f1
        have k0 := hL.1.c0
        have k1 := hL.1.c1
        have HSET := Hid.mk' (hL.1.put HX3.out)
        have HSW := Hid.mk' (hL.2.aside hL.1 HNE.out (.bool t3) (.slice p3 m3 q3))
        have HDN2 := Hid.mk' ((HDN.out.later hcur).put2 hL.1 (.bool t3) (.slice p3 m3 q3))
        clear hL
        go_wp2_with fail
        refine hK.out _ _ ?_ (fun hHeld => ?_)
        · exact HKS.out _ hcur
        clear hK K
        refine wpAnyH_done (by kernel_rfl) ?_ _
        refine ahead_last rfl (fun K hK => ?_)
        go_simp
        refine hK _ _ ?_
        clear hK K
        have HB8 : Hid (Below W0.heap.size W0 (put2 w7 B1 (.bool t3) (.slice p3 m3 q3))) := by unfold put2; exact ((below_chain HB.out hcur).setCell HLT1.out _).setCell HLT1.out _
        unfold put2 at HSET HSW HDN2 HB8
        generalize (w7.setCell ⟨B1, 0, none⟩ (.bool t3)).setCell ⟨B1, 1, none⟩ (.slice p3 m3 q3) = W8 at *
        go_wp2_with fail
        refine (HB2.out _).mono ?_
        rintro e w9 ⟨v9, rfl, hv9, hb9⟩
        have HV9 := Hid.mk' hv9
        have HC9 := Hid.mk' hb9
        clear hv9 hb9
        go_wp2_with fail
        refine (HBM.out _ _ (HDN2.out.later HC9.out) HV9.out).mono ?_
        rintro e w10 ⟨v10, rfl, hv10, hb10⟩
        obtain ⟨x10, l10, c10, rfl, _⟩ := hv10.len
        have HV10 := Hid.mk' hv10
        have HC10 := Hid.mk' hb10
        clear hv10 hb10
        go_wp2_with fail
        exact ⟨⟨k + 1, _, _, _, _, _, _, _, h1, rfl, by go_num, (HSET.out.later HC9.out).later HC10.out, (HSW.out.later HC9.out).later HC10.out, HV10.out, below_chain (below_chain HB8.out HC9.out) HC10.out⟩, by simp [intOf]; omega⟩
      · go_wp2_with fail
        refine region_but_last (n := 10) (S := fun W => (W.cell? ⟨B1, 0, none⟩ = some (.bool s1) ∧ W.cell? ⟨B1, 1, none⟩ = some (.slice x1 l1 c1)) ∧ (W.cell? ⟨B2, 0, none⟩ = some (.bool s3) ∧ W.cell? ⟨B2, 1, none⟩ = some (.slice x3 l3 c3))) (by kernel_rfl) (by kernel_rfl) (by kernel_rfl) (HKS.out _ hcur) (fun hHeld => ?_)
        refine wpAnyH_take (i := 0) (v := ?v0b) rfl (by kernel_rfl) (by kernel_rfl) (by kernel_rfl) (fun _ _ _ h => h) (Or.inl ⟨by rfl, ?hy0b⟩) (by assumption) ?rest0b
        case hy0b => (intro w hSw; (try dsimp only at hSw); go_simp <;> (try with_reducible rfl))
        simp only [Act.put]
        refine wpAnyH_take (i := 1) (v := ?v1b) rfl (by kernel_rfl) (by kernel_rfl) (by kernel_rfl) (fun _ _ _ h => h) (Or.inl ⟨by rfl, ?hy1b⟩) (by assumption) ?rest1b
        case hy1b => (intro w hSw; (try dsimp only at hSw); go_simp <;> (try with_reducible rfl))
        simp only [Act.put]
        refine wpAnyH_take (i := 3) (v := ?v3b) rfl (by kernel_rfl) (by kernel_rfl) (by kernel_rfl) (fun _ _ _ h => h) (Or.inl ⟨by rfl, ?hy3b⟩) (by assumption) ?rest3b
        case hy3b => (intro w hSw; (try dsimp only at hSw); go_simp <;> (try with_reducible rfl))
        simp only [Act.put]
        refine wpAnyH_take (i := 4) (v := ?v4b) rfl (by kernel_rfl) (by kernel_rfl) (by kernel_rfl) (fun _ _ _ h => h) (Or.inl ⟨by rfl, ?hy4b⟩) (by assumption) ?rest4b
        case hy4b => (intro w hSw; (try dsimp only at hSw); go_simp <;> (try with_reducible rfl))
        simp only [Act.put]
        refine wpAnyH_take (i := 5) (v := ?v5b) rfl (by kernel_rfl) (by kernel_rfl) (by kernel_rfl) (fun _ _ _ h => h) (Or.inl ⟨by rfl, ?hy5b⟩) (by assumption) ?rest5b
        case hy5b => (intro w hSw; (try dsimp only at hSw); go_simp <;> (try with_reducible rfl))
        simp only [Act.put]
        refine wpAnyH_take (i := 6) (v := ?v6b) rfl (by kernel_rfl) (by kernel_rfl) (by kernel_rfl) (fun _ _ _ h => h) (Or.inl ⟨by rfl, ?hy6b⟩) (by assumption) ?rest6b
        case hy6b => (intro w hSw; (try dsimp only at hSw); go_simp <;> (try with_reducible rfl))
        simp only [Act.put]
        refine wpAnyH_take (i := 7) (v := ?v7b) rfl (by kernel_rfl) (by kernel_rfl) (by kernel_rfl) (fun _ _ _ h => h) (Or.inl ⟨by rfl, ?hy7b⟩) (by assumption) ?rest7b
        case hy7b => (intro w hSw; (try dsimp only at hSw); go_simp <;> (try with_reducible rfl))
        simp only [Act.put]
        refine wpAnyH_ready (rs := [2]) (by kernel_rfl) (by simp) ?_
        refine AllReadyH.cons rfl (fun K hK => ?_) AllReadyH.nil
        go_simp
        refine (HMU.out _ hcur).mono ?_
        rintro e w5 ⟨r1, rfl, hr1, hb5⟩
        have hcur := below_chain hcur hb5
        have HX1 := Hid.mk' hr1
        obtain ⟨t1, p1, m1, q1, hr1e⟩ := hr1.sl
        subst hr1e
        clear hr1
        go_wp2_with fail
        refine hK.out _ _ ?_ (fun hHeld => ?_)
        · exact HKS.out _ hcur
        clear hK K
        refine wpAnyH_ready (rs := [8]) (by kernel_rfl) (by simp) ?_
        refine AllReadyH.cons rfl (fun K hK => ?_) AllReadyH.nil
        go_simp
        refine (HOF.out _).mono ?_
        rintro e w6 ⟨r2, rfl, hr2, hb6⟩
        have hcur := below_chain hcur hb6
        have HX1 := Hid.mk' (HX1.out.later hb6)
        have HX2 := Hid.mk' hr2
        obtain ⟨t2, p2, m2, q2, hr2e⟩ := hr2.sl
        subst hr2e
        clear hr2
        go_wp2_with fail
        refine hK.out _ _ ?_ (fun hHeld => ?_)
        · exact HKS.out _ hcur
        clear hK K
        refine wpAnyH_ready (rs := [9]) (by kernel_rfl) (by simp) ?_
        refine AllReadyH.cons rfl (fun K hK => ?_) AllReadyH.nil
        go_simp
        refine (HAD.out _ _ _ HX1.out HX2.out).mono ?_
        rintro e w7 ⟨r3, rfl, hr3, hb7⟩
        have hcur := below_chain hcur hb7
        have HX3 := Hid.mk' hr3
        obtain ⟨t3, p3, m3, q3, hr3e⟩ := hr3.sl
        subst hr3e
        clear hr3
        have hL := HLW.out _ hcur
        have fz0 := hL.1.f0
        have fz1 := hL.1.f1
        have k0 := hL.1.c0
        have k1 := hL.1.c1
        have HSET := Hid.mk' (hL.1.put HX3.out)
        have HSW := Hid.mk' (hL.2.aside hL.1 HNE.out (.bool t3) (.slice p3 m3 q3))
        have HDN2 := Hid.mk' ((HDN.out.later hcur).put2 hL.1 (.bool t3) (.slice p3 m3 q3))
        clear hL
        go_wp2_with fail
        refine hK.out _ _ ?_ (fun hHeld => ?_)
        · exact HKS.out _ hcur
        clear hK K
        refine wpAnyH_done (by kernel_rfl) ?_ _
        refine ahead_last rfl (fun K hK => ?_)
        go_simp
        refine hK _ _ ?_
        clear hK K
        have HB8 : Hid (Below W0.heap.size W0 (put2 w7 B1 (.bool t3) (.slice p3 m3 q3))) := by unfold put2; exact ((below_chain HB.out hcur).setCell HLT1.out _).setCell HLT1.out _
        unfold put2 at HSET HSW HDN2 HB8
        generalize (w7.setCell ⟨B1, 0, none⟩ (.bool t3)).setCell ⟨B1, 1, none⟩ (.slice p3 m3 q3) = W8 at *
        go_wp2_with fail
        refine (HB2.out _).mono ?_
        rintro e w9 ⟨v9, rfl, hv9, hb9⟩
        have HV9 := Hid.mk' hv9
        have HC9 := Hid.mk' hb9
        clear hv9 hb9
        go_wp2_with fail
        refine (HBM.out _ _ (HDN2.out.later HC9.out) HV9.out).mono ?_
        rintro e w10 ⟨v10, rfl, hv10, hb10⟩
        obtain ⟨x10, l10, c10, rfl, _⟩ := hv10.len
        have HV10 := Hid.mk' hv10
        have HC10 := Hid.mk' hb10
        clear hv10 hb10
        go_wp2_with fail
        exact ⟨⟨k + 1, _, _, _, _, _, _, _, h1, rfl, by go_num, (HSET.out.later HC9.out).later HC10.out, (HSW.out.later HC9.out).later HC10.out, HV10.out, below_chain (below_chain HB8.out HC9.out) HC10.out⟩, by simp [intOf]; omega⟩
    · obtain rfl : k = t.size := by omega
      have y0 := HR1.out.c0
      have y1 := HR1.out.c1
      have HRT : Hid (RatioAt wr (.agg #[.bool s1, .slice x1 l1 c1, .slice x2 l2 c2]) ((valT t t.size : Nat) : Int) (2 ^ t.size)) := by
        obtain ⟨u, hu, hb⟩ := HR1.out.sg
        simp only [Value.agg.injEq, Array.mk.injEq, List.cons.injEq, and_true] at hu
        obtain ⟨e1, e2⟩ := hu
        subst e2
        exact ⟨_, _, by rw [e1], hb, HDN.out⟩
      have hv1 := valT_lt (t := t) t.size
      have hp1 := two_small (j := t.size) (by omega)
      have hlow := Lowest_any _ _ _ 20 wr HRT.out (Nat.pow_pos (by decide)) (by rw [Int.natAbs_natCast]; omega) hp1 (by decide)
      have HLO := Hid.mk' hlow
      clear hv1 hp1 hlow
      go_wp2_with fail
      refine HLO.out.mono ?_
      rintro e w9 ⟨r9, rfl, hr9, hb9⟩
      obtain ⟨t9, a9, l9, c9, a9', l9', c9', rfl⟩ := hr9.sl
      have hR := HR0.out _ (below_chain HB.out hb9)
      have z0 := hR.c0
      have z1 := hR.c1
      have z2 := hR.c2
      have f0 := hR.fz 0 (by decide)
      have f1 := hR.fz 1 (by decide)
      have f2 := hR.fz 2 (by decide)
      obtain ⟨⟨g0, g1⟩, ⟨g2, g3⟩, g4⟩ := put_three' (.bool t9) (.slice a9 l9 c9) (.slice a9' l9' c9') z0 z1 z2
      have HP := Hid.mk' (hR.put hr9)
      have HBF := Hid.mk' (below_chain (below_chain HB0.out HB.out) hb9)
      clear hR hb9 hr9
      unfold put3 at HP
      go_wp2_with fail
      refine bodyPost_ret (v := .agg #[.bool t9, .slice a9 l9 c9, .slice a9' l9' c9']) (by simp [results, Tryz.results14, go_sem, HP.out.c0, HP.out.c1, HP.out.c2]) rfl ⟨_, rfl, HP.out.rat, ?_⟩
      exact (((HBF.out.setCell (Nat.le_refl _) _).setCell (Nat.le_refl _) _).setCell (Nat.le_refl _) _)
end Go.Proofs.YtncgpldfenkiiaaGreatDoor
