/- A logarithm in form times a fraction in its lowest terms. -/
import Derived.Test.YtiecbconcdncmabGreatDoorSumSame
import Derived.OwnWalk
import Derived.Test.YtiecbconcdncmabGreatDoorValidLog
import Derived.Test.YtiecbconcdncmabGreatDoorSame
namespace Go.Proofs.YtiecbconcdncmabGreatDoor

theorem gList_gcd : ∀ (L : List Int) (g : Nat), gList g L = Nat.gcd g (gList 0 L)
  | [], g => by show g = Nat.gcd g 0; rw [Nat.gcd_zero_right]
  | x :: r, g => by
    show gList (Nat.gcd g x.natAbs) r = Nat.gcd g (gList (Nat.gcd 0 x.natAbs) r)
    rw [gList_gcd r (Nat.gcd g x.natAbs), gList_gcd r (Nat.gcd 0 x.natAbs), Nat.gcd_zero_left, Nat.gcd_assoc]
theorem gList_mulI (n : Int) : ∀ L : List Int, gList 0 (L.map fun x => n * x) = n.natAbs * gList 0 L
  | [] => by simp [gList]
  | x :: r => by
    show gList (Nat.gcd 0 (n * x).natAbs) (r.map fun x => n * x) = n.natAbs * gList (Nat.gcd 0 x.natAbs) r
    rw [gList_gcd (r.map fun x => n * x), gList_mulI n r, gList_gcd r (Nat.gcd 0 x.natAbs), Nat.gcd_zero_left, Nat.gcd_zero_left, Int.natAbs_mul, Nat.gcd_mul_left]
theorem coprime_mul {a d n C : Nat} (h1 : Nat.Coprime a n) (h2 : Nat.Coprime a C) (h3 : Nat.Coprime d n) (h4 : Nat.Coprime d C) : Nat.Coprime (a * d) (n * C) :=
  Nat.Coprime.mul_left (Nat.Coprime.mul_right h1 h2) (Nat.Coprime.mul_right h3 h4)
theorem gcd_cross {a d n C : Nat} (h1 : Nat.Coprime a C) (h2 : Nat.Coprime n d) (ha : 0 < a) (hd : 0 < d) : Nat.gcd (a * d) (n * C) = Nat.gcd n a * Nat.gcd d C := by
  have hl : 0 < Nat.gcd n a := Nat.gcd_pos_of_pos_right _ ha
  have hr : 0 < Nat.gcd d C := Nat.gcd_pos_of_pos_left _ hd
  have c1 := Nat.coprime_div_gcd_div_gcd hl
  have c2 := Nat.coprime_div_gcd_div_gcd hr
  obtain ⟨n', hn⟩ := Nat.gcd_dvd_left n a
  obtain ⟨a', ha'⟩ := Nat.gcd_dvd_right n a
  obtain ⟨d', hd'⟩ := Nat.gcd_dvd_left d C
  obtain ⟨C', hC⟩ := Nat.gcd_dvd_right d C
  generalize Nat.gcd n a = l at *
  generalize Nat.gcd d C = r at *
  subst hn ha' hd' hC
  rw [Nat.mul_div_cancel_left _ hl, Nat.mul_div_cancel_left _ hl] at c1
  rw [Nat.mul_div_cancel_left _ hr, Nat.mul_div_cancel_left _ hr] at c2
  have e1 : l * a' * (r * d') = l * r * (a' * d') := by grind
  have e2 : l * n' * (r * C') = l * r * (n' * C') := by grind
  rw [e1, e2, Nat.gcd_mul_left, coprime_mul c1.symm (h1.coprime_dvd_left (Nat.dvd_mul_left _ _) |>.coprime_dvd_right (Nat.dvd_mul_left _ _)) (h2.coprime_dvd_left (Nat.dvd_mul_left _ _) |>.coprime_dvd_right (Nat.dvd_mul_left _ _)).symm c2, Nat.mul_one]

def scaleL (n : Int) (t : List (Int × Int)) : List (Int × Int) := t.map fun e => (e.1, n * e.2)
theorem scale_rise {t : List (Int × Int)} (h : Rising t) (n : Int) : Rising (scaleL n t) := by
  unfold scaleL Rising
  rw [List.pairwise_map]
  exact h
theorem scale_at (n : Int) : ∀ (t : List (Int × Int)) (x : Int), atL (scaleL n t) x = n * atL t x
  | [], x => by simp [scaleL, atL]
  | e :: r, x => by
    have ih := scale_at n r x
    show (if e.1 = x then n * e.2 else atL (scaleL n r) x) = n * if e.1 = x then e.2 else atL r x
    by_cases h : e.1 = x
    · rw [if_pos h, if_pos h]
    · rw [if_neg h, if_neg h, ih]
theorem scale_snd (n : Int) (t : List (Int × Int)) : (scaleL n t).map Prod.snd = (t.map Prod.snd).map fun x => n * x := by unfold scaleL; rw [List.map_map, List.map_map]; rfl
/-- The common divisor of what is scaled. -/
theorem scale_gcd {da d : Nat} {n : Int} {t : List (Int × Int)} (hda : 0 < da) (hd : 0 < d) (hone : gList da (t.map Prod.snd) = 1) (hlow : Nat.gcd n.natAbs d = 1) : gList (da * d) ((scaleL n t).map Prod.snd) = Nat.gcd n.natAbs da * gList d (t.map Prod.snd) := by
  rw [gList_gcd] at hone
  rw [scale_snd, gList_gcd, gList_mulI, gList_gcd (t.map Prod.snd) d]
  exact gcd_cross hone hlow hda hd
theorem scale_den {da d lf rt : Nat} (hl : lf ∣ da) (hr : rt ∣ d) : da * d / (lf * rt) = da / lf * (d / rt) := (Nat.div_mul_div_comm hl hr).symm
theorem scale_coef {n c : Int} {lf rt : Nat} (hl : lf ∣ n.natAbs) (hr : rt ∣ c.natAbs) (hl0 : 0 < lf) (hr0 : 0 < rt) : (n * c).tdiv ((lf * rt : Nat) : Int) = n.tdiv (lf : Int) * c.tdiv (rt : Int) := by
  have h1 : n = (lf : Int) * n.tdiv (lf : Int) := (Int.mul_tdiv_cancel' (Int.ofNat_dvd_left.2 hl)).symm
  have h2 : c = (rt : Int) * c.tdiv (rt : Int) := (Int.mul_tdiv_cancel' (Int.ofNat_dvd_left.2 hr)).symm
  generalize n.tdiv (lf : Int) = a at *
  generalize c.tdiv (rt : Int) = b at *
  rw [h1, h2, Int.natCast_mul, show (lf : Int) * a * ((rt : Int) * b) = (lf : Int) * (rt : Int) * (a * b) by grind]
  exact Int.mul_tdiv_cancel_left _ (Int.mul_ne_zero (by omega) (by omega))
theorem most_iff {m k : Nat} (hk : 0 < k) : m ≤ 1099511627776 / k ↔ m * k ≤ 1099511627776 := Nat.le_div_iff_mul_le hk
end Go.Proofs.YtiecbconcdncmabGreatDoor

/- logs.lowest and logs.scaled at any fraction. -/
namespace Go.Proofs.YtiecbconcdncmabGreatDoor
open Go.RowKit Go.Maps

theorem quo_nat30 {a b : Nat} (h : a ≤ 1073741824) : wrap64 ((a : Int) / (b : Int)) = ((a / b : Nat) : Int) := by
  have h0 : (a : Int) / (b : Int) = ((a / b : Nat) : Int) := by simp
  have h1 : a / b ≤ a := Nat.div_le_self _ _
  rw [h0]
  generalize a / b = q at h1
  rw [w64 _ (by omega)]

theorem quo_most {m : Nat} : (1099511627776 : Int) / (m : Int) = ((1099511627776 / m : Nat) : Int) := by simp

set_option maxRecDepth 10000 in
set_option maxHeartbeats 1000000 in
theorem lowest_any (n : Int) (d : Nat) (w : World) (h1 : -1073741824 ≤ n) (h2 : n ≤ 1073741824) (hd0 : 1 ≤ d) (hd1 : d ≤ 1073741824) (g : Nat) (hg : g = Nat.gcd n.natAbs d) : Calls Tryz.prog 32 #[.int .i64 n, .int .i64 d] w fun e w' => e = .returned (.agg #[.int .i64 (n.tdiv (g : Int)), .int .i64 ((d / g : Nat) : Int)]) ∧ Below w.heap.size w w' := by
  have hB0 : Below w.heap.size w (w.alloc (.cells #[.int .i64 0, .int .i64 0] 45)) := (Below.refl _ _).alloc (Nat.le_refl _) _
  have hgc := GCD_any n d (w.alloc (.cells #[.int .i64 0, .int .i64 0] 45)) (by omega) (by omega) (by omega) (by omega)
  have hgi : Int.gcd n (d : Int) = g := by rw [hg]; simp [Int.gcd]
  rw [hgi] at hgc
  have hgp : 0 < g := by rw [hg]; exact Nat.gcd_pos_of_pos_right _ hd0
  have hgz : ¬ g = 0 := by omega
  have hgl : g ≤ d := by rw [hg]; exact Nat.gcd_le_right _ (by omega)
  have HB := Hid.mk' hB0
  clear hB0 hgi hg
  go_enter Tryz.func32, Tryz.ntmps32
  go_wp2_with fail
  refine hgc.mono ?_
  clear hgc
  rintro e w1 ⟨rfl, m, rfl⟩
  go_wp2_with fail
  go_region
  go_wp2_with fail
  refine bodyPost_ret (v := .agg #[.int .i64 (n.tdiv (g : Int)), .int .i64 (wrap64 ((d : Int) / (g : Int)))]) (by simp [results, Tryz.results32, go_sem]) rfl ⟨by rw [quo_nat30 hd1], ?_⟩
  exact ((below_drewN HB.out _).setCell (by simp) _).setCell (by simp) _
/-- What scaled's second loop keeps: the row lies at N, the answer's box at Bx. -/
structure InScl (w wr : World) (N Bx : Nat) (d : Int) (n : Nat) (p c : Nat → Int) (k : Nat) : Prop where
  below : Below N w wr
  lt : N < Bx
  o0 : wr.cell? ⟨Bx, 0, none⟩ = some (.int .i64 d)
  o1 : wr.cell? ⟨Bx, 1, none⟩ = some (.slice (some ⟨N, 0, none⟩) k n)
  f0 : wr.frozen? ⟨Bx, 0, none⟩ = false
  fz : wr.frozen? ⟨Bx, 1, none⟩ = false
  row : wr.ownsRow N 55 2 (.slice (some ⟨N, 0, none⟩) k n) k (termCells p c k)
theorem InScl.later {w wr wn : World} {N Bx : Nat} {d : Int} {n : Nat} {p c : Nat → Int} {k : Nat} (h : InScl w wr N Bx d n p c k) (hb : Below wr.heap.size wr wn) : InScl w wn N Bx d n p c k :=
  ⟨h.below.trans (hb.mono (by have := cell_lt h.o0; have := h.lt; simp only at *; omega)), h.lt, (cell_past h.o0 hb).2, (cell_past h.o1 hb).2, (frozen_past h.o0 h.f0 hb).2, (frozen_past h.o1 h.fz hb).2, ownsRow_past h.row hb⟩
theorem InScl.pushed {w wr w3 : World} {N Bx : Nat} {d : Int} {n : Nat} {p c : Nat → Int} {k : Nat} (h : InScl w wr N Bx d n p c k) (hg : wr.grownBy w3 (some N)) (hrow : w3.ownsRow N 55 2 (.slice (some ⟨N, 0, none⟩) (k + 1) n) (k + 1) (termCells p c k ++ [.int .i64 (p k), .int .i64 (c k)])) :
    w3.cell? ⟨Bx, 1, none⟩ = some (.slice (some ⟨N, 0, none⟩) k n) ∧ w3.frozen? ⟨Bx, 1, none⟩ = false ∧ InScl w (w3.setCell ⟨Bx, 1, none⟩ (.slice (some ⟨N, 0, none⟩) (k + 1) n)) N Bx d n p c (k + 1) := by
  have hlt := cell_lt h.o0
  have hNB := h.lt
  simp only at hlt
  have c0 := cell_beside hg h.o0 (by omega)
  have c1 := cell_beside hg h.o1 (by omega)
  have hblk := hg.block Bx hlt (by simp; omega)
  have f0 : w3.frozen? ⟨Bx, 0, none⟩ = false := by rw [← h.f0]; simp [World.frozen?, hblk]
  have f1 : w3.frozen? ⟨Bx, 1, none⟩ = false := by rw [← h.fz]; simp [World.frozen?, hblk]
  refine ⟨c1, f1, ⟨(h.below.grown hg (by omega) (fun j e => by cases e; exact Nat.le_refl _)).setCell (by simp; omega) _, h.lt, ?_, World.cell?_setCell_same _ _ _ c1, by simpa using f0, by simpa using f1, ?_⟩⟩
  · rw [World.cell?_setCell_other _ _ _ _ (by simp)]; exact c0
  · obtain ⟨hl, hr⟩ := hrow
    refine ⟨hl, ?_⟩
    rcases hr with hr | ⟨gg, cap, cur, hv, hg1, hh, rest⟩
    · exact Or.inl hr
    · refine Or.inr ⟨gg, cap, cur, hv, hg1, ?_, rest⟩
      have : gg = N := by simp at hv; exact hv.1.symm
      rw [Below.heap_setCell _ _ _ _ (by show gg ≠ Bx; omega)]
      exact hh
theorem inScl_start {W W3 : World} {d : Int} {n : Nat} {p c : Nat → Int} (ho : W3.ownsRow W.heap.size 55 2 (.slice (some ⟨W.heap.size, 0, none⟩) 0 n) 0 []) (hg : W.grownBy W3 none) : InScl W (W3.alloc (.cells #[.int .i64 d, .slice (some ⟨W.heap.size, 0, none⟩) 0 n] 24)) W.heap.size W3.heap.size d n p c 0 := by
  have hlt : W.heap.size < W3.heap.size := by
    rcases ho.2 with ⟨h, _⟩ | ⟨g, cap, cur, hv, _, hh, _⟩
    · cases h
    · have : W.heap.size = g := by simp at hv; exact hv.1
      rw [this]; exact heap_lt hh
  refine ⟨((Below.refl _ _).grown hg (Nat.le_refl _) (fun j e => by cases e)).alloc (by omega) _, hlt, by rw [World.cell?_alloc_at _ _ _ _ rfl]; rfl, by rw [World.cell?_alloc_at _ _ _ _ rfl]; rfl, frozen_new rfl, frozen_new rfl, ownsRow_past ho (new_below _ _)⟩


set_option maxRecDepth 100000 in
set_option maxHeartbeats 2000000 in
theorem scaled_any (da d : Nat) (n : Int) (ad : Option Addr) (nn cap : Nat) (p c : Nat → Int) (a : Nat → Addr) (w : World) (h : Errs w a) (hl : LogAt w (.slice ad nn cap) nn p c) (hok : OkLog da nn p c) (hn0 : 0 < nn) (hn : nn ≤ 100) (h1 : -1073741824 ≤ n) (h2 : n ≤ 1073741824) (hnz : n ≠ 0) (hd0 : 1 ≤ d) (hd1 : d ≤ 1073741824) (lf rt : Nat) (hlf : lf = Nat.gcd n.natAbs da) (hrt : rt = gcdTo d c nn) (fits : Bool) (hfit : fits = true ↔ (da / lf * (d / rt) ≤ 1000000 ∧ ∀ i, i < nn → (n.tdiv (lf : Int) * (c i).tdiv (rt : Int)).natAbs ≤ 1099511627776)) :
    Calls Tryz.prog 31 #[.agg #[.int .i64 da, .slice ad nn cap], .agg #[.int .i64 n, .int .i64 d]] w fun e w' => ((fits = true ∧ ∃ v, e = .returned (.tuple #[.agg #[.int .i64 ((da / lf * (d / rt) : Nat) : Int), v], .nilIface]) ∧ OwnAt w' v nn p (fun i => n.tdiv (lf : Int) * (c i).tdiv (rt : Int))) ∨ (fits = false ∧ e = .returned (.tuple #[.agg #[.int .i64 0, .slice none 0 0], .iface 232 (.pointer (some (a 1)))]))) ∧ Below w.heap.size w w' := by
  obtain ⟨W0, hW⟩ : ∃ W0, W0 = (((w.alloc (.cells #[.int .i64 da, .slice ad nn cap] 24)).alloc (.cells #[.int .i64 n, .int .i64 d] 45)).alloc (.cells #[.int .i64 0, .slice none 0 0] 24)) := ⟨_, rfl⟩
  have hb0 : Below w.heap.size w W0 := by rw [hW]; exact more_below (more_below (new_below _ _) _) _
  have hC : ∀ W, Below W0.heap.size W0 W → (W.cell? ⟨w.heap.size, 0, none⟩ = some (.int .i64 da) ∧ W.cell? ⟨w.heap.size, 1, none⟩ = some (.slice ad nn cap)) ∧ (W.cell? ⟨w.heap.size + 1, 0, none⟩ = some (.int .i64 n) ∧ W.cell? ⟨w.heap.size + 1, 1, none⟩ = some (.int .i64 d)) ∧ (W.cell? ⟨w.heap.size + 1 + 1, 0, none⟩ = some (.int .i64 0) ∧ W.cell? ⟨w.heap.size + 1 + 1, 1, none⟩ = some (.slice none 0 0)) ∧ W.frozen? ⟨w.heap.size + 1 + 1, 0, none⟩ = false ∧ W.frozen? ⟨w.heap.size + 1 + 1, 1, none⟩ = false := fun W hb => by
    rw [hW] at hb
    obtain ⟨q0, q1, _, _⟩ := res_past (below_chain (more_below (new_below (w.alloc (.cells #[.int .i64 da, .slice ad nn cap] 24)) (.cells #[.int .i64 n, .int .i64 d] 45)) (.cells #[.int .i64 0, .slice none 0 0] 24)) hb)
    obtain ⟨q2, q3, _, _⟩ := res_past (below_chain (new_below ((w.alloc (.cells #[.int .i64 da, .slice ad nn cap] 24)).alloc (.cells #[.int .i64 n, .int .i64 d] 45)) (.cells #[.int .i64 0, .slice none 0 0] 24)) hb)
    obtain ⟨q4, q5, q6, q7⟩ := res_past hb
    simp only [World.size_alloc] at q2 q3 q4 q5 q6 q7
    exact ⟨⟨q0, q1⟩, ⟨q2, q3⟩, ⟨q4, q5⟩, q6, q7⟩
  have hz0 : W0.heap.size = w.heap.size + 1 + 1 + 1 := by rw [hW]; simp
  have hda1 : 1 ≤ da := by have := hok.1; omega
  have hda6 : da ≤ 1000000 := by have := hok.2.1; omega
  have hg := GCD_any n da W0 (by omega) (by omega) (by omega) (by omega)
  have hgi : Int.gcd n (da : Int) = lf := by rw [hlf]; simp [Int.gcd]
  rw [hgi] at hg
  have hlp : 0 < lf := by rw [hlf]; exact Nat.gcd_pos_of_pos_right _ hda1
  have hlz : ¬ lf = 0 := by omega
  have hll : lf ≤ da := by rw [hlf]; exact Nat.gcd_le_right _ (by omega)
  have HW := Hid.mk' hW
  have HB0 := Hid.mk' hb0
  have HL := Hid.mk' (hl.later hb0)
  have HOK := Hid.mk' hok
  have HE : Hid (∀ W, Below W0.heap.size W0 W → W.cell? ⟨1, 0, none⟩ = some (.iface 232 (.pointer (some (a 1))))) := fun W hb => ((h.below hb0).below hb).c1
  have HC := Hid.mk' hC
  have HRT := Hid.mk' hrt
  have HLF := Hid.mk' hlf
  have HFIT := Hid.mk' hfit
  have HZ0 := Hid.mk' hz0
  obtain ⟨⟨k0, k1⟩, ⟨k2, k3⟩, _⟩ := hC W0 (Below.refl _ _)
  clear h hl hok hb0 hW hC hgi hrt hlf hfit hz0
  go_enter Tryz.func31, Tryz.ntmps31
  go_wp2_with fail
  rw [← HW.out]
  refine hg.mono ?_
  clear hg k0 k1 k2 k3
  rintro e w1 ⟨rfl, m1, hw1⟩
  have hb1 : Below W0.heap.size W0 w1 := by rw [hw1]; exact below_drewN (Below.refl _ _) _
  clear hw1
  obtain ⟨⟨k0, k1⟩, ⟨k2, k3⟩, _⟩ := HC.out w1 hb1
  have HB1 := Hid.mk' hb1
  clear hb1
  go_wp2_with fail
  clear k0 k1 k2 k3
  go_loopw [7, 27] (fun s i wr => ∃ k : Nat, k ≤ nn ∧ s = .int .i64 ((gcdTo d c k : Nat) : Int) ∧ i = .int .i64 k ∧ Hid (Below W0.heap.size W0 wr)) (fun _ i _ => nn - (intOf i).toNat)
  case atStart => exact ⟨0, by omega, rfl, rfl, HB1⟩
  case round =>
    clear HB1
    obtain ⟨k, hk, rfl, rfl, HB⟩ := hrel
    have hk0 : (0 : Int) ≤ (k : Int) := by omega
    have hgb := gcdTo_pos (d : Int) c (by omega) k
    obtain ⟨r, hr⟩ : ∃ r, gcdTo d c k = r := ⟨_, rfl⟩
    rw [hr] at hgb
    have hr1 : 1 ≤ r := hgb.1
    have hr2 : r ≤ 1073741824 := by have := hgb.2; omega
    clear hgb
    by_cases hlt : k < nn
    · have hkI : (k : Int) < (nn : Int) := by omega
      obtain ⟨b, o, rfl, y0, y1⟩ := LogAt.cellsOf (HL.out.later HB.out) hlt
      obtain ⟨_, _, hc0, hc1, _⟩ := (HOK.out.2.2.1 k hlt).2
      have hgc := GCD_any r (c k) (wr.alloc (.cells #[.int .i64 (p k), .int .i64 (c k)] 55)) (by omega) (by omega) (by omega) (by omega)
      have HBA := Hid.mk' (HB.out.alloc HB.out.size (.cells #[.int .i64 (p k), .int .i64 (c k)] 55))
      have HNX : Hid (((Int.gcd (r : Int) (c k) : Nat) : Int) = ((gcdTo d c (k + 1) : Nat) : Int)) := by
        show _ = ((Int.gcd (gcdTo d c k : Int) (c k) : Nat) : Int)
        rw [hr]
      rw [hr]
      clear hr
      go_wp2_with fail
      refine hgc.mono ?_
      clear hgc
      rintro e w2 ⟨rfl, m2, hw2⟩
      rw [HNX.out]
      go_wp2_with fail
      exact ⟨⟨k + 1, by omega, rfl, by go_num, below_drewN HBA.out _⟩, by simp [intOf]; omega⟩
    · obtain rfl : k = nn := by omega
      have hrr : r = rt := by rw [HRT.out]; exact hr.symm
      rw [hr, hrr]
      rw [hrr] at hr1 hr2
      have hrz : ¬ rt = 0 := by omega
      have hrd : rt ≤ d := by have h9 := (gcdTo_pos (d : Int) c (by omega) k).2; rw [hr, hrr] at h9; omega
      clear hr hrr
      obtain ⟨⟨k0, k1⟩, ⟨k2, k3⟩, ⟨k4, k5⟩, _⟩ := HC.out wr HB.out
      go_wp2_with fail
      go_quiet (fail)
      have hbq : Below W0.heap.size W0 (wr.drewN nq) := below_drewN HB.out _
      generalize wr.drewN nq = W2 at hbq ⊢
      clear k0 k1 k2 k3 k4 k5
      have hDq : wrap64 (wrap64 ((da : Int) / (lf : Int)) * wrap64 ((d : Int) / (rt : Int))) = ((da / lf * (d / rt) : Nat) : Int) := by
        rw [quo_nat30 (show da ≤ 1073741824 by omega), quo_nat30 hd1, ← Int.natCast_mul]
        have e1 : da / lf ≤ 1000000 := Nat.le_trans (Nat.div_le_self _ _) hda6
        have e2 : d / rt ≤ 1073741824 := Nat.le_trans (Nat.div_le_self _ _) hd1
        have e3 := Nat.mul_le_mul e1 e2
        generalize da / lf * (d / rt) = D at e3
        rw [w64 _ (by omega)]
      rw [hDq]
      clear hDq
      generalize hD : da / lf * (d / rt) = D at HFIT ⊢
      have HDD := Hid.mk' hD
      have hDm : D ≤ 1073741824000000 := by
        rw [← hD]
        exact Nat.mul_le_mul (Nat.le_trans (Nat.div_le_self _ _) hda6) (Nat.le_trans (Nat.div_le_self _ _) hd1)
      have hnum0 : n.tdiv (lf : Int) ≠ 0 := fun e => hnz (by
        have h9 : (lf : Int) ∣ n := Int.ofNat_dvd_left.2 (by rw [HLF.out]; exact Nat.gcd_dvd_left _ _)
        have := Int.mul_tdiv_cancel' h9
        rw [e, Int.mul_zero] at this
        exact this.symm)
      have hnumb : (n.tdiv (lf : Int)).natAbs ≤ 1073741824 := by
        rw [Int.natAbs_tdiv]
        exact Nat.le_trans (Nat.div_le_self _ _) (by omega)
      generalize hnum : n.tdiv (lf : Int) = num at hnum0 hnumb HFIT ⊢
      have HNUM := Hid.mk' hnum
      clear hD hnum
      have HBQ := Hid.mk' hbq
      obtain ⟨⟨k0, k1⟩, ⟨k2, k3⟩, ⟨k4, k5⟩, f4, f5⟩ := HC.out W2 hbq
      by_cases hbig : 1000000 < D
      · have hff : fits = false := by
          cases fits
          · rfl
          · have := (HFIT.out.1 rfl).1; omega
        have hbI : (1000000 : Int) < (D : Int) := by omega
        have ge := HE.out W2 hbq
        have HBT := Hid.mk' (below_chain HB0.out hbq)
        have hz0 := HZ0.out
        have hbs := hbq.size
        clear hbq HE
        go_wp2_with fail
        go_region
        all_goals
          go_wp2_with fail
          refine bodyPost_ret (v := .tuple #[.agg #[.int .i64 0, .slice none 0 0], .iface 232 (.pointer (some (a 1)))]) (by simp [results, Tryz.results31, go_sem, k4, k5]) rfl ⟨Or.inr ⟨hff, rfl⟩, ?_⟩
          exact (HBT.out.drew.setCell (by simp; omega) _).setCell (by simp; omega) _
      · have hbI : (D : Int) ≤ 1000000 := by omega
        obtain ⟨m, hm⟩ : ∃ m : Nat, num.natAbs = m := ⟨_, rfl⟩
        have hm1 : 1 ≤ m := by omega
        have hmz : ¬ m = 0 := by omega
        have hmb : m ≤ 1073741824 := by omega
        have hsz := size_any num W2 (by omega) (by omega)
        rw [hm] at hsz
        have HM := Hid.mk' hm
        clear hm
        go_wp2_with fail
        refine hsz.mono ?_
        clear hsz
        rintro e w5 ⟨rfl, hw5⟩
        rw [hw5]
        clear hw5
        obtain ⟨i0, hi, hz0', hz1, hz2⟩ := info_parts Tryz.infoTerm
        have HINF : Hid (Tryz.prog.info? 55 = some i0 ∧ i0.zero = some (.agg #[.int .i64 0, .int .i64 0]) ∧ i0.size = 2 ∧ i0.bytes = 16) := ⟨hi, hz0', hz1, hz2⟩
        clear hi hz0' hz1 hz2
        have HZ : Hid (∀ w6, W2.grownBy w6 none → Below W0.heap.size W0 w6) := fun w6 hg => hbq.grown hg hbq.size (fun j e => by cases e)
        clear hbq k2 k3 k4 k5 f4 f5 k0
        go_wp2_with (at_make; go_must (refine wpList_make_own _ rfl _ _ _ rfl W2.heap.size 55 i0 _ 2 Tryz.underlying22 HINF.out.1 HINF.out.2.1 HINF.out.2.2.1 _ _ _ k rfl rfl rfl (by rw [HINF.out.2.2.2]; omega) (by unfold maxLen; omega) (Nat.le_refl _) ?_; intro w6 hown hgrow; have HIS := Hid.mk' (inScl_start (d := (D : Int)) (p := p) (c := fun i => num * (c i).tdiv (rt : Int)) hown hgrow); have z1 := fun X => (HC.out (w6.alloc X) ((HZ.out w6 hgrow).alloc (HZ.out w6 hgrow).size X)).1.2; clear hown hgrow))
        clear z1 k1
        go_loopw [65] (fun i wr => ∃ j : Nat, j ≤ k ∧ i = .int .i64 j ∧ Hid (InScl W2 wr W2.heap.size w6.heap.size (D : Int) k p (fun i => num * (c i).tdiv (rt : Int)) j) ∧ Hid (∀ i, i < j → (num * (c i).tdiv (rt : Int)).natAbs ≤ 1099511627776)) (fun i _ => k - (intOf i).toNat)
        case atStart => exact ⟨0, by omega, rfl, HIS, (fun i hi => absurd hi (by omega))⟩
        case round =>
          clear HIS
          obtain ⟨j, hj, rfl, HO, HLE⟩ := hrel
          have hj0 : (0 : Int) ≤ (j : Int) := by omega
          have hbW := below_chain HBQ.out HO.out.below
          have HBW := Hid.mk' hbW
          by_cases hjk : j < k
          · have hjI : (j : Int) < (k : Int) := by omega
            obtain ⟨b, o, rfl, y0, y1⟩ := LogAt.cellsOf (HL.out.later hbW) hjk
            obtain ⟨_, _, hc0, hc1, _⟩ := (HOK.out.2.2.1 j hjk).2
            have hqb : ((c j).tdiv (rt : Int)).natAbs ≤ 1099511627776 := by
              rw [Int.natAbs_tdiv]
              exact Nat.le_trans (Nat.div_le_self _ _) (by omega)
            obtain ⟨q, hq⟩ : ∃ q, (c j).tdiv (rt : Int) = q := ⟨_, rfl⟩
            rw [hq] at hqb
            have hqI : -1099511627776 ≤ q ∧ q ≤ 1099511627776 := by omega
            have HPR : Hid ((num * q).natAbs = m * q.natAbs) := by show _ = _; rw [Int.natAbs_mul, HM.out]
            have x1 : ∀ X, (wr.alloc X).cell? ⟨w6.heap.size, 1, none⟩ = some (.slice (some ⟨W2.heap.size, 0, none⟩) j k) := fun X => (cell_past HO.out.o1 (new_below _ X)).2
            have x2 : ∀ X Y, ((wr.alloc X).alloc Y).cell? ⟨w6.heap.size, 1, none⟩ = some (.slice (some ⟨W2.heap.size, 0, none⟩) j k) := fun X Y => (cell_past (x1 X) (new_below _ Y)).2
            have HLAT : Hid (∀ X Y, InScl W2 ((wr.alloc X).alloc Y) W2.heap.size w6.heap.size (D : Int) k p (fun i => num * (c i).tdiv (rt : Int)) j) := fun X Y => (HO.out.later (new_below _ X)).later (new_below _ Y)
            have hsz := fun W => size_any q W (by omega) (by omega)
            have HQ := Hid.mk' hq
            by_cases hof : q.natAbs * m ≤ 1099511627776
            · have hbr : (q.natAbs : Int) ≤ 1099511627776 / (m : Int) := by
                rw [quo_most]
                have := (most_iff (m := q.natAbs) hm1).2 hof
                omega
              have hpb : -1099511627776 ≤ q * num ∧ q * num ≤ 1099511627776 := by
                have h9 := HPR.out
                rw [Nat.mul_comm] at h9
                have h10 : q * num = num * q := Int.mul_comm _ _
                omega
              clear hbW hqb
              go_wp2_with (first
                | (go_at_call 53; refine (hsz _).mono ?_; rintro e w8 ⟨rfl, hw8⟩; rw [hw8]; clear hw8)
                | (at_builtin; go_must (refine wpList_append_fits _ rfl _ _ _ rfl W2.heap.size 55 i0 2 Tryz.underlying22 HINF.out.1 HINF.out.2.2.1 W2.heap.size j k _ rfl (HLAT.out _ _).row ⟨wr.heap.size + 1, 0, none⟩ 1 1 [.int .i64 (p j), .int .i64 (q * num)] rfl rfl (fun q' u h => by have := two_new (wr.alloc (.cells #[.int .i64 (p j), .int .i64 (c j)] 55)) (.int .i64 (p j)) (.int .i64 (q * num)) 55 q' u h; simpa using this) (by simp [Value.oneCell']) (by omega) ?_; intro w7 hown hgrow; obtain ⟨q1, q2, HPU⟩ := (HLAT.out _ _).pushed hgrow (by rw [HQ.out, Int.mul_comm]; exact hown); have HP := Hid.mk' HPU; clear hown hgrow HPU)))
              exact ⟨⟨j + 1, by omega, by go_num, HP, (fun i hi => by
                rcases Nat.lt_or_ge i j with h | h
                · exact HLE.out i h
                · obtain rfl : i = j := by omega
                  rw [HQ.out, HPR.out, Nat.mul_comm]; exact hof)⟩, by simp [intOf]; omega⟩
            · have hbr : 1099511627776 / (m : Int) < (q.natAbs : Int) := by
                rw [quo_most]
                have := fun h => hof ((most_iff (m := q.natAbs) hm1).1 h)
                exact Int.ofNat_lt.2 (Nat.lt_of_not_le this)
              have hff : fits = false := by
                cases hx : fits
                · rfl
                · have h9 := (HFIT.out.1 hx).2 j hjk
                  rw [HQ.out, HPR.out, Nat.mul_comm] at h9
                  exact absurd h9 hof
              have ge := HE.out _ (below_chain hbW (new_below wr (.cells #[.int .i64 (p j), .int .i64 (c j)] 55)))
              obtain ⟨_, _, ⟨k4, k5⟩, f4, f5⟩ := HC.out _ (below_chain hbW (new_below wr (.cells #[.int .i64 (p j), .int .i64 (c j)] 55)))
              have HBT := Hid.mk' (below_chain HB0.out (below_chain hbW (new_below wr (.cells #[.int .i64 (p j), .int .i64 (c j)] 55))))
              clear hbW hqb HE
              go_wp2_with (go_at_call 53; refine (hsz _).mono ?_; rintro e w8 ⟨rfl, hw8⟩; rw [hw8]; clear hw8)
              go_region
              all_goals
                go_wp2_with fail
                refine bodyPost_ret (v := .tuple #[.agg #[.int .i64 0, .slice none 0 0], .iface 232 (.pointer (some (a 1)))]) (by simp [results, Tryz.results31, go_sem, k4, k5]) rfl ⟨Or.inr ⟨hff, rfl⟩, ?_⟩
                exact (HBT.out.drew.setCell (by simp; omega) _).setCell (by simp; omega) _
          · obtain rfl : j = k := by omega
            have y0 := HO.out.o0
            have y1 := HO.out.o1
            obtain ⟨_, _, ⟨k4, k5⟩, f4, f5⟩ := HC.out wr hbW
            have hq := HBQ.out.size
            have hz0 := HZ0.out
            have HZZ := Hid.mk' hz0
            have hft : fits = true := HFIT.out.2 ⟨by omega, HLE.out⟩
            clear hbW hz0
            go_wp2_with fail
            refine bodyPost_ret (v := .tuple #[.agg #[.int .i64 (D : Int), .slice (some ⟨W2.heap.size, 0, none⟩) j j], .nilIface]) (by simp [results, Tryz.results31, go_sem, k4, k5]) rfl ⟨Or.inl ⟨hft, .slice (some ⟨W2.heap.size, 0, none⟩) j j, by rw [HDD.out], ?_⟩, ?_⟩
            · have hz0 := HZZ.out
              have h1 := ownsRow_setCell_below HO.out.row (a := ⟨w.heap.size + 1 + 1, 0, none⟩) (by show w.heap.size + 1 + 1 < _; omega) (.int .i64 (D : Int))
              have h2 := ownsRow_setCell_below h1 (a := ⟨w.heap.size + 1 + 1, 1, none⟩) (by show w.heap.size + 1 + 1 < _; omega) (.slice (some ⟨W2.heap.size, 0, none⟩) j j)
              rw [HNUM.out]
              exact ownAt_of_row h2
            · exact ((below_chain HB0.out HBW.out).setCell (by simp; omega) _).setCell (by simp; omega) _
end Go.Proofs.YtiecbconcdncmabGreatDoor

/- logs.Scale at any logarithm and fraction. -/
namespace Go.Proofs.YtiecbconcdncmabGreatDoor
open Go.RowKit Go.Maps

theorem own_congr {w : World} {v : Value} {n : Nat} {p c p' c' : Nat → Int} (h : OwnAt w v n p c) (he : ∀ i, i < n → p i = p' i ∧ c i = c' i) : OwnAt w v n p' c' := by
  rcases h with h | ⟨g, cap, rfl, ht⟩
  · exact Or.inl h
  · exact Or.inr ⟨g, cap, rfl, fun i hi => by rw [← (he i hi).1, ← (he i hi).2]; exact ht i hi⟩
theorem said_zero {M : Nat} {l : List (Int × Int)} (hM : 0 < M) (h0 : ∀ e ∈ l, e.2 = 0) (a : Nat → Addr) (w : World) : SaidOf M l a w 1 (.slice none 0 0) .nilIface := by
  have hg : gList M (l.map Prod.snd) = M := by
    rw [← gList_zeros]
    have : (l.map Prod.snd).filter (fun x => !decide (x = 0)) = [] := by
      rw [List.filter_eq_nil_iff]
      intro x hx
      obtain ⟨e, he, rfl⟩ := List.mem_map.1 hx
      simp [h0 e he]
    rw [this]
    rfl
  have ho : overL M l = [] := by
    unfold overL
    rw [List.filter_eq_nil_iff]
    intro x hx
    obtain ⟨e, he, rfl⟩ := List.mem_map.1 hx
    simp [h0 e he]
  left
  rw [hg, ho, Nat.div_self hM]
  exact ⟨⟨by rw [Nat.div_self hM]; decide, fun e he => by rw [h0 e he]; simp⟩, rfl, rfl, Or.inl ⟨rfl, rfl⟩⟩
theorem pOf_at {l : List (Int × Int)} {i : Nat} {e : Int × Int} (h : l[i]? = some e) : pOf l i = e.1 ∧ cOf l i = e.2 := by
  unfold pOf cOf
  rw [List.getD_eq_getElem?_getD, h]
  exact ⟨rfl, rfl⟩

/-- scaled's answer. -/
theorem scaled_said (da d : Nat) (n : Int) (ad : Option Addr) (cap : Nat) (t : List (Int × Int)) (a : Nat → Addr) (w : World) (h : Errs w a) (hl : LogAt w (.slice ad t.length cap) t.length (pOf t) (cOf t)) (hok : OkLog da t.length (pOf t) (cOf t)) (hn0 : 0 < t.length) (hn : t.length ≤ 100) (h1 : -1073741824 ≤ n) (h2 : n ≤ 1073741824) (hnz : n ≠ 0) (hd0 : 1 ≤ d) (hd1 : d ≤ 1073741824) (hlow : Nat.gcd n.natAbs d = 1) :
    Calls Tryz.prog 31 #[.agg #[.int .i64 da, .slice ad t.length cap], .agg #[.int .i64 n, .int .i64 d]] w fun e w' => ∃ (dn : Int) (ad : Option Addr) (len cap : Nat) (er : Value), e = .returned (.tuple #[.agg #[.int .i64 dn, .slice ad len cap], er]) ∧ SaidOf (da * d) (scaleL n t) a w' dn (.slice ad len cap) er ∧ Below w.heap.size w w' := by
  have hcan := OkLog.canon (d := da) hok
  have hda : 0 < da := hcan.pos
  obtain ⟨lf, hlf⟩ : ∃ lf, lf = Nat.gcd n.natAbs da := ⟨_, rfl⟩
  obtain ⟨rt, hrt⟩ : ∃ rt, rt = gcdTo d (cOf t) t.length := ⟨_, rfl⟩
  have hrl : rt = gList d (t.map Prod.snd) := by rw [hrt, gcdTo_list _ _ _ (Nat.le_refl _), List.take_length, Int.natAbs_natCast]
  have hG : gList (da * d) ((scaleL n t).map Prod.snd) = lf * rt := by rw [scale_gcd hda hd0 hcan.one hlow, ← hlf, ← hrl]
  have hl1 : lf ∣ da := by rw [hlf]; exact Nat.gcd_dvd_right _ _
  have hl2 : lf ∣ n.natAbs := by rw [hlf]; exact Nat.gcd_dvd_left _ _
  have hr1 : rt ∣ d := by rw [hrl]; exact (gList_dvd _ _).1
  have hr2 : ∀ e ∈ t, rt ∣ e.2.natAbs := fun e he => by rw [hrl]; exact (gList_dvd _ _).2 _ (List.mem_map.2 ⟨e, he, rfl⟩)
  have hlp : 0 < lf := Nat.pos_of_dvd_of_pos hl1 hda
  have hrp : 0 < rt := Nat.pos_of_dvd_of_pos hr1 hd0
  have hden := scale_den hl1 hr1
  have hco : ∀ e ∈ t, (n * e.2).tdiv ((lf * rt : Nat) : Int) = n.tdiv (lf : Int) * e.2.tdiv (rt : Int) := fun e he => scale_coef hl2 (hr2 e he) hlp hrp
  have hcz : ∀ e ∈ t, n.tdiv (lf : Int) * e.2.tdiv (rt : Int) ≠ 0 := fun e he h0 => by
    rw [← hco e he] at h0
    have h3 : ((lf * rt : Nat) : Int) ∣ n * e.2 := by
      rw [Int.natCast_mul]
      exact Int.mul_dvd_mul (Int.ofNat_dvd_left.2 hl2) (Int.ofNat_dvd_left.2 (hr2 e he))
    have h4 := Int.mul_tdiv_cancel' h3
    rw [h0, Int.mul_zero] at h4
    rcases Int.mul_eq_zero.1 h4.symm with h5 | h5
    · exact hnz h5
    · exact hcan.nz e he h5
  have hov : overL (lf * rt) (scaleL n t) = t.map fun e => (e.1, n.tdiv (lf : Int) * e.2.tdiv (rt : Int)) := by
    unfold overL scaleL
    rw [List.map_map]
    have e1 : t.map ((fun e : Int × Int => (e.1, e.2.tdiv ((lf * rt : Nat) : Int))) ∘ fun e => (e.1, n * e.2)) = t.map fun e => (e.1, n.tdiv (lf : Int) * e.2.tdiv (rt : Int)) := List.map_congr_left fun e he => by
      show (e.1, (n * e.2).tdiv ((lf * rt : Nat) : Int)) = _
      rw [hco e he]
    rw [e1]
    refine List.filter_eq_self.2 fun x hx => ?_
    obtain ⟨e, he, rfl⟩ := List.mem_map.1 hx
    simpa using hcz e he
  have hfi : FitsL (da * d) (lf * rt) (scaleL n t) ↔ (da / lf * (d / rt) ≤ 1000000 ∧ ∀ i, i < t.length → (n.tdiv (lf : Int) * (cOf t i).tdiv (rt : Int)).natAbs ≤ 1099511627776) := by
    unfold FitsL
    rw [hden]
    constructor
    · rintro ⟨f1, f2⟩
      refine ⟨f1, fun i hi => ?_⟩
      have hm := List.getElem_mem hi
      have h3 := f2 (t[i].1, n * t[i].2) (List.mem_map.2 ⟨_, hm, rfl⟩)
      rw [hco _ hm] at h3
      rw [(pOf_at (List.getElem?_eq_getElem hi)).2]
      exact h3
    · rintro ⟨f1, f2⟩
      refine ⟨f1, fun x hx => ?_⟩
      obtain ⟨e, he, rfl⟩ := List.mem_map.1 hx
      obtain ⟨i, hi, rfl⟩ := List.getElem_of_mem he
      have h3 := f2 i hi
      rw [(pOf_at (List.getElem?_eq_getElem hi)).2] at h3
      show ((n * t[i].2).tdiv ((lf * rt : Nat) : Int)).natAbs ≤ _
      rw [hco _ he]
      exact h3
  obtain ⟨fits, hfits⟩ := bool_of (FitsL (da * d) (lf * rt) (scaleL n t))
  refine (scaled_any da d n ad t.length cap (pOf t) (cOf t) a w h hl hok hn0 hn h1 h2 hnz hd0 hd1 lf rt hlf hrt fits (hfits.trans hfi)).mono ?_
  rintro e w' ⟨hx, hb⟩
  rcases hx with ⟨hft, v, rfl, hv⟩ | ⟨hff, rfl⟩
  · obtain ⟨ad', m', cap', rfl⟩ := own_form hv
    refine ⟨_, ad', m', cap', .nilIface, rfl, Or.inl ?_, hb⟩
    rw [hG, hov, hden]
    refine ⟨hfits.1 hft, rfl, rfl, ?_⟩
    unfold ListAt
    rw [List.length_map]
    refine own_congr hv fun i hi => ?_
    have h3 := pOf_at (List.getElem?_eq_getElem hi)
    have h4 : (t.map fun e => (e.1, n.tdiv (lf : Int) * e.2.tdiv (rt : Int)))[i]? = some (t[i].1, n.tdiv (lf : Int) * t[i].2.tdiv (rt : Int)) := by rw [List.getElem?_map, List.getElem?_eq_getElem hi]; rfl
    have h5 := pOf_at h4
    rw [h3.1, h3.2, h5.1, h5.2]
    exact ⟨rfl, rfl⟩
  · refine ⟨0, none, 0, 0, _, rfl, Or.inr ?_, hb⟩
    rw [hG]
    refine ⟨fun hf => ?_, rfl, rfl, rfl⟩
    have := hfits.2 hf
    rw [hff] at this
    cases this
end Go.Proofs.YtiecbconcdncmabGreatDoor

/- The law's one, the document's OfFrac. -/
namespace Go.Proofs.YtiecbconcdncmabGreatDoor
open Go.RowKit

set_option maxRecDepth 10000 in
set_option maxHeartbeats 1000000 in
theorem one_one (w : World) : Calls Tryz.prog 10 #[.int .i64 1] w fun e w' => ∃ r, e = .returned r ∧ RatioAt w' r 1 1 ∧ Below w.heap.size w w' := by
  have hB0 : Below w.heap.size w (w.alloc (.cells #[.bool false, .slice none 0 0, .slice none 0 0] 35)) := new_below _ _
  have hN := noInts_new3 w false none 0 0 none 0 0 35
  have hro : Calls Tryz.prog 24 #[.int .i64 1, .int .i64 1] (w.alloc (.cells #[.bool false, .slice none 0 0, .slice none 0 0] 35)) fun e w' => ∃ r, e = .returned r ∧ RatioAt w' r 1 1 ∧ Below (w.alloc (.cells #[.bool false, .slice none 0 0, .slice none 0 0] 35)).heap.size (w.alloc (.cells #[.bool false, .slice none 0 0, .slice none 0 0] 35)) w' := RatioOf_any 1 1 _ (by decide) (by decide) (by decide) (by decide)
  have HB0 := Hid.mk' hB0
  have HN := Hid.mk' hN
  clear hB0 hN
  go_enter Tryz.func10, Tryz.ntmps10
  go_wp2_with fail
  refine hro.mono ?_
  clear hro
  rintro e w1 ⟨r, rfl, ⟨u, q, rfl, hu, hq⟩, hb1⟩
  obtain ⟨ad8, l8, cap8, rfl, _⟩ := hu.len
  obtain ⟨ad9, l9, cap9, rfl, _⟩ := hq.len
  have nb := newBox3_of (W0 := w) (Below.refl _ _) hb1
  have c0 := nb.c0
  have c1 := nb.c1
  have c2 := nb.c2
  have f0 := nb.f0
  have f1 := nb.f1
  have f2 := nb.f2
  have HNB := Hid.mk' nb
  have HU := Hid.mk' hu
  have HQ := Hid.mk' hq
  have HB1 := Hid.mk' (below_chain HB0.out hb1)
  clear hu hq hb1 nb
  go_wp2_with fail
  refine bodyPost_ret (v := .agg #[.bool (decide ((1 : Int) < 0)), .slice ad8 l8 cap8, .slice ad9 l9 cap9]) (by simp [results, Tryz.results10, go_sem, c0, c1, c2]) rfl ⟨_, rfl, ⟨_, _, rfl, HU.out.set3 HNB.out.no c0 c1, HQ.out.set3 HNB.out.no c0 c1⟩, below_set3 HB1.out (Nat.le_refl _) _ _ _⟩

set_option maxRecDepth 10000 in
set_option maxHeartbeats 1000000 in
theorem OfFrac_any (n : Int) (d : Nat) (w : World) (h0 : -4611686018427387904 ≤ n) (h1 : n ≤ 4611686018427387904) (hd : 0 < d) (hd1 : d ≤ 4611686018427387904) : Calls Tryz.prog 14 #[.agg #[.int .i64 n, .int .i64 d]] w fun e w' => ∃ r, e = .returned r ∧ RatioAt w' r (n.tdiv ((Nat.gcd n.natAbs d : Nat) : Int)) (d / Nat.gcd n.natAbs d) ∧ Below w.heap.size w w' := by
  have hB0 : Below w.heap.size w ((w.alloc (.cells #[.int .i64 n, .int .i64 d] 45)).alloc (.cells #[.bool false, .slice none 0 0, .slice none 0 0] 35)) := more_below (new_below _ _) _
  have hro := RatioOf_any n d ((w.alloc (.cells #[.int .i64 n, .int .i64 d] 45)).alloc (.cells #[.bool false, .slice none 0 0, .slice none 0 0] 35)) h0 h1 hd hd1
  have HB0 := Hid.mk' hB0
  clear hB0
  generalize n.tdiv ((Nat.gcd n.natAbs d : Nat) : Int) = x at hro ⊢
  generalize d / Nat.gcd n.natAbs d = y at hro ⊢
  go_enter Tryz.func14, Tryz.ntmps14
  go_wp2_with fail
  refine hro.mono ?_
  clear hro
  rintro e w1 ⟨r, rfl, ⟨u, q, rfl, hu, hq⟩, hb1⟩
  obtain ⟨ad8, l8, cap8, rfl, _⟩ := hu.len
  obtain ⟨ad9, l9, cap9, rfl, _⟩ := hq.len
  have nb := newBox3_of (W0 := w) (new_below w (.cells #[.int .i64 n, .int .i64 d] 45)) hb1
  simp only [World.size_alloc] at nb
  have c0 := nb.c0
  have c1 := nb.c1
  have c2 := nb.c2
  have f0 := nb.f0
  have f1 := nb.f1
  have f2 := nb.f2
  have HNB := Hid.mk' nb
  have HU := Hid.mk' hu
  have HQ := Hid.mk' hq
  have HB1 := Hid.mk' (below_chain HB0.out hb1)
  obtain ⟨sg, hsg⟩ : ∃ sg, decide (x < 0) = sg := ⟨_, rfl⟩
  have HSG := Hid.mk' hsg
  rw [hsg]
  clear hu hq hb1 nb hsg
  go_wp2_with fail
  refine bodyPost_ret (v := .agg #[.bool sg, .slice ad8 l8 cap8, .slice ad9 l9 cap9]) (by simp [results, Tryz.results14, go_sem, c0, c1, c2]) rfl ⟨_, rfl, ⟨_, _, by rw [HSG.out], HU.out.set3 HNB.out.no c0 c1, HQ.out.set3 HNB.out.no c0 c1⟩, below_set3 HB1.out (by omega) _ _ _⟩
end Go.Proofs.YtiecbconcdncmabGreatDoor

/- The law LogsAdds. -/
namespace Go.Proofs.YtiecbconcdncmabGreatDoor
open Go.RowKit

theorem lcm_two {da db g : Nat} (hg : g = Int.gcd (da : Int) (db : Int)) (hda : 0 < da) : da / g * db = da * 1 * (db / g) ∧ da / g * db = db * 1 * (da / g) ∧ 0 < g := by
  have h1 : g = Nat.gcd da db := by rw [hg]; simp [Int.gcd]
  have hp : 0 < g := by rw [h1]; exact Nat.gcd_pos_of_pos_left _ hda
  obtain ⟨a, ha⟩ : g ∣ da := by rw [h1]; exact Nat.gcd_dvd_left _ _
  obtain ⟨b, hb⟩ : g ∣ db := by rw [h1]; exact Nat.gcd_dvd_right _ _
  clear hg h1
  have e1 : da / g = a := by rw [ha]; exact Nat.mul_div_cancel_left _ hp
  have e2 : db / g = b := by rw [hb]; exact Nat.mul_div_cancel_left _ hp
  rw [e1, e2]
  refine ⟨?_, ?_, hp⟩
  · rw [ha, hb]; grind
  · rw [hb]; grind

/-- Add's answer of two in form. -/
theorem Add_said (da db : Nat) (ad1 ad2 : Option Addr) (cap1 cap2 : Nat) (t1 t2 : List (Int × Int)) (a : Nat → Addr) (w : World) (h : Errs w a) (hl1 : LogAt w (.slice ad1 t1.length cap1) t1.length (pOf t1) (cOf t1)) (hl2 : LogAt w (.slice ad2 t2.length cap2) t2.length (pOf t2) (cOf t2))
    (hok1 : OkLog da t1.length (pOf t1) (cOf t1)) (hok2 : OkLog db t2.length (pOf t2) (cOf t2)) (hn : t1.length + t2.length ≤ 100) (g : Nat) (hg : g = Int.gcd (da : Int) (db : Int)) :
    Calls Tryz.prog 11 #[.agg #[.int .i64 da, .slice ad1 t1.length cap1], .agg #[.int .i64 db, .slice ad2 t2.length cap2]] w fun e w' => ∃ (l : List (Int × Int)) (dn : Int) (ad : Option Addr) (len cap : Nat) (er : Value), e = .returned (.tuple #[.agg #[.int .i64 dn, .slice ad len cap], er]) ∧ Rising l ∧ (∀ x, atL l x = atL t1 x * ((db / g : Nat) : Int) + atL t2 x * ((da / g : Nat) : Int)) ∧ l.length ≤ t1.length + t2.length ∧ SaidOf (da / g * db) l a w' dn (.slice ad len cap) er ∧ Below w.heap.size w w' := by
  refine (Add_any da db ad1 ad2 cap1 cap2 t1 t2 a w h hl1 hl2 hok1 hok2 hn g hg).mono ?_
  rintro e w' ⟨⟨l, G, hr, hv, hG, hln, hx⟩, hb⟩
  rw [gcdL_list hr] at hG
  have hf : Fits ((da / g * db : Nat) : Int) G l ↔ FitsL (da / g * db) G l := by
    unfold Fits FitsL
    have : (((da / g * db : Nat) : Int) / (G : Int) ≤ 1000000) ↔ da / g * db / G ≤ 1000000 := by
      generalize da / g * db = D
      rw [show (D : Int) / (G : Int) = ((D / G : Nat) : Int) by simp]
      omega
    rw [this]
  rcases hx with ⟨hfit, v, rfl, hl⟩ | ⟨hfit, rfl⟩
  · obtain ⟨ad, m, cap, rfl⟩ := own_form hl
    refine ⟨l, _, ad, m, cap, .nilIface, rfl, hr, hv, hln, Or.inl ?_, hb⟩
    rw [hG]
    exact ⟨hf.1 hfit, by simp, rfl, hl⟩
  · refine ⟨l, 0, none, 0, 0, _, rfl, hr, hv, hln, Or.inr ?_, hb⟩
    rw [hG]
    exact ⟨fun h => hfit (hf.2 h), rfl, rfl, rfl⟩

/-- The document's sum of two in form. -/
theorem LogSum_two (da db g : Nat) (xv yv : Value) (ad1 ad2 : Option Addr) (cap1 cap2 : Nat) (t1 t2 : List (Int × Int)) (w : World) (hl1 : LogAt w (.slice ad1 t1.length cap1) t1.length (pOf t1) (cOf t1)) (hl2 : LogAt w (.slice ad2 t2.length cap2) t2.length (pOf t2) (cOf t2)) (hx : RatioAt w xv 1 1) (hy : RatioAt w yv 1 1)
    (hok1 : OkLog da t1.length (pOf t1) (cOf t1)) (hok2 : OkLog db t2.length (pOf t2) (cOf t2)) (hn1 : t1.length ≤ 30) (hn2 : t2.length ≤ 30) (hg : g = Int.gcd (da : Int) (db : Int)) :
    Calls Tryz.prog 9 #[.agg #[.int .i64 da, .slice ad1 t1.length cap1], xv, .agg #[.int .i64 db, .slice ad2 t2.length cap2], yv] w fun e w' => ∃ (l : List (Int × Int)) (dn : Int) (ad : Option Addr) (len cap : Nat) (code : Int), e = .returned (.tuple #[.agg #[.int .i64 dn, .slice ad len cap], .int .i64 code]) ∧ Rising l ∧ (∀ x, atL l x = atL t1 x * ((db / g : Nat) : Int) + atL t2 x * ((da / g : Nat) : Int)) ∧ ToldOf (da / g * db) l w' dn (.slice ad len cap) code ∧ Below w.heap.size w w' := by
  have hda := hok1.1
  have hda6 := hok1.2.1
  have hdb := hok2.1
  have hdb6 := hok2.2.1
  obtain ⟨e1, e2, hgp⟩ := lcm_two hg (by omega)
  have q1 : db / g ≤ 1000000 := Nat.le_trans (Nat.div_le_self _ _) (by omega)
  have q2 : da / g ≤ 1000000 := Nat.le_trans (Nat.div_le_self _ _) (by omega)
  have hM0 : 0 < da / g * db := by
    refine Nat.mul_pos (Nat.div_pos (Nat.le_of_dvd (by omega) ?_) hgp) (by omega)
    rw [hg, show Int.gcd (da : Int) (db : Int) = Nat.gcd da db by simp [Int.gcd]]
    exact Nat.gcd_dvd_left _ _
  have hMb : da / g * db ≤ 1000000 * 1000000 := Nat.mul_le_mul q2 (by omega)
  have p4 : (1000000 : Nat) ^ 4 = 1000000000000000000000000 := by decide
  have pc1 := okLog_pc hok1
  have pc2 := okLog_pc hok2
  have f1 : ((1 : Int) * ((db / g : Nat) : Int)).natAbs ≤ 1000000 := by rw [Int.one_mul, Int.natAbs_natCast]; exact q1
  have f2 : ((1 : Int) * ((da / g : Nat) : Int)).natAbs ≤ 1000000 := by rw [Int.one_mul, Int.natAbs_natCast]; exact q2
  have s1 : ∀ x k, k ≤ t1.length → ((1 : Int) * ((db / g : Nat) : Int) * sumAt (pOf t1) (cOf t1) x k).natAbs ≤ 1000000 * (30 * 1099511627776) := fun x k hk => mul_bound f1 (Nat.le_trans (sumAt_le pc1 x k hk) (Nat.mul_le_mul_right _ (by omega)))
  have s2 : ∀ x k, k ≤ t2.length → ((1 : Int) * ((da / g : Nat) : Int) * sumAt (pOf t2) (cOf t2) x k).natAbs ≤ 1000000 * (30 * 1099511627776) := fun x k hk => mul_bound f2 (Nat.le_trans (sumAt_le pc2 x k hk) (Nat.mul_le_mul_right _ (by omega)))
  refine (LogSum_any (da / g * db) da db 1 1 (db / g) (da / g) 1 1 xv yv ad1 ad2 t1.length t2.length cap1 cap2 (pOf t1) (cOf t1) (pOf t2) (cOf t2) 4 w hl1 hl2 hx hy e1 e2 hM0 hn1 hn2 pc1 pc2 (by omega) (by omega) (by rw [p4]; decide) (by rw [p4]; decide)
    (fun i hi => by rw [p4]; exact Nat.lt_of_le_of_lt (mul_bound f1 (b := 1099511627776) (by have := pc1 i hi; omega)) (by decide)) (fun i hi => by rw [p4]; exact Nat.lt_of_le_of_lt (mul_bound f2 (b := 1099511627776) (by have := pc2 i hi; omega)) (by decide))
    (fun x k hk => by rw [p4]; exact Nat.lt_of_le_of_lt (s1 x k hk) (by decide)) (fun x k hk => by rw [p4]; exact Nat.lt_of_le_of_lt (Nat.le_trans (Int.natAbs_add_le _ _) (Nat.add_le_add (s1 x t1.length (Nat.le_refl _)) (s2 x k hk))) (by decide)) (by rw [p4]; omega) (by decide) (by decide)).mono ?_
  rintro e w' ⟨l, dn, ad, len, cap, code, rfl, hr, hv, _, ht, hb⟩
  have r1 : Rising t1 := (show OkLog (da : Int) t1.length (pOf t1) (cOf t1) from hok1).rising
  have r2 : Rising t2 := (show OkLog (db : Int) t2.length (pOf t2) (cOf t2) from hok2).rising
  refine ⟨l, dn, ad, len, cap, code, rfl, hr, fun x => ?_, ht, hb⟩
  rw [hv, sumAt_all r1, sumAt_all r2, Int.one_mul, Int.one_mul, Int.mul_comm, Int.mul_comm ((da / g : Nat) : Int)]
end Go.Proofs.YtiecbconcdncmabGreatDoor

/- The law LogsAdds, walked. -/
namespace Go.Proofs.YtiecbconcdncmabGreatDoor
open Go.RowKit

theorem own_set {w : World} {v : Value} {n : Nat} {p c : Nat → Int} {B : Nat} {ad : Option Addr} {l cap : Nat} {x y : Value} (h : OwnAt w v n p c) (hx : w.cell? ⟨B, 1, none⟩ = some (.slice ad l cap)) : OwnAt ((w.setCell ⟨B, 0, none⟩ x).setCell ⟨B, 1, none⟩ y) v n p c := by
  rcases h with h | ⟨g, cap', rfl, ht⟩
  · exact Or.inl h
  · refine Or.inr ⟨g, cap', rfl, fun i hi => ?_⟩
    have hne : B ≠ g := fun e => by
      have h1 := (ht 0 (by omega)).2
      rw [← e] at h1
      simp only [Nat.zero_mul, Nat.zero_add] at h1
      rw [hx] at h1
      cases h1
    constructor
    · rw [World.cell?_setCell_far _ _ _ _ hne, World.cell?_setCell_far _ _ _ _ hne]; exact (ht i hi).1
    · rw [World.cell?_setCell_far _ _ _ _ hne, World.cell?_setCell_far _ _ _ _ hne]; exact (ht i hi).2
theorem SaidOf.set {M : Nat} {l : List (Int × Int)} {a : Nat → Addr} {w : World} {dn : Int} {v er : Value} {B : Nat} {ad : Option Addr} {n cap : Nat} {x y : Value} (ht : SaidOf M l a w dn v er) (hx : w.cell? ⟨B, 1, none⟩ = some (.slice ad n cap)) : SaidOf M l a ((w.setCell ⟨B, 0, none⟩ x).setCell ⟨B, 1, none⟩ y) dn v er := by
  rcases ht with ⟨h1, h2, h3, h4⟩ | h
  · exact Or.inl ⟨h1, h2, h3, own_set h4 hx⟩
  · exact Or.inr h
theorem ToldOf.set {M : Nat} {l : List (Int × Int)} {w : World} {dn code : Int} {v : Value} {B : Nat} {ad : Option Addr} {n cap : Nat} {x y : Value} (ht : ToldOf M l w dn v code) (hx : w.cell? ⟨B, 1, none⟩ = some (.slice ad n cap)) : ToldOf M l ((w.setCell ⟨B, 0, none⟩ x).setCell ⟨B, 1, none⟩ y) dn v code := by
  rcases ht with ⟨h1, h2, h3, h4⟩ | h
  · exact Or.inl ⟨h1, h2, h3, own_set h4 hx⟩
  · exact Or.inr h
/-- A logarithm's box, ahead of its store. -/
structure NewBoxL (W0 W : World) (B : Nat) : Prop where
  c0 : W.cell? ⟨B, 0, none⟩ = some (.int .i64 0)
  c1 : W.cell? ⟨B, 1, none⟩ = some (.slice none 0 0)
  f0 : W.frozen? ⟨B, 0, none⟩ = false
  f1 : W.frozen? ⟨B, 1, none⟩ = false
  hB : W0.heap.size ≤ B
theorem NewBoxL.later {W0 W W' : World} {B : Nat} (h : NewBoxL W0 W B) (hb : Below W.heap.size W W') : NewBoxL W0 W' B :=
  ⟨(cell_past h.c0 hb).2, (cell_past h.c1 hb).2, (frozen_past h.c0 h.f0 hb).2, (frozen_past h.c1 h.f1 hb).2, h.hB⟩
theorem newBoxL_of {W0 W W' : World} (h : Below W0.heap.size W0 W) (hb : Below (W.alloc (.cells #[.int .i64 0, .slice none 0 0] 24)).heap.size (W.alloc (.cells #[.int .i64 0, .slice none 0 0] 24)) W') : NewBoxL W0 W' W.heap.size := by
  obtain ⟨c0, c1, f0, f1⟩ := res_past hb
  exact ⟨c0, c1, f0, f1, h.size⟩
/-- The program's answer in its box. -/
structure SaidBox (W0 W : World) (B : Nat) (M : Nat) (l : List (Int × Int)) (a : Nat → Addr) (er : Value) : Prop where
  below : Below W0.heap.size W0 W
  box : ∃ dn ad n cap, W.cell? ⟨B, 0, none⟩ = some (.int .i64 dn) ∧ W.cell? ⟨B, 1, none⟩ = some (.slice ad n cap) ∧ SaidOf M l a W dn (.slice ad n cap) er
theorem saidBox_late {W0 W : World} {M : Nat} {l : List (Int × Int)} {a : Nat → Addr} {er : Value} {dn : Int} {ad : Option Addr} {n cap : Nat} (h : Below W0.heap.size W0 W) (hs : SaidOf M l a W dn (.slice ad n cap) er) : SaidBox W0 (W.alloc (.cells #[.int .i64 dn, .slice ad n cap] 24)) W.heap.size M l a er :=
  ⟨more_below h _, dn, ad, n, cap, by rw [World.cell?_alloc_at _ _ _ _ rfl]; rfl, by rw [World.cell?_alloc_at _ _ _ _ rfl]; rfl, hs.later (new_below _ _)⟩
theorem saidBox_soon {W0 W : World} {B M : Nat} {l : List (Int × Int)} {a : Nat → Addr} {er : Value} {dn : Int} {ad : Option Addr} {n cap : Nat} (h : Below W0.heap.size W0 W) (hs : SaidOf M l a W dn (.slice ad n cap) er) (hn : NewBoxL W0 W B) : SaidBox W0 ((W.setCell ⟨B, 0, none⟩ (.int .i64 dn)).setCell ⟨B, 1, none⟩ (.slice ad n cap)) B M l a er :=
  ⟨setB_below h hn.hB _ _, dn, ad, n, cap, by rw [World.cell?_setCell_other _ _ _ _ (by simp)]; exact World.cell?_setCell_same _ _ _ hn.c0, World.cell?_setCell_same _ _ _ (by rw [World.cell?_setCell_other _ _ _ _ (by simp)]; exact hn.c1), hs.set hn.c1⟩
/-- The document's answer in its box. -/
structure ToldBox (W0 W : World) (B : Nat) (M : Nat) (l : List (Int × Int)) (code : Int) : Prop where
  below : Below W0.heap.size W0 W
  box : ∃ dn ad n cap, W.cell? ⟨B, 0, none⟩ = some (.int .i64 dn) ∧ W.cell? ⟨B, 1, none⟩ = some (.slice ad n cap) ∧ ToldOf M l W dn (.slice ad n cap) code
theorem toldBox_soon {W0 W : World} {B M : Nat} {l : List (Int × Int)} {code dn : Int} {ad : Option Addr} {n cap : Nat} (h : Below W0.heap.size W0 W) (hs : ToldOf M l W dn (.slice ad n cap) code) (hn : NewBoxL W0 W B) : ToldBox W0 ((W.setCell ⟨B, 0, none⟩ (.int .i64 dn)).setCell ⟨B, 1, none⟩ (.slice ad n cap)) B M l code :=
  ⟨setB_below h hn.hB _ _, dn, ad, n, cap, by rw [World.cell?_setCell_other _ _ _ _ (by simp)]; exact World.cell?_setCell_same _ _ _ hn.c0, World.cell?_setCell_same _ _ _ (by rw [World.cell?_setCell_other _ _ _ _ (by simp)]; exact hn.c1), hs.set hn.c1⟩

theorem own_logAt {w : World} {v : Value} {n : Nat} {p c : Nat → Int} (h : (v = .slice none 0 0 ∧ n = 0) ∨ ∃ g cap, v = .slice (some ⟨g, 0, none⟩) n cap ∧ TermsAt w g 0 n p c) : ∃ ad cap, v = .slice ad n cap ∧ LogAt w v n p c := by
  rcases h with ⟨rfl, rfl⟩ | ⟨g, cap, rfl, ht⟩
  · exact ⟨none, 0, rfl, Or.inl ⟨none, 0, rfl, rfl⟩⟩
  · rcases Nat.eq_zero_or_pos n with rfl | hn
    · exact ⟨_, cap, rfl, Or.inl ⟨_, cap, rfl, rfl⟩⟩
    · exact ⟨_, cap, rfl, Or.inr ⟨g, 0, cap, rfl, hn, ht⟩⟩
/-- What the law's boxes hold. -/
structure TwoLogs (w : World) (a : Nat → Addr) (da db : Int) (s1 s2 : Value) (n1 n2 : Nat) (p1 c1 p2 c2 : Nat → Int) (W : World) : Prop where
  errs : Errs W a
  log1 : LogAt W s1 n1 p1 c1
  log2 : LogAt W s2 n2 p2 c2
  x0 : W.cell? ⟨w.heap.size, 0, none⟩ = some (.int .i64 da)
  x1 : W.cell? ⟨w.heap.size, 1, none⟩ = some s1
  y0 : W.cell? ⟨w.heap.size + 1, 0, none⟩ = some (.int .i64 db)
  y1 : W.cell? ⟨w.heap.size + 1, 1, none⟩ = some s2
  below : Below w.heap.size w W
theorem twoLogs {w W : World} {a : Nat → Addr} {da db : Int} {ad1 ad2 : Option Addr} {m1 m2 cap1 cap2 n1 n2 : Nat} {p1 c1 p2 c2 : Nat → Int} (h : Errs w a) (hl1 : LogAt w (.slice ad1 m1 cap1) n1 p1 c1) (hl2 : LogAt w (.slice ad2 m2 cap2) n2 p2 c2)
    (hb : Below ((w.alloc (.cells #[.int .i64 da, .slice ad1 m1 cap1] 24)).alloc (.cells #[.int .i64 db, .slice ad2 m2 cap2] 24)).heap.size ((w.alloc (.cells #[.int .i64 da, .slice ad1 m1 cap1] 24)).alloc (.cells #[.int .i64 db, .slice ad2 m2 cap2] 24)) W) : TwoLogs w a da db (.slice ad1 m1 cap1) (.slice ad2 m2 cap2) n1 n2 p1 c1 p2 c2 W := by
  have h0 := below_chain (more_below (new_below w (.cells #[.int .i64 da, .slice ad1 m1 cap1] 24)) (.cells #[.int .i64 db, .slice ad2 m2 cap2] 24)) hb
  obtain ⟨q0, q1, _, _⟩ := res_past (below_chain (new_below (w.alloc (.cells #[.int .i64 da, .slice ad1 m1 cap1] 24)) (.cells #[.int .i64 db, .slice ad2 m2 cap2] 24)) hb)
  obtain ⟨q2, q3, _, _⟩ := res_past hb
  simp only [World.size_alloc] at q2 q3
  exact ⟨h.below h0, hl1.later h0, hl2.later h0, q0, q1, q2, q3, h0⟩

set_option maxRecDepth 100000 in
set_option maxHeartbeats 4000000 in
theorem LogsAdds_ok (da db : Nat) (ad1 ad2 : Option Addr) (cap1 cap2 : Nat) (t1 t2 : List (Int × Int)) (a : Nat → Addr) (w : World) (h : Errs w a) (hl1 : LogAt w (.slice ad1 t1.length cap1) t1.length (pOf t1) (cOf t1)) (hl2 : LogAt w (.slice ad2 t2.length cap2) t2.length (pOf t2) (cOf t2))
    (hok1 : OkLog da t1.length (pOf t1) (cOf t1)) (hok2 : OkLog db t2.length (pOf t2) (cOf t2)) (hn1 : t1.length ≤ 30) (hn2 : t2.length ≤ 30) :
    Calls Tryz.prog 3 #[.agg #[.int .i64 da, .slice ad1 t1.length cap1], .agg #[.int .i64 db, .slice ad2 t2.length cap2]] w fun e w' => e = .returned (.bool true) ∧ Below w.heap.size w w' := by
  obtain ⟨g, hg⟩ : ∃ g, g = Int.gcd (da : Int) (db : Int) := ⟨_, rfl⟩
  obtain ⟨n1, hn1e⟩ : ∃ n1, n1 = t1.length := ⟨_, rfl⟩
  obtain ⟨n2, hn2e⟩ : ∃ n2, n2 = t2.length := ⟨_, rfl⟩
  have HK := Hid.mk' (fun (W : World) => twoLogs (W := W) (da := (da : Int)) (db := (db : Int)) h hl1 hl2)
  have HSUM : Hid (∀ (W : World) (xv yv : Value), LogAt W (.slice ad1 t1.length cap1) t1.length (pOf t1) (cOf t1) → LogAt W (.slice ad2 t2.length cap2) t2.length (pOf t2) (cOf t2) → RatioAt W xv 1 1 → RatioAt W yv 1 1 → _) := fun W xv yv h1 h2 h3 h4 => LogSum_two da db g xv yv ad1 ad2 cap1 cap2 t1 t2 W h1 h2 h3 h4 hok1 hok2 hn1 hn2 hg
  have HADD : Hid (∀ (W : World) (ad1 ad2 : Option Addr) (cap1 cap2 : Nat), Errs W a → LogAt W (.slice ad1 t1.length cap1) t1.length (pOf t1) (cOf t1) → LogAt W (.slice ad2 t2.length cap2) t2.length (pOf t2) (cOf t2) → _) := fun W ad1 ad2 cap1 cap2 h1 h2 h3 => Add_said da db ad1 ad2 cap1 cap2 t1 t2 a W h1 h2 h3 hok1 hok2 (by omega) g hg
  have HOK := Hid.mk' (And.intro hok1 hok2)
  have HG := Hid.mk' hg
  have hE := eighth_any ((w.alloc (.cells #[.int .i64 da, .slice ad1 t1.length cap1] 24)).alloc (.cells #[.int .i64 db, .slice ad2 t2.length cap2] 24))
  obtain ⟨W0, hW0⟩ : ∃ W0, W0 = (w.alloc (.cells #[.int .i64 da, .slice ad1 t1.length cap1] 24)).alloc (.cells #[.int .i64 db, .slice ad2 t2.length cap2] 24) := ⟨_, rfl⟩
  rw [← hW0] at hE HK
  have HW0 := Hid.mk' hW0
  clear h hl1 hl2 hok1 hok2 hg hW0
  rw [← hn1e, ← hn2e] at HK HSUM HADD HOK HW0 ⊢
  rw [← hn1e] at hn1
  rw [← hn2e] at hn2
  have HN := Hid.mk' (And.intro hn1e hn2e)
  clear hn1e hn2e
  go_enter Tryz.func3, Tryz.ntmps3
  go_wp2_with fail
  rw [← HW0.out]
  refine hE.mono ?_
  clear hE
  rintro e w1 ⟨rfl, hb1⟩
  have k1 := HK.out w1 hb1
  have x0 := k1.x0
  have x1 := k1.x1
  have hsh := short_any da ad1 n1 cap1 true (by simpa using hn1) (by unfold maxLen; omega) w1
  have HB1 := Hid.mk' hb1
  clear hb1 k1
  go_wp2_with fail
  refine hsh.mono ?_
  clear hsh x0 x1
  rintro e w2 ⟨rfl, hb2⟩
  have HB2 := Hid.mk' (below_chain HB1.out hb2)
  have k2 := HK.out w2 HB2.out
  have y0 := k2.y0
  have y1 := k2.y1
  have hsh := short_any db ad2 n2 cap2 true (by simpa using hn2) (by unfold maxLen; omega) w2
  clear hb2 k2
  go_wp2_with fail
  refine hsh.mono ?_
  clear hsh y0 y1
  rintro e w3 ⟨rfl, hb3⟩
  have HB3 := Hid.mk' (below_chain HB2.out hb3)
  have k3 := HK.out w3 HB3.out
  have x0 := k3.x0
  have x1 := k3.x1
  have hle := LogError_at da (.slice ad1 n1 cap1) n1 true _ _ ⟨fun _ => HOK.out.1, fun _ => rfl⟩ w3 k3.log1 hn1
  simp only [shapeCode] at hle
  clear hb3 k3
  go_wp2_with fail
  refine hle.mono ?_
  clear hle x0 x1
  rintro e w4 ⟨rfl, hb4⟩
  have HB4 := Hid.mk' (below_chain HB3.out hb4)
  have k4 := HK.out w4 HB4.out
  have y0 := k4.y0
  have y1 := k4.y1
  have hle := LogError_at db (.slice ad2 n2 cap2) n2 true _ _ ⟨fun _ => HOK.out.2, fun _ => rfl⟩ w4 k4.log2 hn2
  simp only [shapeCode] at hle
  clear hb4 k4
  go_wp2_with fail
  refine hle.mono ?_
  clear hle y0 y1
  rintro e w5 ⟨rfl, hb5⟩
  have HB5 := Hid.mk' (below_chain HB4.out hb5)
  clear hb5 HB1 HB2 HB3 HB4
  go_upto_region 10 with fail
  have HNB0 : Hid (∀ W, Below (w5.alloc (.cells #[.int .i64 0, .slice none 0 0] 24)).heap.size (w5.alloc (.cells #[.int .i64 0, .slice none 0 0] 24)) W → NewBoxL W0 W w5.heap.size) := fun W hb => newBoxL_of HB5.out hb
  have HB6 : Hid (Below W0.heap.size W0 (w5.alloc (.cells #[.int .i64 0, .slice none 0 0] 24))) := more_below HB5.out _
  obtain ⟨W6, hW6⟩ : ∃ W6, W6 = w5.alloc (.cells #[.int .i64 0, .slice none 0 0] 24) := ⟨_, rfl⟩
  rw [← hW6] at HNB0 HB6 ⊢
  clear hW6
  have hcur0 : Below W6.heap.size W6 W6 := Below.refl _ _
  have hcur : Below W6.heap.size W6 W6.drew := (Below.refl _ _).drew
  have HKS : Hid (∀ W, Below W0.heap.size W0 W → (W.cell? ⟨w.heap.size, 0, none⟩ = some (.int .i64 da) ∧ W.cell? ⟨w.heap.size, 1, none⟩ = some (.slice ad1 n1 cap1)) ∧ (W.cell? ⟨w.heap.size + 1, 0, none⟩ = some (.int .i64 db) ∧ W.cell? ⟨w.heap.size + 1, 1, none⟩ = some (.slice ad2 n2 cap2))) := fun W hb => by
    have k := HK.out W hb
    exact ⟨⟨k.x0, k.x1⟩, k.y0, k.y1⟩
  go_cut [7] from 34 (fun s wx => ∃ (l : List (Int × Int)) (code : Int), s = .int .i64 code ∧ Hid (Rising l ∧ ∀ x, atL l x = atL t1 x * ((db / g : Nat) : Int) + atL t2 x * ((da / g : Nat) : Int)) ∧ Hid (ToldBox W0 wx w5.heap.size (da / g * db) l code))
  case first =>
    go_region_held3 (fun W => (W.cell? ⟨w.heap.size, 0, none⟩ = some (.int .i64 da) ∧ W.cell? ⟨w.heap.size, 1, none⟩ = some (.slice ad1 n1 cap1)) ∧ (W.cell? ⟨w.heap.size + 1, 0, none⟩ = some (.int .i64 db) ∧ W.cell? ⟨w.heap.size + 1, 1, none⟩ = some (.slice ad2 n2 cap2)))
      (first | exact HKS.out _ (below_chain HB6.out hcur0) | exact HKS.out _ (below_chain HB6.out hcur) | exact HKS.out _ (below_chain HB6.out hbw7) | exact HKS.out _ (below_chain HB6.out hbw8) | exact HKS.out _ (below_chain HB6.out hbw9) | exact HKS.out _ (setB_below (below_chain HB6.out hbw9) HB5.out.size _ _))
      (first
        | (go_at_call 9; refine (HSUM.out _ _ _ (HK.out _ (below_chain HB6.out hbw8)).log1 (HK.out _ (below_chain HB6.out hbw8)).log2 (HR7.out.later hb78) HR8.out).mono ?_; rintro e w9 ⟨l, dn, ad, len, cap, code, rfl, hr, hv, ht, hb9⟩; have hbw9 := below_chain hbw8 hb9; have nb := HNB0.out _ hbw9; have z0 := nb.c0; have z1 := nb.c1; have z2 := nb.f0; have z3 := nb.f1; have HT := Hid.mk' ht; have HRV := Hid.mk' (And.intro hr hv); clear hr hv ht hb9)
        | (go_at_call 10; refine (one_one w7).mono ?_; rintro e w8 ⟨r8, rfl, hr8, hb8⟩; have hbw8 := below_chain hbw7 hb8; have hb78 := hb8; have HR8 := Hid.mk' hr8; clear hr8 hb8)
        | (go_at_call 10; refine (one_one _).mono ?_; rintro e w7 ⟨r7, rfl, hr7, hb7⟩; have hbw7 := below_chain hcur hb7; have HR7 := Hid.mk' hr7; clear hr7 hb7))
    all_goals
      go_wp2_with fail
      go_meet
      exact ⟨_, _, rfl, HRV, toldBox_soon (below_chain HB6.out hbw9) HT.out nb⟩
  case rest =>
  obtain ⟨l, code, rfl, HRV, HTB⟩ := hcut
  obtain ⟨Wm, hWm⟩ : ∃ Wm, Wm = wc := ⟨_, rfl⟩
  rw [← hWm] at HTB ⊢
  clear hWm hcur hcur0 HB6 HNB0 HSUM
  have hcur0 : Below Wm.heap.size Wm Wm := Below.refl _ _
  have hcur : Below Wm.heap.size Wm Wm.drew := (Below.refl _ _).drew
  have hcurA : ∀ X, Below Wm.heap.size Wm (Wm.alloc X).drew := fun X => (new_below _ _).drew
  have HBM := Hid.mk' HTB.out.below
  go_upto_region 11 with fail
  go_cut [9, 10] from 42 (fun s r wx => ∃ (Bs : Nat) (er : Value) (l2 : List (Int × Int)), s = .pointer (some ⟨Bs, 0, none⟩) ∧ r = er ∧ Hid (Rising l2 ∧ (∀ x, atL l2 x = atL t1 x * ((db / g : Nat) : Int) + atL t2 x * ((da / g : Nat) : Int)) ∧ l2.length ≤ n1 + n2) ∧ Hid (SaidBox Wm wx Bs (da / g * db) l2 a er))
  case first =>
    go_region_held3 (fun W => (W.cell? ⟨w.heap.size, 0, none⟩ = some (.int .i64 da) ∧ W.cell? ⟨w.heap.size, 1, none⟩ = some (.slice ad1 n1 cap1)) ∧ (W.cell? ⟨w.heap.size + 1, 0, none⟩ = some (.int .i64 db) ∧ W.cell? ⟨w.heap.size + 1, 1, none⟩ = some (.slice ad2 n2 cap2)))
      (first | exact HKS.out _ (below_chain HBM.out hcur0) | exact HKS.out _ (below_chain HBM.out hcur) | exact HKS.out _ (below_chain HBM.out (hcurA _)) | exact HKS.out _ (below_chain HBM.out hbw7) | exact HKS.out _ (below_chain HBM.out hbw8) | exact HKS.out _ (below_chain HBM.out hbw9) | exact HKS.out _ (below_chain HBM.out (more_below hbw7 _)) | exact HKS.out _ (below_chain HBM.out (more_below hbw8 _)) | exact HKS.out _ (below_chain HBM.out (more_below hbw9 _)) | exact HKS.out _ (below_chain HBM.out (setB_below hbw9 NB.hB _ _)))
      (first
        | (go_at_call 11; have hz8 := hbw8; clear hz8; refine (HADD.out _ _ _ _ _ ?_ ?_ ?_).mono ?_; (first | exact (HK.out _ (below_chain HBM.out hbw8)).errs | exact (HK.out _ (below_chain HBM.out (more_below hbw8 _))).errs); (first | exact HL7.out.later h78 | exact HL7.out.later (more_below h78 _)); (first | exact HL8.out | exact HL8.out.later (new_below _ _)); rintro e w9 ⟨l2, dn, ad, len, cap, er, rfl, hr, hv, hln, ht, hb9⟩; (first | (have hbw9 := below_chain hbw8 hb9; try have NB := NB.later hb9) | (have hbw9 := below_chain (more_below hbw8 _) hb9; have NB := newBoxL_of hbw8 hb9)); (try (have z0 := NB.c0; have z1 := NB.c1; have z2 := NB.f0; have z3 := NB.f1)); have HT := Hid.mk' ht; have HR2 := Hid.mk' (And.intro hr (And.intro hv hln)); clear hr hv hln ht hb9)
        | (go_at_call 12; have hz7 := hbw7; clear hz7; refine (own_at db _ n2 (pOf t2) (cOf t2) _ ?_ hn2).mono ?_; (first | exact (HK.out _ (below_chain HBM.out hbw7)).log2 | exact (HK.out _ (below_chain HBM.out (more_below hbw7 _))).log2); rintro e w8 ⟨sv8, rfl, hs8, hb8⟩; (first | (have hbw8 := below_chain hbw7 hb8; have h78 := below_chain (Below.refl _ w7) hb8; try have NB := NB.later hb8) | (have hbw8 := below_chain (more_below hbw7 _) hb8; have h78 := below_chain (new_below w7 _) hb8; have NB := newBoxL_of hbw7 hb8)); obtain ⟨ad8, cap8, rfl, hl8⟩ := own_logAt hs8; have HL8 := Hid.mk' hl8; clear hs8 hb8 hl8)
        | (go_at_call 12; refine (own_at da _ n1 (pOf t1) (cOf t1) _ ?_ hn1).mono ?_; (first | exact (HK.out _ (below_chain HBM.out hcur)).log1 | exact (HK.out _ (below_chain HBM.out (hcurA _))).log1); rintro e w7 ⟨sv7, rfl, hs7, hb7⟩; (first | have hbw7 := below_chain hcur hb7 | (have hbw7 := below_chain (hcurA _) hb7; have NB := newBoxL_of hcur0 (below_chain ((Below.refl _ _).drew) hb7))); obtain ⟨ad7, cap7, rfl, hl7⟩ := own_logAt hs7; have HL7 := Hid.mk' hl7; clear hs7 hb7 hl7))
    all_goals
      go_wp2_with fail
      go_meet
      first | exact ⟨_, _, _, rfl, rfl, HR2, saidBox_late hbw9 HT.out⟩ | exact ⟨_, _, _, rfl, rfl, HR2, saidBox_soon hbw9 HT.out NB⟩
  case rest =>
  obtain ⟨Bs, er, l2, rfl, rfl, HR2, HSB⟩ := hcut
  obtain ⟨dn1, ad7, len7, cap7, s0, s1, hsd⟩ := HSB.out.box
  obtain ⟨dn2, ad8, len8, cap8, r0, r1, htd⟩ := HTB.out.box
  have r0' := (cell_past r0 HSB.out.below).2
  have r1' := (cell_past r1 HSB.out.below).2
  have htd' := (htd.later HSB.out.below).same HRV.out.1 HR2.out.1 (fun x => by rw [HRV.out.2, HR2.out.2.1])
  have hbc := below_chain HBM.out HSB.out.below
  have his := isLog_said (da / g * db) l2 a wc (HK.out _ hbc).errs (by have := HR2.out.2.2; omega) dn1 dn2 code ad7 ad8 len7 len8 cap7 cap8 _ hsd htd'
  have HBC := Hid.mk' hbc
  clear r0 r1 hsd htd htd' hbc
  go_wp2_with fail
  refine his.mono ?_
  clear his
  rintro e w12 ⟨rfl, hb12⟩
  go_wp2_with fail
  go_ret
  exact ⟨rfl, (HK.out _ (below_chain HBC.out hb12)).below⟩
end Go.Proofs.YtiecbconcdncmabGreatDoor

/- logs.Scale, walked. -/
namespace Go.Proofs.YtiecbconcdncmabGreatDoor
open Go.RowKit Go.Maps

/-- What Scale's boxes hold. -/
theorem scale_boxes {w W : World} {x0 y0 y1 : Value} {ad : Option Addr} {nn cap : Nat} (hb : Below (((w.alloc (.cells #[x0, .slice ad nn cap] 24)).alloc (.cells #[y0, y1] 45)).alloc (.cells #[.int .i64 0, .slice none 0 0] 24)).heap.size (((w.alloc (.cells #[x0, .slice ad nn cap] 24)).alloc (.cells #[y0, y1] 45)).alloc (.cells #[.int .i64 0, .slice none 0 0] 24)) W) :
    (W.cell? ⟨w.heap.size, 0, none⟩ = some x0 ∧ W.cell? ⟨w.heap.size, 1, none⟩ = some (.slice ad nn cap)) ∧ (W.cell? ⟨w.heap.size + 1, 0, none⟩ = some y0 ∧ W.cell? ⟨w.heap.size + 1, 1, none⟩ = some y1) ∧ (W.cell? ⟨w.heap.size + 1 + 1, 0, none⟩ = some (.int .i64 0) ∧ W.cell? ⟨w.heap.size + 1 + 1, 1, none⟩ = some (.slice none 0 0)) ∧ W.frozen? ⟨w.heap.size + 1 + 1, 0, none⟩ = false ∧ W.frozen? ⟨w.heap.size + 1 + 1, 1, none⟩ = false := by
  obtain ⟨q0, q1, _, _⟩ := res_past (below_chain (more_below (new_below (w.alloc (.cells #[x0, .slice ad nn cap] 24)) (.cells #[y0, y1] 45)) (.cells #[.int .i64 0, .slice none 0 0] 24)) hb)
  obtain ⟨q2, q3, _, _⟩ := res_past (below_chain (new_below ((w.alloc (.cells #[x0, .slice ad nn cap] 24)).alloc (.cells #[y0, y1] 45)) (.cells #[.int .i64 0, .slice none 0 0] 24)) hb)
  obtain ⟨q4, q5, q6, q7⟩ := res_past hb
  simp only [World.size_alloc] at q2 q3 q4 q5 q6 q7
  exact ⟨⟨q0, q1⟩, ⟨q2, q3⟩, ⟨q4, q5⟩, q6, q7⟩

set_option maxRecDepth 100000 in
set_option maxHeartbeats 2000000 in
/-- Scale where the logarithm is not in form. -/
theorem Scale_bad (da fn fd : Int) (ad : Option Addr) (nn cap : Nat) (p c : Nat → Int) (a : Nat → Addr) (w : World) (h : Errs w a) (hl : LogAt w (.slice ad nn cap) nn p c) (hn : nn ≤ 1000000) (hbad : ¬ OkLog da nn p c) :
    Calls Tryz.prog 15 #[.agg #[.int .i64 da, .slice ad nn cap], .agg #[.int .i64 fn, .int .i64 fd]] w fun e w' => e = .returned (.tuple #[.agg #[.int .i64 0, .slice none 0 0], .iface 232 (.pointer (some (a 2)))]) ∧ Below w.heap.size w w' := by
  obtain ⟨W0, hW⟩ : ∃ W0, W0 = (((w.alloc (.cells #[.int .i64 da, .slice ad nn cap] 24)).alloc (.cells #[.int .i64 fn, .int .i64 fd] 45)).alloc (.cells #[.int .i64 0, .slice none 0 0] 24)) := ⟨_, rfl⟩
  have hb0 : Below w.heap.size w W0 := by rw [hW]; exact more_below (more_below (new_below _ _) _) _
  have HC : Hid (∀ W, Below W0.heap.size W0 W → _) := fun W hb => scale_boxes (by rw [hW] at hb; exact hb)
  have hv := Valid_log da _ nn p c a false ⟨(fun e => by cases e), (fun e => absurd e hbad)⟩ W0 (h.below hb0) (hl.later hb0) hn
  simp only [shapeErr] at hv
  obtain ⟨⟨k0, k1⟩, _⟩ := HC.out W0 (Below.refl _ _)
  have HW := Hid.mk' hW
  have HB0 := Hid.mk' hb0
  clear h hl hb0 hW hbad
  go_enter Tryz.func15, Tryz.ntmps15
  go_wp2_with fail
  rw [← HW.out]
  refine hv.mono ?_
  clear hv k0 k1
  rintro e w1 ⟨rfl, hb1⟩
  obtain ⟨_, _, ⟨r0, r1⟩, f0, f1⟩ := HC.out w1 hb1
  have HB1 := Hid.mk' (below_chain HB0.out hb1)
  clear hb1
  go_wp2_with fail
  refine bodyPost_ret (v := .tuple #[.agg #[.int .i64 0, .slice none 0 0], .iface 232 (.pointer (some (a 2)))]) (by simp [results, Tryz.results15, go_sem, r0, r1]) rfl ⟨rfl, (HB1.out.setCell (by simp; omega) _).setCell (by simp; omega) _⟩

set_option maxRecDepth 100000 in
set_option maxHeartbeats 4000000 in
/-- Scale where the fraction is too great. -/
theorem Scale_far (da fn fd : Int) (ad : Option Addr) (nn cap : Nat) (p c : Nat → Int) (a : Nat → Addr) (w : World) (h : Errs w a) (hl : LogAt w (.slice ad nn cap) nn p c) (hn : nn ≤ 1000000) (hok : OkLog da nn p c) (hfar : fd < 1 ∨ 1073741824 < fd ∨ fn < -1073741824 ∨ 1073741824 < fn) :
    Calls Tryz.prog 15 #[.agg #[.int .i64 da, .slice ad nn cap], .agg #[.int .i64 fn, .int .i64 fd]] w fun e w' => e = .returned (.tuple #[.agg #[.int .i64 0, .slice none 0 0], .iface 232 (.pointer (some (a 2)))]) ∧ Below w.heap.size w w' := by
  obtain ⟨W0, hW⟩ : ∃ W0, W0 = (((w.alloc (.cells #[.int .i64 da, .slice ad nn cap] 24)).alloc (.cells #[.int .i64 fn, .int .i64 fd] 45)).alloc (.cells #[.int .i64 0, .slice none 0 0] 24)) := ⟨_, rfl⟩
  have hb0 : Below w.heap.size w W0 := by rw [hW]; exact more_below (more_below (new_below _ _) _) _
  have HC : Hid (∀ W, Below W0.heap.size W0 W → _) := fun W hb => scale_boxes (by rw [hW] at hb; exact hb)
  have HE : Hid (∀ W, Below W0.heap.size W0 W → W.cell? ⟨0, 0, none⟩ = some (.iface 232 (.pointer (some (a 2))))) := fun W hb => ((h.below hb0).below hb).c2
  have hv := Valid_log da _ nn p c a true ⟨fun _ => hok, fun _ => rfl⟩ W0 (h.below hb0) (hl.later hb0) hn
  simp only [shapeErr] at hv
  obtain ⟨⟨k0, k1⟩, _⟩ := HC.out W0 (Below.refl _ _)
  have HW := Hid.mk' hW
  have HB0 := Hid.mk' hb0
  clear h hl hb0 hW hok
  by_cases g1 : fd < 1
  · go_enter Tryz.func15, Tryz.ntmps15
    go_wp2_with fail
    rw [← HW.out]
    refine hv.mono ?_
    clear hv k0 k1
    rintro e w1 ⟨rfl, hb1⟩
    obtain ⟨_, ⟨k2, k3⟩, ⟨r0, r1⟩, f0, f1⟩ := HC.out w1 hb1
    have ge := HE.out w1 hb1
    have HB1 := Hid.mk' (below_chain HB0.out hb1)
    clear hb1
    go_wp2_with fail
    go_region
    all_goals
      go_wp2_with fail
      refine bodyPost_ret (v := .tuple #[.agg #[.int .i64 0, .slice none 0 0], .iface 232 (.pointer (some (a 2)))]) (by simp [results, Tryz.results15, go_sem, r0, r1]) rfl ⟨rfl, (HB1.out.drew.setCell (by simp; omega) _).setCell (by simp; omega) _⟩
  · by_cases g2 : 1073741824 < fd
    · go_enter Tryz.func15, Tryz.ntmps15
      go_wp2_with fail
      rw [← HW.out]
      refine hv.mono ?_
      clear hv k0 k1
      rintro e w1 ⟨rfl, hb1⟩
      obtain ⟨_, ⟨k2, k3⟩, ⟨r0, r1⟩, f0, f1⟩ := HC.out w1 hb1
      have ge := HE.out w1 hb1
      have HB1 := Hid.mk' (below_chain HB0.out hb1)
      clear hb1
      go_wp2_with fail
      go_region
      all_goals
        go_wp2_with fail
        refine bodyPost_ret (v := .tuple #[.agg #[.int .i64 0, .slice none 0 0], .iface 232 (.pointer (some (a 2)))]) (by simp [results, Tryz.results15, go_sem, r0, r1]) rfl ⟨rfl, (HB1.out.drew.setCell (by simp; omega) _).setCell (by simp; omega) _⟩
    · by_cases g3 : fn < -1073741824
      · go_enter Tryz.func15, Tryz.ntmps15
        go_wp2_with fail
        rw [← HW.out]
        refine hv.mono ?_
        clear hv k0 k1
        rintro e w1 ⟨rfl, hb1⟩
        obtain ⟨_, ⟨k2, k3⟩, ⟨r0, r1⟩, f0, f1⟩ := HC.out w1 hb1
        have ge := HE.out w1 hb1
        have HB1 := Hid.mk' (below_chain HB0.out hb1)
        clear hb1
        go_wp2_with fail
        go_region
        all_goals
          go_wp2_with fail
          refine bodyPost_ret (v := .tuple #[.agg #[.int .i64 0, .slice none 0 0], .iface 232 (.pointer (some (a 2)))]) (by simp [results, Tryz.results15, go_sem, r0, r1]) rfl ⟨rfl, (HB1.out.drew.setCell (by simp; omega) _).setCell (by simp; omega) _⟩
      · have g4 : 1073741824 < fn := by omega
        go_enter Tryz.func15, Tryz.ntmps15
        go_wp2_with fail
        rw [← HW.out]
        refine hv.mono ?_
        clear hv k0 k1
        rintro e w1 ⟨rfl, hb1⟩
        obtain ⟨_, ⟨k2, k3⟩, ⟨r0, r1⟩, f0, f1⟩ := HC.out w1 hb1
        have ge := HE.out w1 hb1
        have HB1 := Hid.mk' (below_chain HB0.out hb1)
        clear hb1
        go_wp2_with fail
        go_region
        all_goals
          go_wp2_with fail
          refine bodyPost_ret (v := .tuple #[.agg #[.int .i64 0, .slice none 0 0], .iface 232 (.pointer (some (a 2)))]) (by simp [results, Tryz.results15, go_sem, r0, r1]) rfl ⟨rfl, (HB1.out.drew.setCell (by simp; omega) _).setCell (by simp; omega) _⟩

set_option maxRecDepth 100000 in
set_option maxHeartbeats 4000000 in
/-- Scale's answer. -/
theorem Scale_said (da fd : Nat) (fn : Int) (ad : Option Addr) (cap : Nat) (t : List (Int × Int)) (a : Nat → Addr) (w : World) (h : Errs w a) (hl : LogAt w (.slice ad t.length cap) t.length (pOf t) (cOf t)) (hok : OkLog da t.length (pOf t) (cOf t)) (hn : t.length ≤ 100) (h1 : -1073741824 ≤ fn) (h2 : fn ≤ 1073741824) (hd0 : 1 ≤ fd) (hd1 : fd ≤ 1073741824) (g : Nat) (hg : g = Nat.gcd fn.natAbs fd) :
    Calls Tryz.prog 15 #[.agg #[.int .i64 da, .slice ad t.length cap], .agg #[.int .i64 fn, .int .i64 fd]] w fun e w' => ∃ (dn : Int) (ad : Option Addr) (len cap : Nat) (er : Value), e = .returned (.tuple #[.agg #[.int .i64 dn, .slice ad len cap], er]) ∧ SaidOf (da * (fd / g)) (scaleL (fn.tdiv (g : Int)) t) a w' dn (.slice ad len cap) er ∧ Below w.heap.size w w' := by
  obtain ⟨hg1, hg2, hg3, hg4, hg5, hg6⟩ := low_parts (n := fn) hd0
  rw [← hg] at hg1 hg2 hg3 hg4 hg5 hg6
  have hda : 0 < da := (OkLog.canon (d := da) hok).pos
  have hM0 : 0 < da * (fd / g) := Nat.mul_pos hda hg6
  have hz : fn = 0 ∨ t.length = 0 → SaidOf (da * (fd / g)) (scaleL (fn.tdiv (g : Int)) t) a w 1 (.slice none 0 0) .nilIface := fun hz => said_zero hM0 (fun e he => by
    obtain ⟨f, hf, rfl⟩ := List.mem_map.1 he
    rcases hz with hz | hz
    · show fn.tdiv (g : Int) * f.2 = 0
      rw [hz]; simp
    · rw [List.length_eq_zero_iff.1 hz] at hf
      cases hf) a w
  obtain ⟨W0, hW⟩ : ∃ W0, W0 = (((w.alloc (.cells #[.int .i64 da, .slice ad t.length cap] 24)).alloc (.cells #[.int .i64 fn, .int .i64 fd] 45)).alloc (.cells #[.int .i64 0, .slice none 0 0] 24)) := ⟨_, rfl⟩
  have hb0 : Below w.heap.size w W0 := by rw [hW]; exact more_below (more_below (new_below _ _) _) _
  have HC : Hid (∀ W, Below W0.heap.size W0 W → _) := fun W hb => scale_boxes (by rw [hW] at hb; exact hb)
  have hv := Valid_log da _ t.length (pOf t) (cOf t) a true ⟨fun _ => hok, fun _ => rfl⟩ W0 (h.below hb0) (hl.later hb0) (by omega)
  simp only [shapeErr] at hv
  have hlo : ∀ W, Calls Tryz.prog 32 #[.int .i64 fn, .int .i64 fd] W fun e w' => e = .returned (.agg #[.int .i64 (fn.tdiv (g : Int)), .int .i64 ((fd / g : Nat) : Int)]) ∧ Below W.heap.size W w' := fun W => lowest_any fn fd W h1 h2 hd0 hd1 g hg
  have hsc : ∀ W, Below W0.heap.size W0 W → 0 < t.length → fn ≠ 0 → Calls Tryz.prog 31 #[.agg #[.int .i64 da, .slice ad t.length cap], .agg #[.int .i64 (fn.tdiv (g : Int)), .int .i64 ((fd / g : Nat) : Int)]] W fun e w' => ∃ (dn : Int) (ad : Option Addr) (len cap : Nat) (er : Value), e = .returned (.tuple #[.agg #[.int .i64 dn, .slice ad len cap], er]) ∧ SaidOf (da * (fd / g)) (scaleL (fn.tdiv (g : Int)) t) a w' dn (.slice ad len cap) er ∧ Below W.heap.size W w' := fun W hb hp hf => by
    have hq : (fn.tdiv (g : Int)).natAbs ≤ fn.natAbs := by rw [hg5]; exact Nat.div_le_self _ _
    refine scaled_said da (fd / g) (fn.tdiv (g : Int)) ad cap t a W ((h.below hb0).below hb) ((hl.later hb0).later hb) hok hp hn (by omega) (by omega) (fun e => hf (by rw [hg2, e, Int.mul_zero])) hg6 (Nat.le_trans (Nat.div_le_self _ _) hd1) hg4
  generalize fn.tdiv (g : Int) = n at *
  generalize hq : fd / g = q at *
  have HZ := Hid.mk' hz
  have HLO := Hid.mk' hlo
  have HSC := Hid.mk' hsc
  obtain ⟨⟨k0, k1⟩, _⟩ := HC.out W0 (Below.refl _ _)
  have HSZ : Hid (W0.heap.size = w.heap.size + 1 + 1 + 1) := by show _ = _; rw [hW]; simp
  have HW := Hid.mk' hW
  have HB0 := Hid.mk' hb0
  have hlm : t.length ≤ 100 := hn
  generalize t.length = nn at *
  clear h hl hb0 hW hok hg hg1 hg2 hg3 hg4 hg5 hg6 hz hlo hsc hq hda hM0
  go_enter Tryz.func15, Tryz.ntmps15
  go_wp2_with fail
  rw [← HW.out]
  refine hv.mono ?_
  clear hv k0 k1
  rintro e w1 ⟨rfl, hb1⟩
  obtain ⟨⟨k0, k1⟩, ⟨k2, k3⟩, ⟨r0, r1⟩, f0, f1⟩ := HC.out w1 hb1
  have HB1 := Hid.mk' hb1
  have hg1' : ¬ (fd : Int) < 1 := by omega
  have hg2' : (fd : Int) ≤ 1073741824 := by omega
  clear hb1
  by_cases hf0 : fn = 0
  · subst hf0
    have hs := HZ.out (Or.inl rfl)
    rcases hs with ⟨s1, s2, s3, s4⟩ | ⟨_, _, _, s4⟩
    case inr => cases s4
    have HS := Hid.mk' (And.intro s1 (And.intro s2 s4))
    clear s1 s2 s3 s4
    go_wp2_with fail
    refine bodyPost_ret (v := .tuple #[.agg #[.int .i64 1, .slice none 0 0], .nilIface]) (by simp [results, Tryz.results15, go_sem, r0, r1]) rfl ⟨1, none, 0, 0, .nilIface, rfl, Or.inl ⟨HS.out.1, HS.out.2.1, rfl, ?_⟩, ((below_chain HB0.out HB1.out).setCell (by simp; omega) _).setCell (by simp; omega) _⟩
    rcases HS.out.2.2 with ⟨_, h0⟩ | ⟨_, _, e9, _⟩
    · exact Or.inl ⟨rfl, h0⟩
    · cases e9
  · have hfb : (fn == 0) = false := by rw [beq_eq_false_iff_ne]; exact hf0
    rcases Nat.eq_zero_or_pos nn with h0 | hpos
    · subst h0
      have hs := HZ.out (Or.inr rfl)
      rcases hs with ⟨s1, s2, s3, s4⟩ | ⟨_, _, _, s4⟩
      case inr => cases s4
      have HS := Hid.mk' (And.intro s1 (And.intro s2 s4))
      clear s1 s2 s3 s4 hf0
      go_wp2_with fail
      refine bodyPost_ret (v := .tuple #[.agg #[.int .i64 1, .slice none 0 0], .nilIface]) (by simp [results, Tryz.results15, go_sem, r0, r1]) rfl ⟨1, none, 0, 0, .nilIface, rfl, Or.inl ⟨HS.out.1, HS.out.2.1, rfl, ?_⟩, ((below_chain HB0.out HB1.out).setCell (by simp; omega) _).setCell (by simp; omega) _⟩
      rcases HS.out.2.2 with ⟨_, h0⟩ | ⟨_, _, e9, _⟩
      · exact Or.inl ⟨rfl, h0⟩
      · cases e9
    · have hnz : ((nn : Int) == 0) = false := by rw [beq_eq_false_iff_ne]; omega
      have HF0 := Hid.mk' hf0
      have HKS : Hid (∀ W, Below (w.heap.size + 1 + 1) W0 W → (W.cell? ⟨w.heap.size, 0, none⟩ = some (.int .i64 da) ∧ W.cell? ⟨w.heap.size, 1, none⟩ = some (.slice ad nn cap)) ∧ (W.cell? ⟨w.heap.size + 1, 0, none⟩ = some (.int .i64 fn) ∧ W.cell? ⟨w.heap.size + 1, 1, none⟩ = some (.int .i64 fd))) := fun W hb => by
        obtain ⟨⟨a0, a1⟩, ⟨a2, a3⟩, _⟩ := HC.out W0 (Below.refl _ _)
        refine ⟨⟨?_, ?_⟩, ?_, ?_⟩
        · rw [hb.cell (p := ⟨w.heap.size, 0, none⟩) (by show w.heap.size < _; omega)]; exact a0
        · rw [hb.cell (p := ⟨w.heap.size, 1, none⟩) (by show w.heap.size < _; omega)]; exact a1
        · rw [hb.cell (p := ⟨w.heap.size + 1, 0, none⟩) (by show w.heap.size + 1 < _; omega)]; exact a2
        · rw [hb.cell (p := ⟨w.heap.size + 1, 1, none⟩) (by show w.heap.size + 1 < _; omega)]; exact a3
      have hle : w.heap.size + 1 + 1 ≤ W0.heap.size := by rw [HSZ.out]; omega
      have hc0 : Below (w.heap.size + 1 + 1) W0 w1 := HB1.out.mono hle
      have hcd : Below (w.heap.size + 1 + 1) W0 w1.drew := hc0.drew
      have HLE := Hid.mk' hle
      clear hf0 hle
      go_wp2_with fail
      clear k0 k1 k2 k3 r0 r1 f0 f1
      go_region_held3 (fun W => (W.cell? ⟨w.heap.size, 0, none⟩ = some (.int .i64 da) ∧ W.cell? ⟨w.heap.size, 1, none⟩ = some (.slice ad nn cap)) ∧ (W.cell? ⟨w.heap.size + 1, 0, none⟩ = some (.int .i64 fn) ∧ W.cell? ⟨w.heap.size + 1, 1, none⟩ = some (.int .i64 fd)))
        (first | exact HKS.out _ hc0 | exact HKS.out _ hcd | exact HKS.out _ hc2 | exact HKS.out _ hc3 | exact HKS.out _ ((hc3.setCell (Nat.le_refl _) _).setCell (Nat.le_refl _) _))
        (first
          | (go_at_call 31; have hz2 := hc2; clear hz2; refine (HSC.out w2 HBW2.out hpos HF0.out).mono ?_; rintro e w3 ⟨dn, ad3, m3, cap3, er, rfl, hs3, hb3⟩; have hbw3 := below_chain HBW2.out hb3; have hc3 : Below (w.heap.size + 1 + 1) W0 w3 := hbw3.mono HLE.out; obtain ⟨_, _, ⟨x0, x1⟩, g0, g1⟩ := HC.out w3 hbw3; have HV := Hid.mk' hs3; have HBW3 := Hid.mk' hbw3; clear hs3 hb3 hbw3)
          | (go_at_call 32; refine (HLO.out _).mono ?_; rintro e w2 ⟨rfl, hb2⟩; have hbw2 := below_chain HB1.out.drew hb2; have hc2 : Below (w.heap.size + 1 + 1) W0 w2 := hbw2.mono HLE.out; have HBW2 := Hid.mk' hbw2; clear hb2 hbw2))
      go_wp2_with fail
      refine bodyPost_ret (v := .tuple #[.agg #[.int .i64 dn, .slice ad3 m3 cap3], er]) (by simp [results, Tryz.results15, go_sem, x0, x1]) rfl ⟨dn, ad3, m3, cap3, er, rfl, HV.out.set x1, ((below_chain HB0.out HBW3.out).setCell (by simp; omega) _).setCell (by simp; omega) _⟩
end Go.Proofs.YtiecbconcdncmabGreatDoor

/- The law LogsAdds where one is not in form, or too long. -/
namespace Go.Proofs.YtiecbconcdncmabGreatDoor
open Go.RowKit

/-- Nothing in its box. -/
structure ZeroBox (W0 W : World) (B : Nat) : Prop where
  below : Below W0.heap.size W0 W
  c0 : W.cell? ⟨B, 0, none⟩ = some (.int .i64 0)
  c1 : W.cell? ⟨B, 1, none⟩ = some (.slice none 0 0)
theorem zeroBox_late {W0 W : World} (h : Below W0.heap.size W0 W) : ZeroBox W0 (W.alloc (.cells #[.int .i64 0, .slice none 0 0] 24)) W.heap.size :=
  ⟨more_below h _, by rw [World.cell?_alloc_at _ _ _ _ rfl]; rfl, by rw [World.cell?_alloc_at _ _ _ _ rfl]; rfl⟩
theorem zeroBox_soon {W0 W : World} {B : Nat} (h : Below W0.heap.size W0 W) (hn : NewBoxL W0 W B) : ZeroBox W0 ((W.setCell ⟨B, 0, none⟩ (.int .i64 0)).setCell ⟨B, 1, none⟩ (.slice none 0 0)) B :=
  ⟨setB_below h hn.hB _ _, by rw [World.cell?_setCell_other _ _ _ _ (by simp)]; exact World.cell?_setCell_same _ _ _ hn.c0, World.cell?_setCell_same _ _ _ (by rw [World.cell?_setCell_other _ _ _ _ (by simp)]; exact hn.c1)⟩
theorem zeroBox_same {W0 W : World} {B : Nat} (h : Below W0.heap.size W0 W) (hn : NewBoxL W0 W B) : ZeroBox W0 W B := ⟨h, hn.c0, hn.c1⟩

set_option maxRecDepth 100000 in
set_option maxHeartbeats 4000000 in
theorem LogsAdds_bad1 (da db : Int) (ad1 ad2 : Option Addr) (n1 n2 cap1 cap2 : Nat) (p1 c1 p2 c2 : Nat → Int) (a : Nat → Addr) (w : World) (h : Errs w a) (hl1 : LogAt w (.slice ad1 n1 cap1) n1 p1 c1) (hl2 : LogAt w (.slice ad2 n2 cap2) n2 p2 c2)
    (hbad : ¬ OkLog da n1 p1 c1) (hn1 : n1 ≤ 30) (hn2 : n2 ≤ 30) :
    Calls Tryz.prog 3 #[.agg #[.int .i64 da, .slice ad1 n1 cap1], .agg #[.int .i64 db, .slice ad2 n2 cap2]] w fun e w' => e = .returned (.bool true) ∧ Below w.heap.size w w' := by
  have HK := Hid.mk' (fun (W : World) => twoLogs (W := W) (da := da) (db := db) h hl1 hl2)
  have HADD : Hid (∀ (W : World) (v1 v2 : Value), Errs W a → LogAt W v1 n1 p1 c1 → LogAt W v2 n2 p2 c2 → _) := fun W v1 v2 h1 h2 h3 => Add_shape da db v1 v2 n1 n2 p1 c1 p2 c2 a W h1 h2 h3 (by omega) (by omega) (fun h => hbad h.1)
  have HOK := Hid.mk' hbad
  have hE := eighth_any ((w.alloc (.cells #[.int .i64 da, .slice ad1 n1 cap1] 24)).alloc (.cells #[.int .i64 db, .slice ad2 n2 cap2] 24))
  obtain ⟨W0, hW0⟩ : ∃ W0, W0 = (w.alloc (.cells #[.int .i64 da, .slice ad1 n1 cap1] 24)).alloc (.cells #[.int .i64 db, .slice ad2 n2 cap2] 24) := ⟨_, rfl⟩
  rw [← hW0] at hE HK
  have HW0 := Hid.mk' hW0
  clear h hl1 hl2 hW0 hbad
  go_enter Tryz.func3, Tryz.ntmps3
  go_wp2_with fail
  rw [← HW0.out]
  refine hE.mono ?_
  clear hE
  rintro e w1 ⟨rfl, hb1⟩
  have k1 := HK.out w1 hb1
  have x0 := k1.x0
  have x1 := k1.x1
  have hsh := short_any da ad1 n1 cap1 true (by simpa using hn1) (by unfold maxLen; omega) w1
  have HB1 := Hid.mk' hb1
  clear hb1 k1
  go_wp2_with fail
  refine hsh.mono ?_
  clear hsh x0 x1
  rintro e w2 ⟨rfl, hb2⟩
  have HB2 := Hid.mk' (below_chain HB1.out hb2)
  have k2 := HK.out w2 HB2.out
  have y0 := k2.y0
  have y1 := k2.y1
  have hsh := short_any db ad2 n2 cap2 true (by simpa using hn2) (by unfold maxLen; omega) w2
  clear hb2 k2
  go_wp2_with fail
  refine hsh.mono ?_
  clear hsh y0 y1
  rintro e w3 ⟨rfl, hb3⟩
  have HB3 := Hid.mk' (below_chain HB2.out hb3)
  have k3 := HK.out w3 HB3.out
  have x0 := k3.x0
  have x1 := k3.x1
  have hle := LogError_at da (.slice ad1 n1 cap1) n1 false _ _ ⟨(fun e => by cases e), (fun e => absurd e HOK.out)⟩ w3 k3.log1 hn1
  simp only [shapeCode] at hle
  clear hb3 k3
  go_wp2_with fail
  refine hle.mono ?_
  clear hle x0 x1
  rintro e w5 ⟨rfl, hb5⟩
  have HB5 := Hid.mk' (below_chain HB3.out hb5)
  clear hb5 HB1 HB2 HB3
  go_upto_region 11 with fail
  have HNB0 : Hid (∀ W, Below (w5.alloc (.cells #[.int .i64 0, .slice none 0 0] 24)).heap.size (w5.alloc (.cells #[.int .i64 0, .slice none 0 0] 24)) W → NewBoxL W0 W w5.heap.size) := fun W hb => newBoxL_of HB5.out hb
  have HBM : Hid (Below W0.heap.size W0 (w5.alloc (.cells #[.int .i64 0, .slice none 0 0] 24))) := more_below HB5.out _
  obtain ⟨Wm, hWm⟩ : ∃ Wm, Wm = w5.alloc (.cells #[.int .i64 0, .slice none 0 0] 24) := ⟨_, rfl⟩
  rw [← hWm] at HNB0 HBM ⊢
  clear hWm
  have hcur0 : Below Wm.heap.size Wm Wm := Below.refl _ _
  have hcur : Below Wm.heap.size Wm Wm.drew := (Below.refl _ _).drew
  have hcurA : ∀ X, Below Wm.heap.size Wm (Wm.alloc X).drew := fun X => (new_below _ _).drew
  have HKS : Hid (∀ W, Below W0.heap.size W0 W → (W.cell? ⟨w.heap.size, 0, none⟩ = some (.int .i64 da) ∧ W.cell? ⟨w.heap.size, 1, none⟩ = some (.slice ad1 n1 cap1)) ∧ (W.cell? ⟨w.heap.size + 1, 0, none⟩ = some (.int .i64 db) ∧ W.cell? ⟨w.heap.size + 1, 1, none⟩ = some (.slice ad2 n2 cap2))) := fun W hb => by
    have k := HK.out W hb
    exact ⟨⟨k.x0, k.x1⟩, k.y0, k.y1⟩
  go_cut [9, 10] from 42 (fun s r wx => ∃ (Bs : Nat), s = .pointer (some ⟨Bs, 0, none⟩) ∧ r = .iface 232 (.pointer (some (a 2))) ∧ Hid (ZeroBox Wm wx Bs))
  case first =>
    go_region_held3 (fun W => (W.cell? ⟨w.heap.size, 0, none⟩ = some (.int .i64 da) ∧ W.cell? ⟨w.heap.size, 1, none⟩ = some (.slice ad1 n1 cap1)) ∧ (W.cell? ⟨w.heap.size + 1, 0, none⟩ = some (.int .i64 db) ∧ W.cell? ⟨w.heap.size + 1, 1, none⟩ = some (.slice ad2 n2 cap2)))
      (first | exact HKS.out _ (below_chain HBM.out hcur0) | exact HKS.out _ (below_chain HBM.out hcur) | exact HKS.out _ (below_chain HBM.out (hcurA _)) | exact HKS.out _ (below_chain HBM.out hbw7) | exact HKS.out _ (below_chain HBM.out hbw8) | exact HKS.out _ (below_chain HBM.out hbw9) | exact HKS.out _ (below_chain HBM.out (more_below hbw7 _)) | exact HKS.out _ (below_chain HBM.out (more_below hbw8 _)) | exact HKS.out _ (below_chain HBM.out (more_below hbw9 _)) | exact HKS.out _ (below_chain HBM.out (setB_below hbw9 NB.hB _ _)))
      (first
        | (go_at_call 11; have hz8 := hbw8; clear hz8; refine (HADD.out _ _ _ ?_ ?_ ?_).mono ?_; (first | exact (HK.out _ (below_chain HBM.out hbw8)).errs | exact (HK.out _ (below_chain HBM.out (more_below hbw8 _))).errs); (first | exact HL7.out.later h78 | exact HL7.out.later (more_below h78 _)); (first | exact HL8.out | exact HL8.out.later (new_below _ _)); rintro e w9 ⟨rfl, hb9⟩; (first | (have hbw9 := below_chain hbw8 hb9; try have NB := NB.later hb9) | (have hbw9 := below_chain (more_below hbw8 _) hb9; have NB := newBoxL_of hbw8 hb9)); (try (have z0 := NB.c0; have z1 := NB.c1; have z2 := NB.f0; have z3 := NB.f1)); clear hb9)
        | (go_at_call 12; have hz7 := hbw7; clear hz7; refine (own_at db _ n2 p2 c2 _ ?_ hn2).mono ?_; (first | exact (HK.out _ (below_chain HBM.out hbw7)).log2 | exact (HK.out _ (below_chain HBM.out (more_below hbw7 _))).log2); rintro e w8 ⟨sv8, rfl, hs8, hb8⟩; (first | (have hbw8 := below_chain hbw7 hb8; have h78 := below_chain (Below.refl _ w7) hb8; try have NB := NB.later hb8) | (have hbw8 := below_chain (more_below hbw7 _) hb8; have h78 := below_chain (new_below w7 _) hb8; have NB := newBoxL_of hbw7 hb8)); obtain ⟨ad8, cap8, rfl, hl8⟩ := own_logAt hs8; have HL8 := Hid.mk' hl8; clear hs8 hb8 hl8)
        | (go_at_call 12; refine (own_at da _ n1 p1 c1 _ ?_ hn1).mono ?_; (first | exact (HK.out _ (below_chain HBM.out hcur)).log1 | exact (HK.out _ (below_chain HBM.out (hcurA _))).log1); rintro e w7 ⟨sv7, rfl, hs7, hb7⟩; (first | have hbw7 := below_chain hcur hb7 | (have hbw7 := below_chain (hcurA _) hb7; have NB := newBoxL_of hcur0 (below_chain ((Below.refl _ _).drew) hb7))); obtain ⟨ad7, cap7, rfl, hl7⟩ := own_logAt hs7; have HL7 := Hid.mk' hl7; clear hs7 hb7 hl7))
    all_goals
      go_wp2_with fail
      go_meet
      first | exact ⟨_, rfl, rfl, zeroBox_late hbw9⟩ | exact ⟨_, rfl, rfl, zeroBox_soon hbw9 NB⟩ | exact ⟨_, rfl, rfl, zeroBox_same hbw9 NB⟩
  case rest =>
  obtain ⟨Bs, rfl, rfl, HZB⟩ := hcut
  have s0 := HZB.out.c0
  have s1 := HZB.out.c1
  have nb := HNB0.out wc HZB.out.below
  have r0 := nb.c0
  have r1 := nb.c1
  have hbc := below_chain HBM.out HZB.out.below
  have his : Calls Tryz.prog 13 #[.agg #[.int .i64 0, .slice none 0 0], .iface 232 (.pointer (some (a 2))), .agg #[.int .i64 0, .slice none 0 0], .int .i64 3] _ _ := isLog_err a 2 (by decide) 0 none 0 0 wc (HK.out _ hbc).errs
  have HBC := Hid.mk' hbc
  clear hbc nb
  go_wp2_with fail
  refine his.mono ?_
  clear his
  rintro e w12 ⟨rfl, hb12⟩
  go_wp2_with fail
  go_ret
  exact ⟨rfl, (HK.out _ (below_chain HBC.out hb12)).below⟩

set_option maxRecDepth 100000 in
set_option maxHeartbeats 4000000 in
theorem LogsAdds_bad2 (da db : Int) (ad1 ad2 : Option Addr) (n1 n2 cap1 cap2 : Nat) (p1 c1 p2 c2 : Nat → Int) (a : Nat → Addr) (w : World) (h : Errs w a) (hl1 : LogAt w (.slice ad1 n1 cap1) n1 p1 c1) (hl2 : LogAt w (.slice ad2 n2 cap2) n2 p2 c2)
    (hok1 : OkLog da n1 p1 c1) (hbad : ¬ OkLog db n2 p2 c2) (hn1 : n1 ≤ 30) (hn2 : n2 ≤ 30) :
    Calls Tryz.prog 3 #[.agg #[.int .i64 da, .slice ad1 n1 cap1], .agg #[.int .i64 db, .slice ad2 n2 cap2]] w fun e w' => e = .returned (.bool true) ∧ Below w.heap.size w w' := by
  have HK := Hid.mk' (fun (W : World) => twoLogs (W := W) (da := da) (db := db) h hl1 hl2)
  have HADD : Hid (∀ (W : World) (v1 v2 : Value), Errs W a → LogAt W v1 n1 p1 c1 → LogAt W v2 n2 p2 c2 → _) := fun W v1 v2 h1 h2 h3 => Add_shape da db v1 v2 n1 n2 p1 c1 p2 c2 a W h1 h2 h3 (by omega) (by omega) (fun h => hbad h.2)
  have HOK := Hid.mk' (And.intro hok1 hbad)
  have hE := eighth_any ((w.alloc (.cells #[.int .i64 da, .slice ad1 n1 cap1] 24)).alloc (.cells #[.int .i64 db, .slice ad2 n2 cap2] 24))
  obtain ⟨W0, hW0⟩ : ∃ W0, W0 = (w.alloc (.cells #[.int .i64 da, .slice ad1 n1 cap1] 24)).alloc (.cells #[.int .i64 db, .slice ad2 n2 cap2] 24) := ⟨_, rfl⟩
  rw [← hW0] at hE HK
  have HW0 := Hid.mk' hW0
  clear h hl1 hl2 hW0 hbad hok1
  go_enter Tryz.func3, Tryz.ntmps3
  go_wp2_with fail
  rw [← HW0.out]
  refine hE.mono ?_
  clear hE
  rintro e w1 ⟨rfl, hb1⟩
  have k1 := HK.out w1 hb1
  have x0 := k1.x0
  have x1 := k1.x1
  have hsh := short_any da ad1 n1 cap1 true (by simpa using hn1) (by unfold maxLen; omega) w1
  have HB1 := Hid.mk' hb1
  clear hb1 k1
  go_wp2_with fail
  refine hsh.mono ?_
  clear hsh x0 x1
  rintro e w2 ⟨rfl, hb2⟩
  have HB2 := Hid.mk' (below_chain HB1.out hb2)
  have k2 := HK.out w2 HB2.out
  have y0 := k2.y0
  have y1 := k2.y1
  have hsh := short_any db ad2 n2 cap2 true (by simpa using hn2) (by unfold maxLen; omega) w2
  clear hb2 k2
  go_wp2_with fail
  refine hsh.mono ?_
  clear hsh y0 y1
  rintro e w3 ⟨rfl, hb3⟩
  have HB3 := Hid.mk' (below_chain HB2.out hb3)
  have k3 := HK.out w3 HB3.out
  have x0 := k3.x0
  have x1 := k3.x1
  have hle := LogError_at da (.slice ad1 n1 cap1) n1 true _ _ ⟨fun _ => HOK.out.1, fun _ => rfl⟩ w3 k3.log1 hn1
  simp only [shapeCode] at hle
  clear hb3 k3
  go_wp2_with fail
  refine hle.mono ?_
  clear hle x0 x1
  rintro e w4 ⟨rfl, hb4⟩
  have HB4 := Hid.mk' (below_chain HB3.out hb4)
  have k4 := HK.out w4 HB4.out
  have y0 := k4.y0
  have y1 := k4.y1
  have hle := LogError_at db (.slice ad2 n2 cap2) n2 false _ _ ⟨(fun e => by cases e), (fun e => absurd e HOK.out.2)⟩ w4 k4.log2 hn2
  simp only [shapeCode] at hle
  clear hb4 k4
  go_wp2_with fail
  refine hle.mono ?_
  clear hle y0 y1
  rintro e w5 ⟨rfl, hb5⟩
  have HB5 := Hid.mk' (below_chain HB4.out hb5)
  clear hb5 HB1 HB2 HB3 HB4
  go_upto_region 11 with fail
  have HNB0 : Hid (∀ W, Below (w5.alloc (.cells #[.int .i64 0, .slice none 0 0] 24)).heap.size (w5.alloc (.cells #[.int .i64 0, .slice none 0 0] 24)) W → NewBoxL W0 W w5.heap.size) := fun W hb => newBoxL_of HB5.out hb
  have HBM : Hid (Below W0.heap.size W0 (w5.alloc (.cells #[.int .i64 0, .slice none 0 0] 24))) := more_below HB5.out _
  obtain ⟨Wm, hWm⟩ : ∃ Wm, Wm = w5.alloc (.cells #[.int .i64 0, .slice none 0 0] 24) := ⟨_, rfl⟩
  rw [← hWm] at HNB0 HBM ⊢
  clear hWm
  have hcur0 : Below Wm.heap.size Wm Wm := Below.refl _ _
  have hcur : Below Wm.heap.size Wm Wm.drew := (Below.refl _ _).drew
  have hcurA : ∀ X, Below Wm.heap.size Wm (Wm.alloc X).drew := fun X => (new_below _ _).drew
  have HKS : Hid (∀ W, Below W0.heap.size W0 W → (W.cell? ⟨w.heap.size, 0, none⟩ = some (.int .i64 da) ∧ W.cell? ⟨w.heap.size, 1, none⟩ = some (.slice ad1 n1 cap1)) ∧ (W.cell? ⟨w.heap.size + 1, 0, none⟩ = some (.int .i64 db) ∧ W.cell? ⟨w.heap.size + 1, 1, none⟩ = some (.slice ad2 n2 cap2))) := fun W hb => by
    have k := HK.out W hb
    exact ⟨⟨k.x0, k.x1⟩, k.y0, k.y1⟩
  go_cut [9, 10] from 42 (fun s r wx => ∃ (Bs : Nat), s = .pointer (some ⟨Bs, 0, none⟩) ∧ r = .iface 232 (.pointer (some (a 2))) ∧ Hid (ZeroBox Wm wx Bs))
  case first =>
    go_region_held3 (fun W => (W.cell? ⟨w.heap.size, 0, none⟩ = some (.int .i64 da) ∧ W.cell? ⟨w.heap.size, 1, none⟩ = some (.slice ad1 n1 cap1)) ∧ (W.cell? ⟨w.heap.size + 1, 0, none⟩ = some (.int .i64 db) ∧ W.cell? ⟨w.heap.size + 1, 1, none⟩ = some (.slice ad2 n2 cap2)))
      (first | exact HKS.out _ (below_chain HBM.out hcur0) | exact HKS.out _ (below_chain HBM.out hcur) | exact HKS.out _ (below_chain HBM.out (hcurA _)) | exact HKS.out _ (below_chain HBM.out hbw7) | exact HKS.out _ (below_chain HBM.out hbw8) | exact HKS.out _ (below_chain HBM.out hbw9) | exact HKS.out _ (below_chain HBM.out (more_below hbw7 _)) | exact HKS.out _ (below_chain HBM.out (more_below hbw8 _)) | exact HKS.out _ (below_chain HBM.out (more_below hbw9 _)) | exact HKS.out _ (below_chain HBM.out (setB_below hbw9 NB.hB _ _)))
      (first
        | (go_at_call 11; have hz8 := hbw8; clear hz8; refine (HADD.out _ _ _ ?_ ?_ ?_).mono ?_; (first | exact (HK.out _ (below_chain HBM.out hbw8)).errs | exact (HK.out _ (below_chain HBM.out (more_below hbw8 _))).errs); (first | exact HL7.out.later h78 | exact HL7.out.later (more_below h78 _)); (first | exact HL8.out | exact HL8.out.later (new_below _ _)); rintro e w9 ⟨rfl, hb9⟩; (first | (have hbw9 := below_chain hbw8 hb9; try have NB := NB.later hb9) | (have hbw9 := below_chain (more_below hbw8 _) hb9; have NB := newBoxL_of hbw8 hb9)); (try (have z0 := NB.c0; have z1 := NB.c1; have z2 := NB.f0; have z3 := NB.f1)); clear hb9)
        | (go_at_call 12; have hz7 := hbw7; clear hz7; refine (own_at db _ n2 p2 c2 _ ?_ hn2).mono ?_; (first | exact (HK.out _ (below_chain HBM.out hbw7)).log2 | exact (HK.out _ (below_chain HBM.out (more_below hbw7 _))).log2); rintro e w8 ⟨sv8, rfl, hs8, hb8⟩; (first | (have hbw8 := below_chain hbw7 hb8; have h78 := below_chain (Below.refl _ w7) hb8; try have NB := NB.later hb8) | (have hbw8 := below_chain (more_below hbw7 _) hb8; have h78 := below_chain (new_below w7 _) hb8; have NB := newBoxL_of hbw7 hb8)); obtain ⟨ad8, cap8, rfl, hl8⟩ := own_logAt hs8; have HL8 := Hid.mk' hl8; clear hs8 hb8 hl8)
        | (go_at_call 12; refine (own_at da _ n1 p1 c1 _ ?_ hn1).mono ?_; (first | exact (HK.out _ (below_chain HBM.out hcur)).log1 | exact (HK.out _ (below_chain HBM.out (hcurA _))).log1); rintro e w7 ⟨sv7, rfl, hs7, hb7⟩; (first | have hbw7 := below_chain hcur hb7 | (have hbw7 := below_chain (hcurA _) hb7; have NB := newBoxL_of hcur0 (below_chain ((Below.refl _ _).drew) hb7))); obtain ⟨ad7, cap7, rfl, hl7⟩ := own_logAt hs7; have HL7 := Hid.mk' hl7; clear hs7 hb7 hl7))
    all_goals
      go_wp2_with fail
      go_meet
      first | exact ⟨_, rfl, rfl, zeroBox_late hbw9⟩ | exact ⟨_, rfl, rfl, zeroBox_soon hbw9 NB⟩ | exact ⟨_, rfl, rfl, zeroBox_same hbw9 NB⟩
  case rest =>
  obtain ⟨Bs, rfl, rfl, HZB⟩ := hcut
  have s0 := HZB.out.c0
  have s1 := HZB.out.c1
  have nb := HNB0.out wc HZB.out.below
  have r0 := nb.c0
  have r1 := nb.c1
  have hbc := below_chain HBM.out HZB.out.below
  have his : Calls Tryz.prog 13 #[.agg #[.int .i64 0, .slice none 0 0], .iface 232 (.pointer (some (a 2))), .agg #[.int .i64 0, .slice none 0 0], .int .i64 3] _ _ := isLog_err a 2 (by decide) 0 none 0 0 wc (HK.out _ hbc).errs
  have HBC := Hid.mk' hbc
  clear hbc nb
  go_wp2_with fail
  refine his.mono ?_
  clear his
  rintro e w12 ⟨rfl, hb12⟩
  go_wp2_with fail
  go_ret
  exact ⟨rfl, (HK.out _ (below_chain HBC.out hb12)).below⟩

set_option maxRecDepth 100000 in
set_option maxHeartbeats 1000000 in
theorem LogsAdds_long (da db : Int) (ad1 ad2 : Option Addr) (n1 n2 cap1 cap2 : Nat) (w : World) (h1 : n1 ≤ maxLen) (h2 : n2 ≤ maxLen) (hl : 30 < n1 ∨ 30 < n2) :
    Calls Tryz.prog 3 #[.agg #[.int .i64 da, .slice ad1 n1 cap1], .agg #[.int .i64 db, .slice ad2 n2 cap2]] w fun e w' => e = .returned (.bool true) ∧ Below w.heap.size w w' := by
  have hb0 : Below w.heap.size w ((w.alloc (.cells #[.int .i64 da, .slice ad1 n1 cap1] 24)).alloc (.cells #[.int .i64 db, .slice ad2 n2 cap2] 24)) := more_below (new_below _ _) _
  have HC : Hid (∀ W, Below ((w.alloc (.cells #[.int .i64 da, .slice ad1 n1 cap1] 24)).alloc (.cells #[.int .i64 db, .slice ad2 n2 cap2] 24)).heap.size ((w.alloc (.cells #[.int .i64 da, .slice ad1 n1 cap1] 24)).alloc (.cells #[.int .i64 db, .slice ad2 n2 cap2] 24)) W → (W.cell? ⟨w.heap.size, 0, none⟩ = some (.int .i64 da) ∧ W.cell? ⟨w.heap.size, 1, none⟩ = some (.slice ad1 n1 cap1)) ∧ (W.cell? ⟨w.heap.size + 1, 0, none⟩ = some (.int .i64 db) ∧ W.cell? ⟨w.heap.size + 1, 1, none⟩ = some (.slice ad2 n2 cap2))) := fun W hb => by
    obtain ⟨q0, q1, _, _⟩ := res_past (below_chain (new_below (w.alloc (.cells #[.int .i64 da, .slice ad1 n1 cap1] 24)) (.cells #[.int .i64 db, .slice ad2 n2 cap2] 24)) hb)
    obtain ⟨q2, q3, _, _⟩ := res_past hb
    simp only [World.size_alloc] at q2 q3
    exact ⟨⟨q0, q1⟩, q2, q3⟩
  have hE := eighth_any ((w.alloc (.cells #[.int .i64 da, .slice ad1 n1 cap1] 24)).alloc (.cells #[.int .i64 db, .slice ad2 n2 cap2] 24))
  obtain ⟨W0, hW0⟩ : ∃ W0, W0 = (w.alloc (.cells #[.int .i64 da, .slice ad1 n1 cap1] 24)).alloc (.cells #[.int .i64 db, .slice ad2 n2 cap2] 24) := ⟨_, rfl⟩
  rw [← hW0] at hE HC hb0
  have HW0 := Hid.mk' hW0
  have HB0 := Hid.mk' hb0
  clear hW0 hb0
  by_cases hs : n1 ≤ 30
  · have hs2 : ¬ n2 ≤ 30 := by omega
    go_enter Tryz.func3, Tryz.ntmps3
    go_wp2_with fail
    rw [← HW0.out]
    refine hE.mono ?_
    clear hE
    rintro e w1 ⟨rfl, hb1⟩
    obtain ⟨⟨x0, x1⟩, _⟩ := HC.out w1 hb1
    have hsh := short_any da ad1 n1 cap1 true (by simpa using hs) h1 w1
    have HB1 := Hid.mk' hb1
    clear hb1
    go_wp2_with fail
    refine hsh.mono ?_
    clear hsh x0 x1
    rintro e w2 ⟨rfl, hb2⟩
    have HB2 := Hid.mk' (below_chain HB1.out hb2)
    obtain ⟨_, y0, y1⟩ := HC.out w2 HB2.out
    have hsh := short_any db ad2 n2 cap2 false (by simpa using hs2) h2 w2
    clear hb2
    go_wp2_with fail
    refine hsh.mono ?_
    clear hsh y0 y1
    rintro e w3 ⟨rfl, hb3⟩
    go_wp2_with fail
    go_ret
    exact ⟨rfl, below_chain HB0.out (below_chain HB2.out hb3)⟩
  · go_enter Tryz.func3, Tryz.ntmps3
    go_wp2_with fail
    rw [← HW0.out]
    refine hE.mono ?_
    clear hE
    rintro e w1 ⟨rfl, hb1⟩
    obtain ⟨⟨x0, x1⟩, _⟩ := HC.out w1 hb1
    have hsh := short_any da ad1 n1 cap1 false (by simpa using hs) h1 w1
    have HB1 := Hid.mk' hb1
    clear hb1
    go_wp2_with fail
    refine hsh.mono ?_
    clear hsh x0 x1
    rintro e w2 ⟨rfl, hb2⟩
    go_wp2_with fail
    go_ret
    exact ⟨rfl, below_chain HB0.out (below_chain HB1.out hb2)⟩
end Go.Proofs.YtiecbconcdncmabGreatDoor
