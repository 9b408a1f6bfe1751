/- A logarithm that is told of a sum: it is in form; its sign. -/
import Derived.Test.YtklhfagcembigaaGreatDoorPackA
import Derived.Test.YtklhfagcembigaaGreatDoorPackB
import Derived.OwnWalk
import Derived.Test.YtklhfagcembigaaGreatDoorValidWalk
import Derived.Test.YtklhfagcembigaaGreatDoorSame
namespace Go.Proofs.YtklhfagcembigaaGreatDoor
open Go.RowKit

theorem over_by {D : Nat} {l : List (Int × Int)} (hD : 0 < D) (hr : Rising l) : gList D (l.map Prod.snd) ∣ D ∧ 0 < gList D (l.map Prod.snd) ∧ (∀ x, atL l x = ((gList D (l.map Prod.snd) : Nat) : Int) * atL (overL (gList D (l.map Prod.snd)) l) x) ∧ Canon (D / gList D (l.map Prod.snd)) (overL (gList D (l.map Prod.snd)) l) := over_canon hD hr (gcdL_list hr)
/-- It speaks of primes alone, and in bounds. -/
structure Prim (f : Int → Int) : Prop where
  le : ∀ x, -1000000000 ≤ f x ∧ f x ≤ 1000000000
  pr : ∀ x, f x ≠ 0 → 2 ≤ x ∧ x ≤ 4096 ∧ Pr x.toNat
theorem rising_count {hi : Int} : ∀ (l : List (Int × Int)) (lo : Int), lo ≤ hi → Rising l → (∀ e ∈ l, lo < e.1 ∧ e.1 ≤ hi) → (l.length : Int) + lo ≤ hi
  | [], lo, h, _, _ => by simpa using h
  | e :: r, lo, _, hr, he => by
    have h1 := he e (by simp)
    have h2 := rising_count r e.1 h1.2 (List.pairwise_cons.1 hr).2 (fun f hf => ⟨(List.pairwise_cons.1 hr).1 f hf, (he f (by simp [hf])).2⟩)
    simp only [List.length_cons]
    omega
theorem LogBy.ok {base M : Nat} {f : Int → Int} {w : World} {dn : Int} {v : Value} (h : LogBy base M f w dn v) (hM : 1 ≤ M) (hM6 : M ≤ 1000000) (hf : Prim f) :
    ∃ (t : List (Int × Int)) (d G : Nat), dn = (d : Int) ∧ ListAt w v t ∧ t.length ≤ 4096 ∧ M = G * d ∧ 0 < G ∧ (∀ x, f x = (G : Int) * atL t x) ∧ OkLog d t.length (pOf t) (cOf t) := by
  obtain ⟨l, r, a, _, rfl, o⟩ := h.list
  obtain ⟨g1, g2, g3, g4⟩ := over_by hM r
  have hv : ∀ x, f x = ((gList M (l.map Prod.snd) : Nat) : Int) * atL (overL (gList M (l.map Prod.snd)) l) x := fun x => by rw [← a]; exact g3 x
  have hle := Nat.div_le_self M (gList M (l.map Prod.snd))
  have hone := g4.one
  have hpos := g4.pos
  have hsup : ∀ e ∈ overL (gList M (l.map Prod.snd)) l, 2 ≤ e.1 ∧ e.1 ≤ 4096 ∧ Pr e.1.toNat := fun e he => by
    have h1 := hv e.1
    rw [atL_mem g4.rise he] at h1
    have hne : f e.1 ≠ 0 := by
      rw [h1]
      exact Int.mul_ne_zero (by omega) (g4.nz e he)
    exact hf.pr e.1 hne
  have hcount := rising_count (hi := 4096) _ 1 (by omega) g4.rise (fun e he => by have := hsup e he; omega)
  refine ⟨_, M / gList M (l.map Prod.snd), gList M (l.map Prod.snd), rfl, o, by omega, (Nat.mul_div_cancel' g1).symm, g2, hv, okLog_list g4.rise (fun e he => ?_) (by omega) (by omega) ?_⟩
  · have h1 := hv e.1
    rw [atL_mem g4.rise he] at h1
    have hnz := g4.nz e he
    have hb := hf.le e.1
    obtain ⟨p1, p2, p3⟩ := hsup e he
    have habs : e.2.natAbs ≤ (f e.1).natAbs := by
      rw [h1, Int.natAbs_mul, Int.natAbs_natCast]
      exact Nat.le_mul_of_pos_left _ g2
    exact ⟨by omega, hnz, by omega, by omega, p1, p3⟩
  · rw [gcdTo_list _ _ _ (Nat.le_refl _), List.take_length, Int.natAbs_natCast]
    exact hone
/-- Its sides are as the sides of the sum. -/
theorem by_sides {d G U D : Nat} {t : List (Int × Int)} {f : Int → Int} (hok : OkLog d t.length (pOf t) (cOf t)) (hv : ∀ x, f x = (G : Int) * atL t x) (hU : 0 < U) (hD : 0 < D) (hm : ∀ q : Nat, Pr q → f (q : Int) = (mult q U : Int) - (mult q D : Int)) :
    sideUp (pOf t) (cOf t) 1 t.length ^ G * D = sideDown (pOf t) (cOf t) 1 t.length ^ G * U ∧ 0 < sideUp (pOf t) (cOf t) 1 t.length ∧ 0 < sideDown (pOf t) (cOf t) 1 t.length := by
  have h2 : Pr 2 := ⟨by omega, fun d hd hdd => by have := Nat.mul_le_mul hd hd; omega⟩
  obtain ⟨_, a1, a2⟩ := hok.side 1 h2
  refine ⟨eq_of_mult _ _ (Nat.mul_pos (Nat.pow_pos a1) hD) (Nat.mul_pos (Nat.pow_pos a2) hU) (fun q hq => ?_), a1, a2⟩
  have e1 := (hok.side 1 hq).1
  have e2 := hm q hq
  rw [hv] at e2
  rw [mult_mul hq _ _ (Nat.pow_pos a1) hD, mult_mul hq _ _ (Nat.pow_pos a2) hU, mult_power hq a1, mult_power hq a2]
  generalize mult q (sideUp (pOf t) (cOf t) 1 t.length) = A at *
  generalize mult q (sideDown (pOf t) (cOf t) 1 t.length) = B at *
  generalize mult q U = u at *
  generalize mult q D = e at *
  generalize atL t (q : Int) = z at *
  apply Int.ofNat_inj.1
  simp only [Int.natCast_add, Int.natCast_mul]
  have h3 : (A : Int) = B + z := by omega
  rw [h3]
  grind
theorem pow_order {a b G : Nat} (hG : 0 < G) : (a ^ G < b ^ G → a < b) ∧ (a ^ G = b ^ G → a = b) := by
  have h1 : a ^ G < b ^ G → a < b := fun h => by
    rcases Nat.lt_or_ge a b with h1 | h1
    · exact h1
    · have := Nat.pow_le_pow_left h1 G
      omega
  refine ⟨h1, fun h => ?_⟩
  rcases Nat.lt_or_ge a b with h2 | h2
  · have := Nat.pow_lt_pow_left h2 (Nat.pos_iff_ne_zero.1 hG)
    omega
  · rcases Nat.lt_or_ge b a with h3 | h3
    · have := Nat.pow_lt_pow_left h3 (Nat.pos_iff_ne_zero.1 hG)
      omega
    · omega
theorem by_cmp {su sd G U D : Nat} (h : su ^ G * D = sd ^ G * U) (hG : 0 < G) (h1 : 0 < su) (h2 : 0 < sd) (hU : 0 < U) : (D < U → cmpOf su sd = 1) ∧ (U = D → cmpOf su sd = 0) ∧ (U < D → cmpOf su sd = -1) := by
  obtain ⟨o1, o2, o3⟩ := sides_order h (Nat.pow_pos h1) (Nat.pow_pos h2)
  unfold cmpOf
  refine ⟨fun hl => ?_, fun he => ?_, fun hl => ?_⟩
  · have := (pow_order hG).1 (o2 hl)
    grind
  · have := (pow_order hG).2 (o3 he hU)
    grind
  · have := (pow_order hG).1 (o1 hl)
    grind
theorem listAt_log {W : World} {v : Value} {t : List (Int × Int)} (h : ListAt W v t) : LogAt W v t.length (pOf t) (cOf t) := by
  obtain ⟨ad, cap, rfl, hl⟩ := log_of_own h
  exact hl
/-- logs.Sign of what is told of a sum. -/
theorem Sign_by {base M : Nat} {f : Int → Int} {dn : Int} {v : Value} {U D : Nat} (a : Nat → Addr) (w : World) (hE : Errs w a) (h : LogBy base M f w dn v) (hM : 1 ≤ M) (hM6 : M ≤ 1000000) (hf : Prim f) (hU : 0 < U) (hD : 0 < D) (hm : ∀ q : Nat, Pr q → f (q : Int) = (mult q U : Int) - (mult q D : Int)) :
    Calls Tryz.prog 41 #[.agg #[.int .i64 dn, v]] w fun e w' => ((∃ z, e = .returned (.tuple #[.int .i64 z, .nilIface]) ∧ (D < U → z = 1) ∧ (U = D → z = 0) ∧ (U < D → z = -1)) ∨ e = .returned (.tuple #[.int .i64 0, powErr true false a])) ∧ Below w.heap.size w w' := by
  obtain ⟨t, d, G, rfl, hl, hn, _, hG, hv, hok⟩ := h.ok hM hM6 hf
  obtain ⟨s1, s2, s3⟩ := by_sides hok hv hU hD hm
  have hc := by_cmp s1 hG s2 s3 hU
  have hlog : LogAt w v t.length (pOf t) (cOf t) := listAt_log hl
  by_cases hfit : cost (pOf t) (cOf t) t.length ≤ 40000
  · refine (Sign_log d v t.length (pOf t) (cOf t) a true true (by simpa using hok) (by simpa using hfit) w hE hlog (by omega)).mono ?_
    rintro e w' ⟨rfl, hb⟩
    exact ⟨Or.inl ⟨_, rfl, hc⟩, hb⟩
  · refine (Sign_log d v t.length (pOf t) (cOf t) a true false (by simpa using hok) (by simpa using hfit) w hE hlog (by omega)).mono ?_
    rintro e w' ⟨rfl, hb⟩
    exact ⟨Or.inr rfl, hb⟩
end Go.Proofs.YtklhfagcembigaaGreatDoor

/- logs.Scale by -1 over 1. -/
namespace Go.Proofs.YtklhfagcembigaaGreatDoor
open Go.RowKit Go.Maps

set_option maxRecDepth 10000 in
set_option maxHeartbeats 1000000 in
theorem lowest_back (w : World) : Calls Tryz.prog 25 #[.int .i64 (-1), .int .i64 1] w fun e w' => e = .returned (.agg #[.int .i64 (-1), .int .i64 1]) ∧ Below w.heap.size w w' := by
  have hB0 : Below w.heap.size w (w.alloc (.cells #[.int .i64 0, .int .i64 0] 38)) := (Below.refl _ _).alloc (Nat.le_refl _) _
  have hg := GCD_any (-1) 1 (w.alloc (.cells #[.int .i64 0, .int .i64 0] 38)) (by omega) (by omega) (by omega) (by omega)
  rw [show ((Int.gcd (-1) 1 : Nat) : Int) = 1 from rfl] at hg
  have HB := Hid.mk' hB0
  clear hB0
  go_enter Tryz.func25, Tryz.ntmps25
  go_wp2_with fail
  refine hg.mono ?_
  clear hg
  rintro e w1 ⟨rfl, m, rfl⟩
  go_wp2_with fail
  go_region
  go_wp2_with fail
  refine bodyPost_ret (v := .agg #[.int .i64 (-1), .int .i64 1]) (by simp [results, Tryz.results25, go_sem]) rfl ⟨rfl, ?_⟩
  exact ((below_drewN HB.out _).setCell (by simp) _).setCell (by simp) _

theorem new_below2 (w : World) (X : Obj) : Below w.heap.size w (w.alloc X) := (Below.refl _ _).alloc (Nat.le_refl _) _
theorem ownsRow_later {w w' : World} {B e size n : Nat} {v : Value} {xs : List Value} (h : w.ownsRow B e size v n xs) (hb : Below w.heap.size w w') : w'.ownsRow B e size v n xs := by
  obtain ⟨hl, hr⟩ := h
  rcases hr with h | ⟨g, cap, cur, hv, hg, hh, r⟩
  · exact ⟨hl, Or.inl h⟩
  · exact ⟨hl, Or.inr ⟨g, cap, cur, hv, hg, by rw [hb.block g (heap_lt hh)]; exact hh, r⟩⟩
/-- What scaled's second loop keeps: the row lies at N, the answer's box at Bx. -/
structure InScale (w wr : World) (N Bx : Nat) (d : Int) (n : Nat) (p c : Nat → Int) (k : Nat) : Prop where
  below : Below N w wr
  lt : N < Bx
  o0 : wr.cell? ⟨Bx, 0, none⟩ = some (.int .i64 d)
  o1 : wr.cell? ⟨Bx, 1, none⟩ = some (.slice (some ⟨N, 0, none⟩) k n)
  f0 : wr.frozen? ⟨Bx, 0, none⟩ = false
  fz : wr.frozen? ⟨Bx, 1, none⟩ = false
  row : wr.ownsRow N 90 2 (.slice (some ⟨N, 0, none⟩) k n) k (termCells p (fun i => -c i) k)
theorem InScale.later {w wr wn : World} {N Bx : Nat} {d : Int} {n : Nat} {p c : Nat → Int} {k : Nat} (h : InScale w wr N Bx d n p c k) (hb : Below wr.heap.size wr wn) : InScale w wn N Bx d n p c k :=
  ⟨h.below.trans (hb.mono (by have := cell_lt h.o0; have := h.lt; simp only at *; omega)), h.lt, (cell_past h.o0 hb).2, (cell_past h.o1 hb).2, (frozen_past h.o0 h.f0 hb).2, (frozen_past h.o1 h.fz hb).2, ownsRow_later h.row hb⟩
theorem InScale.pushed {w wr w3 : World} {N Bx : Nat} {d : Int} {n : Nat} {p c : Nat → Int} {k : Nat} (h : InScale w wr N Bx d n p c k) (hg : wr.grownBy w3 (some N)) (hrow : w3.ownsRow N 90 2 (.slice (some ⟨N, 0, none⟩) (k + 1) n) (k + 1) (termCells p (fun i => -c i) k ++ [.int .i64 (p k), .int .i64 (-c k)])) :
    w3.cell? ⟨Bx, 1, none⟩ = some (.slice (some ⟨N, 0, none⟩) k n) ∧ w3.frozen? ⟨Bx, 1, none⟩ = false ∧ InScale w (w3.setCell ⟨Bx, 1, none⟩ (.slice (some ⟨N, 0, none⟩) (k + 1) n)) N Bx d n p c (k + 1) := by
  have hlt := cell_lt h.o0
  have hNB := h.lt
  simp only at hlt
  have c0 := cell_beside hg h.o0 (by omega)
  have c1 := cell_beside hg h.o1 (by omega)
  have hblk := hg.block Bx hlt (by simp; omega)
  have f0 : w3.frozen? ⟨Bx, 0, none⟩ = false := by rw [← h.f0]; simp [World.frozen?, hblk]
  have f1 : w3.frozen? ⟨Bx, 1, none⟩ = false := by rw [← h.fz]; simp [World.frozen?, hblk]
  refine ⟨c1, f1, ⟨(h.below.grown hg (by omega) (fun j e => by cases e; exact Nat.le_refl _)).setCell (by simp; omega) _, h.lt, ?_, World.cell?_setCell_same _ _ _ c1, by simpa using f0, by simpa using f1, ?_⟩⟩
  · rw [World.cell?_setCell_other _ _ _ _ (by simp)]; exact c0
  · obtain ⟨hl, hr⟩ := hrow
    refine ⟨hl, ?_⟩
    rcases hr with hr | ⟨gg, cap, cur, hv, hg1, hh, rest⟩
    · exact Or.inl hr
    · refine Or.inr ⟨gg, cap, cur, hv, hg1, ?_, rest⟩
      have : gg = N := by simp at hv; exact hv.1.symm
      rw [Below.heap_setCell _ _ _ _ (by show gg ≠ Bx; omega)]
      exact hh
theorem inScale_start {W W3 : World} {d : Int} {n : Nat} {p c : Nat → Int} (ho : W3.ownsRow W.heap.size 90 2 (.slice (some ⟨W.heap.size, 0, none⟩) 0 n) 0 []) (hg : W.grownBy W3 none) : InScale W (W3.alloc (.cells #[.int .i64 d, .slice (some ⟨W.heap.size, 0, none⟩) 0 n] 27)) W.heap.size W3.heap.size d n p c 0 := by
  have hlt : W.heap.size < W3.heap.size := by
    rcases ho.2 with ⟨h, _⟩ | ⟨g, cap, cur, hv, _, hh, _⟩
    · cases h
    · have : W.heap.size = g := by simp at hv; exact hv.1
      rw [this]; exact heap_lt hh
  refine ⟨((Below.refl _ _).grown hg (Nat.le_refl _) (fun j e => by cases e)).alloc (by omega) _, hlt, by rw [World.cell?_alloc_at _ _ _ _ rfl]; rfl, by rw [World.cell?_alloc_at _ _ _ _ rfl]; rfl, frozen_new rfl, frozen_new rfl, ownsRow_later ho (new_below2 _ _)⟩

theorem ownAt_slice {w : World} {v : Value} {n : Nat} {p c : Nat → Int} (h : OwnAt w v n p c) : ∃ ad m cap, v = .slice ad m cap := by
  rcases h with ⟨rfl, _⟩ | ⟨g, cap, rfl, _⟩
  · exact ⟨_, _, _, rfl⟩
  · exact ⟨_, _, _, rfl⟩
theorem OwnAt.set {w : World} {v : Value} {n : Nat} {p c : Nat → Int} {B : Nat} {ad : Option Addr} {l cap : Nat} {x y : Value} (h : OwnAt w v n p c) (hn : 0 < n) (hx : w.cell? ⟨B, 1, none⟩ = some (.slice ad l cap)) : OwnAt ((w.setCell ⟨B, 0, none⟩ x).setCell ⟨B, 1, none⟩ y) v n p c := by
  rcases h with h | ⟨g, cap', rfl, ht⟩
  · exact Or.inl h
  · have hne : B ≠ g := fun e => by
      have h1 := (ht 0 hn).2
      rw [← e] at h1
      simp only [Nat.zero_mul, Nat.zero_add] at h1
      rw [hx] at h1
      cases h1
    refine Or.inr ⟨g, cap', rfl, fun i hi => ⟨?_, ?_⟩⟩
    · rw [World.cell?_setCell_far _ _ _ _ hne, World.cell?_setCell_far _ _ _ _ hne]; exact (ht i hi).1
    · rw [World.cell?_setCell_far _ _ _ _ hne, World.cell?_setCell_far _ _ _ _ hne]; exact (ht i hi).2
theorem gcd_one_any (c : Int) : ((Int.gcd 1 c : Nat) : Int) = 1 := by simp [Int.gcd]
theorem gcd_back_any (c : Int) : ((Int.gcd (-1) c : Nat) : Int) = 1 := by simp [Int.gcd]

set_option maxRecDepth 100000 in
set_option maxHeartbeats 2000000 in
theorem scaled_back (d : Int) (ad : Option Addr) (n cap : Nat) (p c : Nat → Int) (w : World) (hl : LogAt w (.slice ad n cap) n p c) (hok : OkLog d n p c) (hn0 : 0 < n) (hn : n ≤ 10000) :
    Calls Tryz.prog 70 #[.agg #[.int .i64 d, .slice ad n cap], .agg #[.int .i64 (-1), .int .i64 1]] w fun e w' => ∃ v, e = .returned (.tuple #[.agg #[.int .i64 d, v], .nilIface]) ∧ OwnAt w' v n p (fun i => -c i) ∧ Below w.heap.size w w' := by
  have hb0 : Below w.heap.size w (((w.alloc (.cells #[.int .i64 d, .slice ad n cap] 27)).alloc (.cells #[.int .i64 (-1), .int .i64 1] 38)).alloc (.cells #[.int .i64 0, .slice none 0 0] 27)) := (((Below.refl _ _).alloc (Nat.le_refl _) _).alloc (by simp) _).alloc (by simp; omega) _
  have k0 : (((w.alloc (.cells #[.int .i64 d, .slice ad n cap] 27)).alloc (.cells #[.int .i64 (-1), .int .i64 1] 38)).alloc (.cells #[.int .i64 0, .slice none 0 0] 27)).cell? ⟨w.heap.size, 0, none⟩ = some (.int .i64 d) := by rw [World.cell?_alloc_lt _ _ ⟨w.heap.size, 0, none⟩ (by simp; omega), World.cell?_alloc_lt _ _ ⟨w.heap.size, 0, none⟩ (by simp), World.cell?_alloc_at _ _ _ _ rfl]; rfl
  have k1 : (((w.alloc (.cells #[.int .i64 d, .slice ad n cap] 27)).alloc (.cells #[.int .i64 (-1), .int .i64 1] 38)).alloc (.cells #[.int .i64 0, .slice none 0 0] 27)).cell? ⟨w.heap.size, 1, none⟩ = some (.slice ad n cap) := by rw [World.cell?_alloc_lt _ _ ⟨w.heap.size, 1, none⟩ (by simp; omega), World.cell?_alloc_lt _ _ ⟨w.heap.size, 1, none⟩ (by simp), World.cell?_alloc_at _ _ _ _ rfl]; rfl
  have k2 : (((w.alloc (.cells #[.int .i64 d, .slice ad n cap] 27)).alloc (.cells #[.int .i64 (-1), .int .i64 1] 38)).alloc (.cells #[.int .i64 0, .slice none 0 0] 27)).cell? ⟨w.heap.size + 1, 0, none⟩ = some (.int .i64 (-1)) := by rw [World.cell?_alloc_lt _ _ ⟨w.heap.size + 1, 0, none⟩ (by simp), World.cell?_alloc_at _ _ _ _ (by simp)]; rfl
  have k3 : (((w.alloc (.cells #[.int .i64 d, .slice ad n cap] 27)).alloc (.cells #[.int .i64 (-1), .int .i64 1] 38)).alloc (.cells #[.int .i64 0, .slice none 0 0] 27)).cell? ⟨w.heap.size + 1, 1, none⟩ = some (.int .i64 1) := by rw [World.cell?_alloc_lt _ _ ⟨w.heap.size + 1, 1, none⟩ (by simp), World.cell?_alloc_at _ _ _ _ (by simp)]; rfl
  have k4 : (((w.alloc (.cells #[.int .i64 d, .slice ad n cap] 27)).alloc (.cells #[.int .i64 (-1), .int .i64 1] 38)).alloc (.cells #[.int .i64 0, .slice none 0 0] 27)).cell? ⟨w.heap.size + 1 + 1, 0, none⟩ = some (.int .i64 0) := by rw [World.cell?_alloc_at _ _ _ _ (by simp)]; rfl
  have k5 : (((w.alloc (.cells #[.int .i64 d, .slice ad n cap] 27)).alloc (.cells #[.int .i64 (-1), .int .i64 1] 38)).alloc (.cells #[.int .i64 0, .slice none 0 0] 27)).cell? ⟨w.heap.size + 1 + 1, 1, none⟩ = some (.slice none 0 0) := by rw [World.cell?_alloc_at _ _ _ _ (by simp)]; rfl
  have k6 : ∀ j, (((w.alloc (.cells #[.int .i64 d, .slice ad n cap] 27)).alloc (.cells #[.int .i64 (-1), .int .i64 1] 38)).alloc (.cells #[.int .i64 0, .slice none 0 0] 27)).frozen? ⟨w.heap.size + 1 + 1, j, none⟩ = false := fun j => frozen_new (by simp)
  have hz0 : w.heap.size + 1 + 1 + 1 = (((w.alloc (.cells #[.int .i64 d, .slice ad n cap] 27)).alloc (.cells #[.int .i64 (-1), .int .i64 1] 38)).alloc (.cells #[.int .i64 0, .slice none 0 0] 27)).heap.size := by simp
  generalize hW : (((w.alloc (.cells #[.int .i64 d, .slice ad n cap] 27)).alloc (.cells #[.int .i64 (-1), .int .i64 1] 38)).alloc (.cells #[.int .i64 0, .slice none 0 0] 27)) = W0 at hb0 k0 k1 k2 k3 k4 k5 k6 hz0
  have hd1 : 1 ≤ d := hok.1
  have hd6 : d ≤ 1000000 := hok.2.1
  have hg := GCD_any (-1) d W0 (by omega) (by omega) (by omega) (by omega)
  rw [gcd_back_any] at hg
  have HW := Hid.mk' hW
  have HB0 := Hid.mk' hb0
  have HL := Hid.mk' (hl.later hb0)
  have HOK := Hid.mk' hok
  have HC : Hid (∀ W, Below W0.heap.size W0 W → (W.cell? ⟨w.heap.size, 0, none⟩ = some (.int .i64 d) ∧ W.cell? ⟨w.heap.size, 1, none⟩ = some (.slice ad n cap)) ∧ (W.cell? ⟨w.heap.size + 1, 0, none⟩ = some (.int .i64 (-1)) ∧ W.cell? ⟨w.heap.size + 1, 1, none⟩ = some (.int .i64 1)) ∧ (W.cell? ⟨w.heap.size + 1 + 1, 0, none⟩ = some (.int .i64 0) ∧ W.cell? ⟨w.heap.size + 1 + 1, 1, none⟩ = some (.slice none 0 0)) ∧ W.frozen? ⟨w.heap.size + 1 + 1, 0, none⟩ = false ∧ W.frozen? ⟨w.heap.size + 1 + 1, 1, none⟩ = false) := fun W hb => ⟨⟨(cell_past k0 hb).2, (cell_past k1 hb).2⟩, ⟨(cell_past k2 hb).2, (cell_past k3 hb).2⟩, ⟨(cell_past k4 hb).2, (cell_past k5 hb).2⟩, (frozen_past k4 (k6 0) hb).2, (frozen_past k5 (k6 1) hb).2⟩
  clear hl hok hb0 hW k4 k5 k6
  go_enter Tryz.func70, Tryz.ntmps70
  go_wp2_with fail
  rw [HW.out]
  refine hg.mono ?_
  clear hg k0 k1 k2 k3
  rintro e w1 ⟨rfl, m1, hw1⟩
  have hb1 : Below W0.heap.size W0 w1 := by rw [hw1]; exact below_drewN (Below.refl _ _) _
  clear hw1
  obtain ⟨⟨k0, k1⟩, ⟨k2, k3⟩, _⟩ := HC.out w1 hb1
  have HB1 := Hid.mk' hb1
  clear hb1
  go_wp2_with fail
  clear k0 k1 k2 k3
  go_loopw [7, 27] (fun s i wr => ∃ k : Nat, k ≤ n ∧ s = .int .i64 1 ∧ i = .int .i64 k ∧ Hid (Below W0.heap.size W0 wr)) (fun _ i _ => n - (intOf i).toNat)
  case atStart => exact ⟨0, by omega, rfl, rfl, HB1⟩
  case round =>
    clear HB1
    obtain ⟨k, hk, rfl, rfl, HB⟩ := hrel
    have hk0 : (0 : Int) ≤ (k : Int) := by omega
    by_cases hlt : k < n
    · have hkI : (k : Int) < (n : Int) := by omega
      obtain ⟨b, o, rfl, y0, y1⟩ := (HL.out.later HB.out).cellsAt hlt
      obtain ⟨_, _, hc0, hc1, _⟩ := (HOK.out.2.2.1 k hlt).2
      have hgc := GCD_any 1 (c k) (wr.alloc (.cells #[.int .i64 (p k), .int .i64 (c k)] 90)) (by omega) (by omega) (by omega) (by omega)
      rw [gcd_one_any] at hgc
      have hbA := HB.out.alloc HB.out.size (.cells #[.int .i64 (p k), .int .i64 (c k)] 90)
      have HBA := Hid.mk' hbA
      clear hbA
      go_wp2_with fail
      refine hgc.mono ?_
      clear hgc
      rintro e w2 ⟨rfl, m2, hw2⟩
      have hb2 : Below W0.heap.size W0 w2 := by rw [hw2]; exact below_drewN HBA.out _
      go_wp2_with fail
      exact ⟨⟨k + 1, by omega, rfl, by go_num, below_drewN HBA.out _⟩, by simp [intOf]; omega⟩
    · obtain rfl : k = n := by omega
      obtain ⟨⟨k0, k1⟩, ⟨k2, k3⟩, ⟨k4, k5⟩, _⟩ := HC.out wr HB.out
      go_wp2_with fail
      go_quiet (fail)
      go_wp2_with fail
      have hbq : Below W0.heap.size W0 (wr.drewN nq) := below_drewN HB.out _
      generalize wr.drewN nq = W2 at hbq ⊢
      refine (size_any (-1) W2 (by omega) (by omega)).mono ?_
      rintro e w5 ⟨rfl, hw5⟩
      rw [hw5]
      clear hw5 k0 k1 k2 k3 k4 k5
      rw [show (((-1 : Int)).natAbs : Int) = 1 from rfl]
      obtain ⟨⟨k0, k1⟩, ⟨k2, k3⟩, ⟨k4, k5⟩, _⟩ := HC.out W2 hbq
      obtain ⟨i0, hi, hz0', hz1, hz2⟩ := info_parts Tryz.infoTerm
      have HINF : Hid (Tryz.prog.info? 90 = some i0 ∧ i0.zero = some (.agg #[.int .i64 0, .int .i64 0]) ∧ i0.size = 2 ∧ i0.bytes = 16) := ⟨hi, hz0', hz1, hz2⟩
      clear hi hz0' hz1 hz2
      have HBQ := Hid.mk' hbq
      have HZ : Hid (∀ w6, W2.grownBy w6 none → Below W0.heap.size W0 w6) := fun w6 hg => hbq.grown hg hbq.size (fun j e => by cases e)
      clear hbq
      go_wp2_with (at_make; go_must (refine wpList_make_own _ rfl _ _ _ rfl W2.heap.size 90 i0 _ 2 Tryz.underlying25 HINF.out.1 HINF.out.2.1 HINF.out.2.2.1 _ _ _ k rfl rfl rfl (by rw [HINF.out.2.2.2]; omega) (by unfold maxLen; omega) (Nat.le_refl _) ?_; intro w6 hown hgrow; have HIS := Hid.mk' (inScale_start (d := d) (p := p) (c := c) hown hgrow); have z1 := fun X => (HC.out (w6.alloc X) ((HZ.out w6 hgrow).alloc (HZ.out w6 hgrow).size X)).1.2; clear hown hgrow))
      clear z1 k0 k1 k2 k3 k4 k5
      go_loopw [65] (fun i wr => ∃ j : Nat, j ≤ k ∧ i = .int .i64 j ∧ Hid (InScale W2 wr W2.heap.size w6.heap.size d k p c j)) (fun i _ => k - (intOf i).toNat)
      case atStart => exact ⟨0, by omega, rfl, HIS⟩
      case round =>
        clear HIS
        obtain ⟨j, hj, rfl, HO⟩ := hrel
        have hj0 : (0 : Int) ≤ (j : Int) := by omega
        have hbW := below_chain HBQ.out HO.out.below
        have HBW := Hid.mk' hbW
        by_cases hjk : j < k
        · have hjI : (j : Int) < (k : Int) := by omega
          obtain ⟨b, o, rfl, y0, y1⟩ := (HL.out.later hbW).cellsAt hjk
          obtain ⟨_, _, hc0, hc1, _⟩ := (HOK.out.2.2.1 j hjk).2
          have hcn : ((c j).natAbs : Int) ≤ 1099511627776 := by omega
          have x1 : ∀ X, (wr.alloc X).cell? ⟨w6.heap.size, 1, none⟩ = some (.slice (some ⟨W2.heap.size, 0, none⟩) j k) := fun X => (cell_past HO.out.o1 (new_below2 _ X)).2
          have x2 : ∀ X Y, ((wr.alloc X).alloc Y).cell? ⟨w6.heap.size, 1, none⟩ = some (.slice (some ⟨W2.heap.size, 0, none⟩) j k) := fun X Y => (cell_past (x1 X) (new_below2 _ Y)).2
          have HLAT : Hid (∀ X Y, InScale W2 ((wr.alloc X).alloc Y) W2.heap.size w6.heap.size d k p c j) := fun X Y => (HO.out.later (new_below2 _ X)).later (new_below2 _ Y)
          have hsz := fun W => size_any (c j) W (by omega) (by omega)
          clear hbW
          go_wp2_with (first
            | (go_at_call 77; refine (hsz _).mono ?_; rintro e w8 ⟨rfl, hw8⟩; rw [hw8]; clear hw8)
            | (at_builtin; go_must (refine wpList_append_fits _ rfl _ _ _ rfl W2.heap.size 90 i0 2 Tryz.underlying25 HINF.out.1 HINF.out.2.2.1 W2.heap.size j k _ rfl (HLAT.out _ _).row ⟨wr.heap.size + 1, 0, none⟩ 1 1 [.int .i64 (p j), .int .i64 (-c j)] rfl rfl (fun q u h => by have := two_new (wr.alloc (.cells #[.int .i64 (p j), .int .i64 (c j)] 90)) (.int .i64 (p j)) (.int .i64 (-c j)) 90 q u h; simpa using this) (by simp [Value.oneCell']) (by omega) ?_; intro w7 hown hgrow; obtain ⟨q1, q2, HPU⟩ := (HLAT.out _ _).pushed hgrow hown; have HP := Hid.mk' HPU; clear hown hgrow HPU)))
          exact ⟨⟨j + 1, by omega, by go_num, HP⟩, by simp [intOf]; omega⟩
        · obtain rfl : j = k := by omega
          have y0 := HO.out.o0
          have y1 := HO.out.o1
          obtain ⟨_, _, ⟨k4, k5⟩, f4, f5⟩ := HC.out wr hbW
          have hq := HBQ.out.size
          clear hbW
          go_wp2_with fail
          refine bodyPost_ret (v := .tuple #[.agg #[.int .i64 d, .slice (some ⟨W2.heap.size, 0, none⟩) j j], .nilIface]) (by simp [results, Tryz.results70, go_sem, k4, k5]) rfl ⟨.slice (some ⟨W2.heap.size, 0, none⟩) j j, rfl, ?_, ?_⟩
          · have h1 := ownsRow_setCell_below HO.out.row (a := ⟨w.heap.size + 1 + 1, 0, none⟩) (by show w.heap.size + 1 + 1 < _; omega) (.int .i64 d)
            have h2 := ownsRow_setCell_below h1 (a := ⟨w.heap.size + 1 + 1, 1, none⟩) (by show w.heap.size + 1 + 1 < _; omega) (.slice (some ⟨W2.heap.size, 0, none⟩) j j)
            exact ownAt_of_row h2
          · exact ((below_chain HB0.out HBW.out).setCell (by simp; omega) _).setCell (by simp; omega) _

set_option maxRecDepth 100000 in
set_option maxHeartbeats 2000000 in
/-- Scale by -1 over 1: the opposite. -/
theorem Scale_back (d : Int) (sv : Value) (n : Nat) (p c : Nat → Int) (a : Nat → Addr) (w : World) (h : Errs w a) (hl : LogAt w sv n p c) (hok : OkLog d n p c) (hn : n ≤ 10000) :
    Calls Tryz.prog 39 #[.agg #[.int .i64 d, sv], .agg #[.int .i64 (-1), .int .i64 1]] w fun e w' => ∃ v, e = .returned (.tuple #[.agg #[.int .i64 d, v], .nilIface]) ∧ OwnAt w' v n p (fun i => -c i) ∧ Below w.heap.size w w' := by
  obtain ⟨ad, cap, rfl⟩ := hl.slice
  have hb0 : Below w.heap.size w (((w.alloc (.cells #[.int .i64 d, .slice ad n cap] 27)).alloc (.cells #[.int .i64 (-1), .int .i64 1] 38)).alloc (.cells #[.int .i64 0, .slice none 0 0] 27)) := (((Below.refl _ _).alloc (Nat.le_refl _) _).alloc (by simp) _).alloc (by simp; omega) _
  have k0 : (((w.alloc (.cells #[.int .i64 d, .slice ad n cap] 27)).alloc (.cells #[.int .i64 (-1), .int .i64 1] 38)).alloc (.cells #[.int .i64 0, .slice none 0 0] 27)).cell? ⟨w.heap.size, 0, none⟩ = some (.int .i64 d) := by rw [World.cell?_alloc_lt _ _ ⟨w.heap.size, 0, none⟩ (by simp; omega), World.cell?_alloc_lt _ _ ⟨w.heap.size, 0, none⟩ (by simp), World.cell?_alloc_at _ _ _ _ rfl]; rfl
  have k1 : (((w.alloc (.cells #[.int .i64 d, .slice ad n cap] 27)).alloc (.cells #[.int .i64 (-1), .int .i64 1] 38)).alloc (.cells #[.int .i64 0, .slice none 0 0] 27)).cell? ⟨w.heap.size, 1, none⟩ = some (.slice ad n cap) := by rw [World.cell?_alloc_lt _ _ ⟨w.heap.size, 1, none⟩ (by simp; omega), World.cell?_alloc_lt _ _ ⟨w.heap.size, 1, none⟩ (by simp), World.cell?_alloc_at _ _ _ _ rfl]; rfl
  have k2 : (((w.alloc (.cells #[.int .i64 d, .slice ad n cap] 27)).alloc (.cells #[.int .i64 (-1), .int .i64 1] 38)).alloc (.cells #[.int .i64 0, .slice none 0 0] 27)).cell? ⟨w.heap.size + 1, 0, none⟩ = some (.int .i64 (-1)) := by rw [World.cell?_alloc_lt _ _ ⟨w.heap.size + 1, 0, none⟩ (by simp), World.cell?_alloc_at _ _ _ _ (by simp)]; rfl
  have k3 : (((w.alloc (.cells #[.int .i64 d, .slice ad n cap] 27)).alloc (.cells #[.int .i64 (-1), .int .i64 1] 38)).alloc (.cells #[.int .i64 0, .slice none 0 0] 27)).cell? ⟨w.heap.size + 1, 1, none⟩ = some (.int .i64 1) := by rw [World.cell?_alloc_lt _ _ ⟨w.heap.size + 1, 1, none⟩ (by simp), World.cell?_alloc_at _ _ _ _ (by simp)]; rfl
  have k4 : (((w.alloc (.cells #[.int .i64 d, .slice ad n cap] 27)).alloc (.cells #[.int .i64 (-1), .int .i64 1] 38)).alloc (.cells #[.int .i64 0, .slice none 0 0] 27)).cell? ⟨w.heap.size + 1 + 1, 0, none⟩ = some (.int .i64 0) := by rw [World.cell?_alloc_at _ _ _ _ (by simp)]; rfl
  have k5 : (((w.alloc (.cells #[.int .i64 d, .slice ad n cap] 27)).alloc (.cells #[.int .i64 (-1), .int .i64 1] 38)).alloc (.cells #[.int .i64 0, .slice none 0 0] 27)).cell? ⟨w.heap.size + 1 + 1, 1, none⟩ = some (.slice none 0 0) := by rw [World.cell?_alloc_at _ _ _ _ (by simp)]; rfl
  have k6 : ∀ j, (((w.alloc (.cells #[.int .i64 d, .slice ad n cap] 27)).alloc (.cells #[.int .i64 (-1), .int .i64 1] 38)).alloc (.cells #[.int .i64 0, .slice none 0 0] 27)).frozen? ⟨w.heap.size + 1 + 1, j, none⟩ = false := fun j => frozen_new (by simp)
  have hz0 : w.heap.size + 1 + 1 + 1 = (((w.alloc (.cells #[.int .i64 d, .slice ad n cap] 27)).alloc (.cells #[.int .i64 (-1), .int .i64 1] 38)).alloc (.cells #[.int .i64 0, .slice none 0 0] 27)).heap.size := by simp
  generalize hW : (((w.alloc (.cells #[.int .i64 d, .slice ad n cap] 27)).alloc (.cells #[.int .i64 (-1), .int .i64 1] 38)).alloc (.cells #[.int .i64 0, .slice none 0 0] 27)) = W0 at hb0 k0 k1 k2 k3 k4 k5 k6 hz0
  have hv := Valid_log d _ n p c a true ⟨fun _ => hok, fun _ => rfl⟩ W0 (h.below hb0) (hl.later hb0) (by omega)
  simp only [shapeErr] at hv
  have HW := Hid.mk' hW
  have HB0 := Hid.mk' hb0
  have HL := Hid.mk' (hl.later hb0)
  have HOK := Hid.mk' hok
  have HC : Hid (∀ W, Below (w.heap.size + 1 + 1) W0 W → (W.cell? ⟨w.heap.size, 0, none⟩ = some (.int .i64 d) ∧ W.cell? ⟨w.heap.size, 1, none⟩ = some (.slice ad n cap)) ∧ (W.cell? ⟨w.heap.size + 1, 0, none⟩ = some (.int .i64 (-1)) ∧ W.cell? ⟨w.heap.size + 1, 1, none⟩ = some (.int .i64 1))) := fun W hb => by
    have ha : ∀ j v, W0.cell? ⟨w.heap.size, j, none⟩ = some v → W.cell? ⟨w.heap.size, j, none⟩ = some v := fun j v h => by rw [hb.cell (p := ⟨w.heap.size, j, none⟩) (by show w.heap.size < _; omega)]; exact h
    have hb' : ∀ j v, W0.cell? ⟨w.heap.size + 1, j, none⟩ = some v → W.cell? ⟨w.heap.size + 1, j, none⟩ = some v := fun j v h => by rw [hb.cell (p := ⟨w.heap.size + 1, j, none⟩) (by show w.heap.size + 1 < _; omega)]; exact h
    exact ⟨⟨ha 0 _ k0, ha 1 _ k1⟩, ⟨hb' 0 _ k2, hb' 1 _ k3⟩⟩
  have HR : Hid (∀ W, Below W0.heap.size W0 W → (W.cell? ⟨w.heap.size + 1 + 1, 0, none⟩ = some (.int .i64 0) ∧ W.cell? ⟨w.heap.size + 1 + 1, 1, none⟩ = some (.slice none 0 0)) ∧ W.frozen? ⟨w.heap.size + 1 + 1, 0, none⟩ = false ∧ W.frozen? ⟨w.heap.size + 1 + 1, 1, none⟩ = false) := fun W hb => ⟨⟨(cell_past k4 hb).2, (cell_past k5 hb).2⟩, (frozen_past k4 (k6 0) hb).2, (frozen_past k5 (k6 1) hb).2⟩
  clear h hl hok hb0 hW k2 k3 k4 k5 k6
  go_enter Tryz.func39, Tryz.ntmps39
  go_wp2_with fail
  rw [HW.out]
  refine hv.mono ?_
  clear hv k0 k1
  rintro e w1 ⟨rfl, hb1⟩
  have hb1m : Below (w.heap.size + 1 + 1) W0 w1 := hb1.mono (by omega)
  obtain ⟨⟨k0, k1⟩, ⟨k2, k3⟩⟩ := HC.out w1 hb1m
  obtain ⟨⟨r0, r1⟩, f0, f1⟩ := HR.out w1 hb1
  have HB1 := Hid.mk' hb1
  rcases Nat.eq_zero_or_pos n with h0 | hpos
  · have hd : d = 1 := by have := HOK.out; rw [h0] at this; exact (OkLog_none d p c).1 this
    subst hd
    subst h0
    clear hb1 hb1m
    go_wp2_with fail
    refine bodyPost_ret (v := .tuple #[.agg #[.int .i64 1, .slice none 0 0], .nilIface]) (by simp [results, Tryz.results39, go_sem, r0, r1]) rfl ⟨.slice none 0 0, rfl, Or.inl ⟨rfl, rfl⟩, ((below_chain HB0.out HB1.out).setCell (by simp; omega) _).setCell (by simp; omega) _⟩
  · have hnz : ((n : Int) == 0) = false := by rw [beq_eq_false_iff_ne]; omega
    have hlow := lowest_back w1.drew
    have HLOW := Hid.mk' hlow
    have hc0 : Below (w.heap.size + 1 + 1) W0 w1 := hb1m
    have hcd : Below (w.heap.size + 1 + 1) W0 w1.drew := hb1m.drew
    clear hlow hb1 hb1m
    go_wp2_with fail
    go_region_held3 (fun W => (W.cell? ⟨w.heap.size, 0, none⟩ = some (.int .i64 d) ∧ W.cell? ⟨w.heap.size, 1, none⟩ = some (.slice ad n cap)) ∧ (W.cell? ⟨w.heap.size + 1, 0, none⟩ = some (.int .i64 (-1)) ∧ W.cell? ⟨w.heap.size + 1, 1, none⟩ = some (.int .i64 1)))
      (first | exact HC.out _ hc0 | exact HC.out _ hcd | exact HC.out _ hc2 | exact HC.out _ hc3 | exact HC.out _ ((hc3.setCell (Nat.le_refl _) _).setCell (Nat.le_refl _) _))
      (first
        | (go_at_call 70; refine (scaled_back d ad n cap p c w2 (HL.out.later HBW2.out) HOK.out hpos hn).mono ?_; rintro e w3 ⟨v, rfl, hv, hb3⟩; have hbw3 := below_chain HBW2.out hb3; have hc3 : Below (w.heap.size + 1 + 1) W0 w3 := hbw3.mono (by omega); obtain ⟨ad3, m3, cap3, rfl⟩ := ownAt_slice hv; obtain ⟨⟨x0, x1⟩, g0, g1⟩ := HR.out w3 hbw3; have HV := Hid.mk' hv; have HBW3 := Hid.mk' hbw3; clear hv hb3 hbw3)
        | (go_at_call 25; refine HLOW.out.mono ?_; rintro e w2 ⟨rfl, hb2⟩; have hbw2 := below_chain HB1.out.drew hb2; have hc2 : Below (w.heap.size + 1 + 1) W0 w2 := hbw2.mono (by omega); have HBW2 := Hid.mk' hbw2; clear hb2 hbw2))
    go_wp2_with fail
    refine bodyPost_ret (v := .tuple #[.agg #[.int .i64 d, .slice ad3 m3 cap3], .nilIface]) (by simp [results, Tryz.results39, go_sem, x0, x1]) rfl ⟨.slice ad3 m3 cap3, rfl, ?_, ((below_chain HB0.out HBW3.out).setCell (by simp; omega) _).setCell (by simp; omega) _⟩
    exact HV.out.set hpos x1
end Go.Proofs.YtklhfagcembigaaGreatDoor

/- logs.Add by forms. -/
namespace Go.Proofs.YtklhfagcembigaaGreatDoor
open Go.RowKit Go.Maps

/-- A form of the sum of two. -/
structure SumIs (da db : Nat) (t1 t2 : List (Int × Int)) (d : Nat) (t : List (Int × Int)) : Prop where
  can : Canon d t
  val : ∀ x, atL t x * ((da : Int) * (db : Int)) = (atL t1 x * (db : Int) + atL t2 x * (da : Int)) * (d : Int)
  len : t.length ≤ t1.length + t2.length
/-- The sum of two is in form. -/
def SumOk (da db : Int) (t1 t2 : List (Int × Int)) (d : Nat) (t : List (Int × Int)) : Prop := OkLog da t1.length (pOf t1) (cOf t1) ∧ OkLog db t2.length (pOf t2) (cOf t2) ∧ SumIs da.toNat db.toNat t1 t2 d t ∧ d ≤ 1000000 ∧ ∀ e ∈ t, e.2.natAbs ≤ 1099511627776
theorem SumOk.ok {da db : Int} {t1 t2 : List (Int × Int)} {d : Nat} {t : List (Int × Int)} (h : SumOk da db t1 t2 d t) : OkLog d t.length (pOf t) (cOf t) := by
  obtain ⟨h1, h2, h3, h4, h5⟩ := h
  have hp := h3.can.pos
  refine okLog_list h3.can.rise (fun e he => ?_) (by omega) (by omega) ?_
  · have hv := h3.val e.1
    rw [atL_mem h3.can.rise he] at hv
    have hnz := h3.can.nz e he
    have hb := h5 e he
    have hda : 0 < da.toNat := by have := h1.1; omega
    have hdb : 0 < db.toNat := by have := h2.1; omega
    have hpr : TermOk e.1 e.2 ∨ (atL t1 e.1 = 0 ∧ atL t2 e.1 = 0) := by
      by_cases q1 : atL t1 e.1 = 0
      · by_cases q2 : atL t2 e.1 = 0
        · exact Or.inr ⟨q1, q2⟩
        · have := h2.mem _ (atL_some q2)
          exact Or.inl ⟨this.1, hnz, by omega, by omega, this.2.2.2.2.1, this.2.2.2.2.2⟩
      · have := h1.mem _ (atL_some q1)
        exact Or.inl ⟨this.1, hnz, by omega, by omega, this.2.2.2.2.1, this.2.2.2.2.2⟩
    rcases hpr with h | ⟨q1, q2⟩
    · exact h
    · rw [q1, q2] at hv
      exfalso
      have h6 : e.2 * ((da.toNat : Int) * (db.toNat : Int)) = 0 := by rw [hv]; simp
      rcases Int.mul_eq_zero.1 h6 with h7 | h7
      · exact hnz h7
      · rcases Int.mul_eq_zero.1 h7 with h8 | h8 <;> omega
  · rw [gcdTo_list _ _ _ (Nat.le_refl _), List.take_length, Int.natAbs_natCast]
    exact h3.can.one
theorem SumOk.uniq {da db : Int} {t1 t2 : List (Int × Int)} {d d' : Nat} {t t' : List (Int × Int)} (h : SumOk da db t1 t2 d t) (h' : SumOk da db t1 t2 d' t') : d = d' ∧ t = t' := by
  have hda : 0 < da.toNat := by have := h.1.1; omega
  have hdb : 0 < db.toNat := by have := h.2.1.1; omega
  refine canon_uniq h.2.2.1.can h'.2.2.1.can (fun x => ?_)
  have h1 := h.2.2.1.val x
  have h2 := h'.2.2.1.val x
  have hp : ((da.toNat : Int) * (db.toNat : Int)) ≠ 0 := by
    intro h0
    rcases Int.mul_eq_zero.1 h0 with h3 | h3 <;> omega
  refine Int.eq_of_mul_eq_mul_right hp ?_
  generalize (da.toNat : Int) * (db.toNat : Int) = M at *
  grind
theorem SumOk.comm {da db : Int} {t1 t2 : List (Int × Int)} {d : Nat} {t : List (Int × Int)} (h : SumOk da db t1 t2 d t) : SumOk db da t2 t1 d t :=
  ⟨h.2.1, h.1, ⟨h.2.2.1.can, fun x => by rw [Int.mul_comm (db.toNat : Int), h.2.2.1.val x, Int.add_comm], by have := h.2.2.1.len; omega⟩, h.2.2.2⟩
/-- In any brackets. -/
theorem SumOk.assoc {da db dc : Int} {ta tb tc tx tp tq tr : List (Int × Int)} {dx dp dq dr : Nat} (h1 : SumOk da db ta tb dx tx) (h2 : SumOk dx dc tx tc dp tp) (h3 : SumOk db dc tb tc dq tq) (h4 : SumOk da dq ta tq dr tr) : dp = dr ∧ tp = tr := by
  refine canon_uniq h2.2.2.1.can h4.2.2.1.can (fun x => ?_)
  have e1 := h1.2.2.1.val x
  have e2 := h2.2.2.1.val x
  have e3 := h3.2.2.1.val x
  have e4 := h4.2.2.1.val x
  have pa : (da.toNat : Int) ≠ 0 := by have := h1.1.1; omega
  have pb : (db.toNat : Int) ≠ 0 := by have := h1.2.1.1; omega
  have pc : (dc.toNat : Int) ≠ 0 := by have := h2.2.1.1; omega
  have px : (dx : Int) ≠ 0 := by have := h1.2.2.1.can.pos; omega
  have pq : (dq : Int) ≠ 0 := by have := h3.2.2.1.can.pos; omega
  rw [Int.toNat_natCast] at e2 e4
  generalize (da.toNat : Int) = A at *
  generalize (db.toNat : Int) = B at *
  generalize (dc.toNat : Int) = C at *
  generalize (dx : Int) = X at *
  generalize (dp : Int) = P at *
  generalize (dq : Int) = Q at *
  generalize (dr : Int) = R at *
  generalize atL tx x = x' at *
  generalize atL tp x = p' at *
  generalize atL tq x = q' at *
  generalize atL tr x = r' at *
  generalize atL ta x = a' at *
  generalize atL tb x = b' at *
  generalize atL tc x = c' at *
  have f1 : p' * (A * B * C) * X = (a' * B * C + b' * A * C + c' * A * B) * P * X := by grind
  have f2 : r' * (A * B * C) * Q = (a' * B * C + b' * A * C + c' * A * B) * R * Q := by grind
  have f3 := Int.eq_of_mul_eq_mul_right px f1
  have f4 := Int.eq_of_mul_eq_mul_right pq f2
  have hM : A * B * C ≠ 0 := by
    intro h0
    rcases Int.mul_eq_zero.1 h0 with h5 | h5
    · rcases Int.mul_eq_zero.1 h5 with h6 | h6
      · exact pa h6
      · exact pb h6
    · exact pc h5
  refine Int.eq_of_mul_eq_mul_right hM ?_
  generalize A * B * C = M at *
  generalize a' * B * C + b' * A * C + c' * A * B = S at *
  calc p' * R * M = p' * M * R := by rw [Int.mul_right_comm]
    _ = S * P * R := by rw [f3]
    _ = S * R * P := by rw [Int.mul_right_comm]
    _ = r' * M * P := by rw [f4]
    _ = r' * P * M := by rw [Int.mul_right_comm]

/-- Add, by forms. -/
theorem Add_all (da db : Int) (v1 v2 : Value) (t1 t2 : List (Int × Int)) (a : Nat → Addr) (w : World) (h : Errs w a) (hl1 : LogAt w v1 t1.length (pOf t1) (cOf t1)) (hl2 : LogAt w v2 t2.length (pOf t2) (cOf t2)) (hn : t1.length + t2.length ≤ 10000) :
    Calls Tryz.prog 40 #[.agg #[.int .i64 da, v1], .agg #[.int .i64 db, v2]] w fun e w' => ((∃ d t v, SumOk da db t1 t2 d t ∧ e = .returned (.tuple #[.agg #[.int .i64 (d : Nat), v], .nilIface]) ∧ ListAt w' v t) ∨ ((∀ d t, ¬ SumOk da db t1 t2 d t) ∧ ∃ ad, e = .returned (.tuple #[.agg #[.int .i64 0, .slice none 0 0], .iface 183 (.pointer (some ad))]))) ∧ Below w.heap.size w w' := by
  by_cases hok : OkLog da t1.length (pOf t1) (cOf t1) ∧ OkLog db t2.length (pOf t2) (cOf t2)
  · obtain ⟨hok1, hok2⟩ := hok
    obtain ⟨na, rfl⟩ := Int.eq_ofNat_of_zero_le (show 0 ≤ da by have := hok1.1; omega)
    obtain ⟨nb, rfl⟩ := Int.eq_ofNat_of_zero_le (show 0 ≤ db by have := hok2.1; omega)
    have pa : 0 < na := by have := hok1.1; omega
    have pb : 0 < nb := by have := hok2.1; omega
    obtain ⟨ad1, cap1, rfl⟩ := hl1.slice
    obtain ⟨ad2, cap2, rfl⟩ := hl2.slice
    refine (Add_any na nb ad1 ad2 cap1 cap2 t1 t2 a w h hl1 hl2 hok1 hok2 hn _ rfl).mono ?_
    rintro e w' ⟨⟨l, G, hr, hv, hG, hlen, hres⟩, hb⟩
    obtain ⟨s1, s2, s3, s4⟩ := sum_value rfl pa pb hr hv hG
    have hs : SumIs na nb t1 t2 (na / Int.gcd (na : Int) (nb : Int) * nb / G) (overL G l) := ⟨s1, s3, Nat.le_trans (length_over l G) hlen⟩
    refine ⟨?_, hb⟩
    rcases hres with ⟨hf, v, rfl, hlist⟩ | ⟨hf, rfl⟩
    · refine Or.inl ⟨_, _, v, ⟨hok1, hok2, by simpa using hs, s4.1 hf⟩, by rw [s2], hlist⟩
    · refine Or.inr ⟨fun d t hso => hf (s4.2 ?_), a 1, rfl⟩
      have hs' : SumIs (na : Int).toNat (nb : Int).toNat t1 t2 _ _ := hso.2.2.1
      rw [Int.toNat_natCast, Int.toNat_natCast] at hs'
      obtain ⟨u1, u2⟩ := canon_uniq hs.can hs'.can (fun x => by
        have q1 := hs.val x
        have q2 := hs'.val x
        have hp : ((na : Int) * (nb : Int)) ≠ 0 := by
          intro h0
          rcases Int.mul_eq_zero.1 h0 with h3 | h3 <;> omega
        refine Int.eq_of_mul_eq_mul_right hp ?_
        generalize (na : Int) * (nb : Int) = M at *
        grind)
      rw [u1, u2]
      exact hso.2.2.2
  · refine (Add_shape da db v1 v2 _ _ _ _ _ _ a w h hl1 hl2 (by omega) (by omega) hok).mono ?_
    rintro e w' ⟨rfl, hb⟩
    exact ⟨Or.inr ⟨fun d t hso => hok ⟨hso.1, hso.2.1⟩, a 2, rfl⟩, hb⟩
end Go.Proofs.YtklhfagcembigaaGreatDoor

/- The law's helper sign, of two that are told of sums. -/
namespace Go.Proofs.YtklhfagcembigaaGreatDoor
open Go.RowKit

theorem okTo_neg {p c : Nat → Int} : ∀ k, OkTo p c k → OkTo p (fun i => -c i) k := by
  intro k h i hi
  obtain ⟨h1, h2, h3, h4, h5, h6, h7⟩ := h i hi
  exact ⟨h1, h2, by show -c i ≠ 0; omega, by show _ ≤ -c i; omega, by show -c i ≤ _; omega, h6, h7⟩
theorem gcdTo_neg (d : Int) (c : Nat → Int) : ∀ k, gcdTo d (fun i => -c i) k = gcdTo d c k
  | 0 => rfl
  | k + 1 => by
    show Int.gcd (gcdTo d (fun i => -c i) k : Int) (-c k) = Int.gcd (gcdTo d c k : Int) (c k)
    rw [gcdTo_neg d c k, Int.gcd_neg]
theorem okLog_neg {d : Int} {n : Nat} {p c : Nat → Int} (h : OkLog d n p c) : OkLog d n p (fun i => -c i) :=
  ⟨h.1, h.2.1, okTo_neg n h.2.2.1, by rw [gcdTo_neg]; exact h.2.2.2⟩
def negL (t : List (Int × Int)) : List (Int × Int) := t.map fun e => (e.1, -e.2)
theorem negL_parts (t : List (Int × Int)) : pOf (negL t) = pOf t ∧ cOf (negL t) = (fun i => -cOf t i) ∧ (negL t).length = t.length := by
  refine ⟨?_, ?_, by simp [negL]⟩
  · funext i
    unfold pOf negL
    simp only [List.getD_eq_getElem?_getD, List.getElem?_map]
    cases t[i]? <;> rfl
  · funext i
    unfold cOf negL
    simp only [List.getD_eq_getElem?_getD, List.getElem?_map]
    cases t[i]? <;> rfl
theorem negL_at : ∀ (t : List (Int × Int)) (x : Int), atL (negL t) x = -atL t x
  | [], _ => rfl
  | e :: r, x => by
    have ih := negL_at r x
    unfold negL at ih ⊢
    simp only [List.map_cons, atL]
    rw [ih]
    split <;> simp
theorem ownAt_put {w : World} {v : Value} {n : Nat} {p c : Nat → Int} {B : Nat} {ad : Option Addr} {l cap : Nat} {x y : Value} (h : OwnAt w v n p c) (hx : w.cell? ⟨B, 1, none⟩ = some (.slice ad l cap)) : OwnAt ((w.setCell ⟨B, 0, none⟩ x).setCell ⟨B, 1, none⟩ y) v n p c := by
  rcases Nat.eq_zero_or_pos n with h0 | h0
  · subst h0
    rcases h with h | ⟨g, cap, hv, _⟩
    · exact Or.inl h
    · exact Or.inr ⟨g, cap, hv, fun i hi => by omega⟩
  · exact h.set h0 hx
/-- The sides of a difference. -/
theorem by_sides2 {d M U D : Nat} {t : List (Int × Int)} {F : Int → Int} (hok : OkLog d t.length (pOf t) (cOf t)) (hv : ∀ x, (M : Int) * atL t x = (d : Int) * F x) (hU : 0 < U) (hD : 0 < D) (hm : ∀ q : Nat, Pr q → F (q : Int) = (mult q U : Int) - (mult q D : Int)) :
    sideUp (pOf t) (cOf t) 1 t.length ^ M * D ^ d = sideDown (pOf t) (cOf t) 1 t.length ^ M * U ^ d ∧ 0 < sideUp (pOf t) (cOf t) 1 t.length ∧ 0 < sideDown (pOf t) (cOf t) 1 t.length := by
  have h2 : Pr 2 := ⟨by omega, fun d hd hdd => by have := Nat.mul_le_mul hd hd; omega⟩
  obtain ⟨_, a1, a2⟩ := hok.side 1 h2
  refine ⟨eq_of_mult _ _ (Nat.mul_pos (Nat.pow_pos a1) (Nat.pow_pos hD)) (Nat.mul_pos (Nat.pow_pos a2) (Nat.pow_pos hU)) (fun q hq => ?_), a1, a2⟩
  have e1 := (hok.side 1 hq).1
  have e2 := hv (q : Int)
  rw [hm q hq] at e2
  rw [mult_mul hq _ _ (Nat.pow_pos a1) (Nat.pow_pos hD), mult_mul hq _ _ (Nat.pow_pos a2) (Nat.pow_pos hU), mult_power hq a1, mult_power hq a2, mult_power hq hD, mult_power hq hU]
  generalize mult q (sideUp (pOf t) (cOf t) 1 t.length) = A at *
  generalize mult q (sideDown (pOf t) (cOf t) 1 t.length) = B at *
  generalize mult q U = u at *
  generalize mult q D = e at *
  generalize atL t (q : Int) = z at *
  apply Int.ofNat_inj.1
  simp only [Int.natCast_add, Int.natCast_mul]
  have h3 : (A : Int) = B + z := by omega
  rw [h3]
  grind
theorem cmp_ge {su sd M d U D : Nat} (h : su ^ M * D ^ d = sd ^ M * U ^ d) (hM : 0 < M) (h1 : 0 < su) (h2 : 0 < sd) (hU : 0 < U) (hle : D ≤ U) : 0 ≤ cmpOf su sd := by
  obtain ⟨_, o2, o3⟩ := sides_order h (Nat.pow_pos h1) (Nat.pow_pos h2)
  have hp := Nat.pow_le_pow_left hle d
  rcases Nat.lt_or_ge (D ^ d) (U ^ d) with h3 | h3
  · have := (pow_order hM).1 (o2 h3)
    rw [cmpOf_gt this]
    decide
  · have := (pow_order hM).2 (o3 (by omega) (Nat.pow_pos hU))
    rw [cmpOf_eq this]
    decide
theorem diff_val {M G1 G2 e1 e2 d : Nat} {t1 t2 t : List (Int × Int)} {f1 f2 : Int → Int} (hM1 : M = G1 * e1) (hM2 : M = G2 * e2) (hM : 0 < M) (v1 : ∀ x, f1 x = (G1 : Int) * atL t1 x) (v2 : ∀ x, f2 x = (G2 : Int) * atL t2 x) (hs : ∀ x, atL t x * ((e1 : Int) * (e2 : Int)) = (atL t1 x * (e2 : Int) + atL (negL t2) x * (e1 : Int)) * (d : Int)) : ∀ x, (M : Int) * atL t x = (d : Int) * (f1 x - f2 x) := fun x => by
  have h := hs x
  rw [negL_at] at h
  rw [v1 x, v2 x]
  have m1 : (M : Int) = (G1 : Int) * (e1 : Int) := by rw [hM1]; simp
  have m2 : (M : Int) = (G2 : Int) * (e2 : Int) := by rw [hM2]; simp
  generalize atL t x = T at *
  generalize atL t1 x = A at *
  generalize atL t2 x = B at *
  refine Int.eq_of_mul_eq_mul_left (show (M : Int) ≠ 0 by omega) ?_
  have k1 : (M : Int) * ((M : Int) * T) = (G1 : Int) * (G2 : Int) * (T * ((e1 : Int) * (e2 : Int))) := by
    calc (M : Int) * ((M : Int) * T) = ((G1 : Int) * (e1 : Int)) * (((G2 : Int) * (e2 : Int)) * T) := by rw [← m1, ← m2]
      _ = _ := by grind
  rw [k1, h]
  have k2 : (M : Int) * ((d : Int) * ((G1 : Int) * A - (G2 : Int) * B)) = (d : Int) * ((G1 : Int) * A * (M : Int) - (G2 : Int) * B * (M : Int)) := by grind
  rw [k2]
  have k3 : (G1 : Int) * A * (M : Int) = (G1 : Int) * A * ((G2 : Int) * (e2 : Int)) := by rw [← m2]
  have k4 : (G2 : Int) * B * (M : Int) = (G2 : Int) * B * ((G1 : Int) * (e1 : Int)) := by rw [← m1]
  rw [k3, k4]
  grind

set_option maxRecDepth 100000 in
set_option maxHeartbeats 2000000 in
theorem sign_by {M b1 b2 : Nat} {f1 f2 : Int → Int} {d1 d2 : Int} {v1 v2 : Value} {U D : Nat} (a : Nat → Addr) (w : World) (hE : Errs w a) (h1 : LogBy b1 M f1 w d1 v1) (h2 : LogBy b2 M f2 w d2 v2) (hM : 1 ≤ M) (hM6 : M ≤ 1000000) (p1 : Prim f1) (p2 : Prim f2) (hU : 0 < U) (hD : 0 < D) (hm : ∀ q : Nat, Pr q → f1 (q : Int) - f2 (q : Int) = (mult q U : Int) - (mult q D : Int)) (hle : D ≤ U) :
    Calls Tryz.prog 18 #[.agg #[.int .i64 d1, v1], .agg #[.int .i64 d2, v2]] w fun e w' => (∃ z : Int, 0 ≤ z ∧ e = .returned (.int .i64 z)) ∧ Below w.heap.size w w' := by
  obtain ⟨t1, e1, G1, rfl, l1, n1, m1, g1, w1', o1⟩ := h1.ok hM hM6 p1
  obtain ⟨t2, e2, G2, rfl, l2, n2, m2, g2, w2', o2⟩ := h2.ok hM hM6 p2
  obtain ⟨ad1, k1, cap1, rfl⟩ := h1.form
  obtain ⟨ad2, k2, cap2, rfl⟩ := h2.form
  clear h1 h2
  obtain ⟨W0, hW0⟩ : ∃ W0, W0 = (w.alloc (.cells #[.int .i64 (e1 : Int), .slice ad1 k1 cap1] 27)).alloc (.cells #[.int .i64 (e2 : Int), .slice ad2 k2 cap2] 27) := ⟨_, rfl⟩
  have hb0 : Below w.heap.size w W0 := by rw [hW0]; exact below_chain (new_below _ _) (new_below _ _)
  have HC0 : Hid (∀ W, Below W0.heap.size W0 W → (W.cell? ⟨w.heap.size, 0, none⟩ = some (.int .i64 (e1 : Int)) ∧ W.cell? ⟨w.heap.size, 1, none⟩ = some (.slice ad1 k1 cap1)) ∧ (W.cell? ⟨w.heap.size + 1, 0, none⟩ = some (.int .i64 (e2 : Int)) ∧ W.cell? ⟨w.heap.size + 1, 1, none⟩ = some (.slice ad2 k2 cap2))) := fun W hb => by
    have hr := hb
    rw [hW0] at hr
    have r2 := res_past hr
    rw [World.size_alloc] at r2
    have r1 := res_past (w := w) (below_chain (new_below _ _) hr)
    exact ⟨⟨r1.1, r1.2.1⟩, r2.1, r2.2.1⟩
  have hsc := Scale_back (e2 : Int) (.slice ad2 k2 cap2) t2.length (pOf t2) (cOf t2) a W0 (hE.below hb0) (listAt_log (l2.later hb0)) o2 (by omega)
  obtain ⟨np, nc, nl⟩ := negL_parts t2
  have o2' : OkLog e2 (negL t2).length (pOf (negL t2)) (cOf (negL t2)) := by rw [np, nc, nl]; exact okLog_neg o2
  have HAD : Hid (∀ (W : World) (v : Value), Below W0.heap.size W0 W → OwnAt W v t2.length (pOf t2) (fun i => -cOf t2 i) → Calls Tryz.prog 40 #[.agg #[.int .i64 (e1 : Int), .slice ad1 k1 cap1], .agg #[.int .i64 (e2 : Int), v]] W fun e w' => ((∃ d t v, SumOk e1 e2 t1 (negL t2) d t ∧ e = .returned (.tuple #[.agg #[.int .i64 (d : Nat), v], .nilIface]) ∧ ListAt w' v t) ∨ ∃ ad, e = .returned (.tuple #[.agg #[.int .i64 0, .slice none 0 0], .iface 183 (.pointer (some ad))])) ∧ Below W.heap.size W w') := fun W v hb hv => by
    have hv' : ListAt W v (negL t2) := by unfold ListAt; rw [np, nc, nl]; exact hv
    refine (Add_all e1 e2 _ v t1 (negL t2) a W (hE.below (below_chain hb0 hb)) (listAt_log ((l1.later hb0).later hb)) (listAt_log hv') (by omega)).mono ?_
    rintro e w' ⟨h | ⟨_, h⟩, hb'⟩
    · exact ⟨Or.inl h, hb'⟩
    · exact ⟨Or.inr h, hb'⟩
  have HSG : Hid (∀ (W : World) (d : Nat) (t : List (Int × Int)) (v : Value), Below W0.heap.size W0 W → SumOk e1 e2 t1 (negL t2) d t → ListAt W v t → Calls Tryz.prog 41 #[.agg #[.int .i64 (d : Int), v]] W fun e w' => ((∃ z : Int, 0 ≤ z ∧ e = .returned (.tuple #[.int .i64 z, .nilIface])) ∨ ∃ ad, e = .returned (.tuple #[.int .i64 0, .iface 183 (.pointer (some ad))])) ∧ Below W.heap.size W w') := fun W d t v hb hs hl => by
    have hok := hs.ok
    have hval := hs.2.2.1.val
    have hlen := hs.2.2.1.len
    simp only [Int.toNat_natCast] at hval
    have hd := diff_val m1 m2 hM w1' w2' hval
    obtain ⟨s1, s2, s3⟩ := by_sides2 hok hd hU hD hm
    have hc := cmp_ge s1 hM s2 s3 hU hle
    by_cases hfit : cost (pOf t) (cOf t) t.length ≤ 40000
    · refine (Sign_log d v t.length (pOf t) (cOf t) a true true (by simpa using hok) (by simpa using hfit) W (hE.below (below_chain hb0 hb)) (listAt_log hl) (by omega)).mono ?_
      rintro e w' ⟨rfl, hb'⟩
      exact ⟨Or.inl ⟨_, hc, rfl⟩, hb'⟩
    · refine (Sign_log d v t.length (pOf t) (cOf t) a true false (by simpa using hok) (by simpa using hfit) W (hE.below (below_chain hb0 hb)) (listAt_log hl) (by omega)).mono ?_
      rintro e w' ⟨rfl, hb'⟩
      exact ⟨Or.inr ⟨_, rfl⟩, hb'⟩
  have HB0 := Hid.mk' hb0
  have HW0 := Hid.mk' hW0
  have c00 := HC0.out W0 (Below.refl _ _)
  obtain ⟨⟨x0, x1⟩, y0, y1⟩ := c00
  clear hE hb0 hW0 o1 o2 o2' l1 l2 w1' w2' hm hle np nc nl
  go_enter Tryz.func18, Tryz.ntmps18
  go_upto_region 1 with fail
  rw [← HW0.out]
  go_wp2_with fail
  refine hsc.mono ?_
  clear hsc x0 x1 y0 y1
  rintro e w1 ⟨v1, rfl, hv1, hb1⟩
  obtain ⟨ad3, k3, cap3, rfl⟩ := ownAt_slice hv1
  obtain ⟨W1, hW1⟩ : ∃ W1, W1 = w1.alloc (.cells #[.int .i64 (e2 : Int), .slice ad3 k3 cap3] 27) := ⟨_, rfl⟩
  have hb01 : Below W0.heap.size W0 W1 := by rw [hW1]; exact below_chain hb1 (new_below _ _)
  have hv1' : OwnAt W1 (.slice ad3 k3 cap3) t2.length (pOf t2) (fun i => -cOf t2 i) := by rw [hW1]; exact hv1.later (new_below _ _)
  have HC1 : Hid (∀ W, Below W1.heap.size W1 W → W.cell? ⟨w1.heap.size, 0, none⟩ = some (.int .i64 (e2 : Int)) ∧ W.cell? ⟨w1.heap.size, 1, none⟩ = some (.slice ad3 k3 cap3) ∧ W.frozen? ⟨w1.heap.size, 0, none⟩ = false ∧ W.frozen? ⟨w1.heap.size, 1, none⟩ = false) := fun W hb => by
    rw [hW1] at hb
    exact res_past hb
  have hB1 : W0.heap.size ≤ w1.heap.size := hb1.size
  have had := HAD.out W1 _ hb01 hv1'
  obtain ⟨⟨x0, x1⟩, _, _⟩ := HC0.out W1 hb01
  obtain ⟨y0, y1, _, _⟩ := HC1.out W1 (Below.refl _ _)
  have HW1 := Hid.mk' hW1
  have HB01 := Hid.mk' hb01
  clear hv1 hb1 hv1' hb01 hW1 HAD
  go_upto_region 2 with fail
  rw [← HW1.out]
  clear HW1
  go_wp2_with fail
  refine had.mono ?_
  clear had x0 x1 y0 y1
  rintro e w2 ⟨⟨d, t, v2, hs, rfl, hl2⟩ | ⟨ad, rfl⟩, hb2⟩
  · obtain ⟨ad4, k4, cap4, rfl⟩ := ownAt_slice hl2
    obtain ⟨z0, z1, f0, f1⟩ := HC1.out w2 hb2
    obtain ⟨W2, hW2⟩ : ∃ W2, W2 = (w2.setCell ⟨w1.heap.size, 0, none⟩ (.int .i64 (d : Int))).setCell ⟨w1.heap.size, 1, none⟩ (.slice ad4 k4 cap4) := ⟨_, rfl⟩
    have hb02 : Below W0.heap.size W0 W2 := by rw [hW2]; exact ((below_chain HB01.out hb2).setCell hB1 _).setCell hB1 _
    have hl2' : ListAt W2 (.slice ad4 k4 cap4) t := by rw [hW2]; exact ownAt_put hl2 z1
    have q0 : W2.cell? ⟨w1.heap.size, 0, none⟩ = some (.int .i64 (d : Int)) := by
      rw [hW2, World.cell?_setCell_other _ _ _ _ (by simp)]
      exact World.cell?_setCell_same _ _ _ z0
    have q1 : W2.cell? ⟨w1.heap.size, 1, none⟩ = some (.slice ad4 k4 cap4) := by
      rw [hW2]
      exact World.cell?_setCell_same _ _ _ (by rw [World.cell?_setCell_other _ _ _ _ (by simp)]; exact z1)
    have hsg := HSG.out W2 d t _ hb02 hs hl2'
    have HB2 := Hid.mk' (below_chain HB0.out hb02)
    have HW2 := Hid.mk' hW2
    clear hs hl2 hb2 hb02 hl2' hW2 HSG HC0
    go_upto_region 5 with fail
    rw [← HW2.out]
    clear HW2 z0 z1 f0 f1
    go_wp2_with fail
    refine hsg.mono ?_
    clear hsg
    rintro e w3 ⟨⟨z, hz, rfl⟩ | ⟨ad, rfl⟩, hb3⟩
    · have HB3 := Hid.mk' (below_chain HB2.out hb3)
      clear hb3
      go_wp2_with fail
      go_ret
      exact ⟨⟨z, hz, rfl⟩, HB3.out⟩
    · have HB3 := Hid.mk' (below_chain HB2.out hb3)
      clear hb3
      go_wp2_with fail
      go_ret
      exact ⟨⟨2, by omega, rfl⟩, HB3.out⟩
  · obtain ⟨z0, z1, f0, f1⟩ := HC1.out w2 hb2
    have HB2 := Hid.mk' (below_chain (below_chain HB0.out HB01.out) hb2)
    have hB1' : w.heap.size ≤ w1.heap.size := by have := HB0.out.size; omega
    clear hb2 HSG HC0
    go_wp2_with fail
    go_ret
    exact ⟨⟨2, by omega, rfl⟩, (HB2.out.setCell hB1' _).setCell hB1' _⟩
end Go.Proofs.YtklhfagcembigaaGreatDoor

/- A logarithm in form times a fraction in its lowest terms. -/
namespace Go.Proofs.YtklhfagcembigaaGreatDoor

theorem gList_gcd : ∀ (L : List Int) (g : Nat), gList g L = Nat.gcd g (gList 0 L)
  | [], g => by show g = Nat.gcd g 0; rw [Nat.gcd_zero_right]
  | x :: r, g => by
    show gList (Nat.gcd g x.natAbs) r = Nat.gcd g (gList (Nat.gcd 0 x.natAbs) r)
    rw [gList_gcd r (Nat.gcd g x.natAbs), gList_gcd r (Nat.gcd 0 x.natAbs), Nat.gcd_zero_left, Nat.gcd_assoc]
theorem gList_mulI (n : Int) : ∀ L : List Int, gList 0 (L.map fun x => n * x) = n.natAbs * gList 0 L
  | [] => by simp [gList]
  | x :: r => by
    show gList (Nat.gcd 0 (n * x).natAbs) (r.map fun x => n * x) = n.natAbs * gList (Nat.gcd 0 x.natAbs) r
    rw [gList_gcd (r.map fun x => n * x), gList_mulI n r, gList_gcd r (Nat.gcd 0 x.natAbs), Nat.gcd_zero_left, Nat.gcd_zero_left, Int.natAbs_mul, Nat.gcd_mul_left]
theorem coprime_mul {a d n C : Nat} (h1 : Nat.Coprime a n) (h2 : Nat.Coprime a C) (h3 : Nat.Coprime d n) (h4 : Nat.Coprime d C) : Nat.Coprime (a * d) (n * C) :=
  Nat.Coprime.mul_left (Nat.Coprime.mul_right h1 h2) (Nat.Coprime.mul_right h3 h4)
theorem gcd_cross {a d n C : Nat} (h1 : Nat.Coprime a C) (h2 : Nat.Coprime n d) (ha : 0 < a) (hd : 0 < d) : Nat.gcd (a * d) (n * C) = Nat.gcd n a * Nat.gcd d C := by
  have hl : 0 < Nat.gcd n a := Nat.gcd_pos_of_pos_right _ ha
  have hr : 0 < Nat.gcd d C := Nat.gcd_pos_of_pos_left _ hd
  have c1 := Nat.coprime_div_gcd_div_gcd hl
  have c2 := Nat.coprime_div_gcd_div_gcd hr
  obtain ⟨n', hn⟩ := Nat.gcd_dvd_left n a
  obtain ⟨a', ha'⟩ := Nat.gcd_dvd_right n a
  obtain ⟨d', hd'⟩ := Nat.gcd_dvd_left d C
  obtain ⟨C', hC⟩ := Nat.gcd_dvd_right d C
  generalize Nat.gcd n a = l at *
  generalize Nat.gcd d C = r at *
  subst hn ha' hd' hC
  rw [Nat.mul_div_cancel_left _ hl, Nat.mul_div_cancel_left _ hl] at c1
  rw [Nat.mul_div_cancel_left _ hr, Nat.mul_div_cancel_left _ hr] at c2
  have e1 : l * a' * (r * d') = l * r * (a' * d') := by grind
  have e2 : l * n' * (r * C') = l * r * (n' * C') := by grind
  rw [e1, e2, Nat.gcd_mul_left, coprime_mul c1.symm (h1.coprime_dvd_left (Nat.dvd_mul_left _ _) |>.coprime_dvd_right (Nat.dvd_mul_left _ _)) (h2.coprime_dvd_left (Nat.dvd_mul_left _ _) |>.coprime_dvd_right (Nat.dvd_mul_left _ _)).symm c2, Nat.mul_one]

def scaleL (n : Int) (t : List (Int × Int)) : List (Int × Int) := t.map fun e => (e.1, n * e.2)
theorem scale_rise {t : List (Int × Int)} (h : Rising t) (n : Int) : Rising (scaleL n t) := by
  unfold scaleL Rising
  rw [List.pairwise_map]
  exact h
theorem scale_at (n : Int) : ∀ (t : List (Int × Int)) (x : Int), atL (scaleL n t) x = n * atL t x
  | [], x => by simp [scaleL, atL]
  | e :: r, x => by
    have ih := scale_at n r x
    show (if e.1 = x then n * e.2 else atL (scaleL n r) x) = n * if e.1 = x then e.2 else atL r x
    by_cases h : e.1 = x
    · rw [if_pos h, if_pos h]
    · rw [if_neg h, if_neg h, ih]
theorem scale_snd (n : Int) (t : List (Int × Int)) : (scaleL n t).map Prod.snd = (t.map Prod.snd).map fun x => n * x := by unfold scaleL; rw [List.map_map, List.map_map]; rfl
/-- The common divisor of what is scaled. -/
theorem scale_gcd {da d : Nat} {n : Int} {t : List (Int × Int)} (hda : 0 < da) (hd : 0 < d) (hone : gList da (t.map Prod.snd) = 1) (hlow : Nat.gcd n.natAbs d = 1) : gList (da * d) ((scaleL n t).map Prod.snd) = Nat.gcd n.natAbs da * gList d (t.map Prod.snd) := by
  rw [gList_gcd] at hone
  rw [scale_snd, gList_gcd, gList_mulI, gList_gcd (t.map Prod.snd) d]
  exact gcd_cross hone hlow hda hd
theorem scale_den {da d lf rt : Nat} (hl : lf ∣ da) (hr : rt ∣ d) : da * d / (lf * rt) = da / lf * (d / rt) := (Nat.div_mul_div_comm hl hr).symm
theorem scale_coef {n c : Int} {lf rt : Nat} (hl : lf ∣ n.natAbs) (hr : rt ∣ c.natAbs) (hl0 : 0 < lf) (hr0 : 0 < rt) : (n * c).tdiv ((lf * rt : Nat) : Int) = n.tdiv (lf : Int) * c.tdiv (rt : Int) := by
  have h1 : n = (lf : Int) * n.tdiv (lf : Int) := (Int.mul_tdiv_cancel' (Int.ofNat_dvd_left.2 hl)).symm
  have h2 : c = (rt : Int) * c.tdiv (rt : Int) := (Int.mul_tdiv_cancel' (Int.ofNat_dvd_left.2 hr)).symm
  generalize n.tdiv (lf : Int) = a at *
  generalize c.tdiv (rt : Int) = b at *
  rw [h1, h2, Int.natCast_mul, show (lf : Int) * a * ((rt : Int) * b) = (lf : Int) * (rt : Int) * (a * b) by grind]
  exact Int.mul_tdiv_cancel_left _ (Int.mul_ne_zero (by omega) (by omega))
theorem most_iff {m k : Nat} (hk : 0 < k) : m ≤ 1099511627776 / k ↔ m * k ≤ 1099511627776 := Nat.le_div_iff_mul_le hk
end Go.Proofs.YtklhfagcembigaaGreatDoor

/- whole.Lowest at any fraction. -/
namespace Go.Proofs.YtklhfagcembigaaGreatDoor
open Go.RowKit

theorem quo_nat30 {a b : Nat} (h : a ≤ 1073741824) : wrap64 ((a : Int) / (b : Int)) = ((a / b : Nat) : Int) := by
  have h0 : (a : Int) / (b : Int) = ((a / b : Nat) : Int) := by simp
  have h1 : a / b ≤ a := Nat.div_le_self _ _
  rw [h0]
  generalize a / b = q at h1
  rw [w64 _ (by omega)]

set_option maxRecDepth 10000 in
set_option maxHeartbeats 1000000 in
theorem lowest_any (n : Int) (d : Nat) (w : World) (h1 : -1073741824 ≤ n) (h2 : n ≤ 1073741824) (hd0 : 1 ≤ d) (hd1 : d ≤ 1073741824) (g : Nat) (hg : g = Nat.gcd n.natAbs d) : Calls Tryz.prog 25 #[.int .i64 n, .int .i64 d] w fun e w' => e = .returned (.agg #[.int .i64 (n.tdiv (g : Int)), .int .i64 ((d / g : Nat) : Int)]) ∧ Below w.heap.size w w' := by
  have hB0 : Below w.heap.size w (w.alloc (.cells #[.int .i64 0, .int .i64 0] 38)) := (Below.refl _ _).alloc (Nat.le_refl _) _
  have hgc := GCD_any n d (w.alloc (.cells #[.int .i64 0, .int .i64 0] 38)) (by omega) (by omega) (by omega) (by omega)
  have hgi : Int.gcd n (d : Int) = g := by rw [hg]; simp [Int.gcd]
  rw [hgi] at hgc
  have hgp : 0 < g := by rw [hg]; exact Nat.gcd_pos_of_pos_right _ hd0
  have hgz : ¬ g = 0 := by omega
  have hgl : g ≤ d := by rw [hg]; exact Nat.gcd_le_right _ (by omega)
  have HB := Hid.mk' hB0
  clear hB0 hgi hg
  go_enter Tryz.func25, Tryz.ntmps25
  go_wp2_with fail
  refine hgc.mono ?_
  clear hgc
  rintro e w1 ⟨rfl, m, rfl⟩
  go_wp2_with fail
  go_region
  go_wp2_with fail
  refine bodyPost_ret (v := .agg #[.int .i64 (n.tdiv (g : Int)), .int .i64 (wrap64 ((d : Int) / (g : Int)))]) (by simp [results, Tryz.results25, go_sem]) rfl ⟨by rw [quo_nat30 hd1], ?_⟩
  exact ((below_drewN HB.out _).setCell (by simp) _).setCell (by simp) _
end Go.Proofs.YtklhfagcembigaaGreatDoor

/- logs.scaled at any fraction. -/
namespace Go.Proofs.YtklhfagcembigaaGreatDoor
open Go.RowKit Go.Maps

theorem quo_most {m : Nat} : (1099511627776 : Int) / (m : Int) = ((1099511627776 / m : Nat) : Int) := by simp

/-- What scaled's second loop keeps: the row lies at N, the answer's box at Bx. -/
structure InScl (w wr : World) (N Bx : Nat) (d : Int) (n : Nat) (p c : Nat → Int) (k : Nat) : Prop where
  below : Below N w wr
  lt : N < Bx
  o0 : wr.cell? ⟨Bx, 0, none⟩ = some (.int .i64 d)
  o1 : wr.cell? ⟨Bx, 1, none⟩ = some (.slice (some ⟨N, 0, none⟩) k n)
  f0 : wr.frozen? ⟨Bx, 0, none⟩ = false
  fz : wr.frozen? ⟨Bx, 1, none⟩ = false
  row : wr.ownsRow N 90 2 (.slice (some ⟨N, 0, none⟩) k n) k (termCells p c k)
theorem InScl.later {w wr wn : World} {N Bx : Nat} {d : Int} {n : Nat} {p c : Nat → Int} {k : Nat} (h : InScl w wr N Bx d n p c k) (hb : Below wr.heap.size wr wn) : InScl w wn N Bx d n p c k :=
  ⟨h.below.trans (hb.mono (by have := cell_lt h.o0; have := h.lt; simp only at *; omega)), h.lt, (cell_past h.o0 hb).2, (cell_past h.o1 hb).2, (frozen_past h.o0 h.f0 hb).2, (frozen_past h.o1 h.fz hb).2, ownsRow_past h.row hb⟩
theorem InScl.pushed {w wr w3 : World} {N Bx : Nat} {d : Int} {n : Nat} {p c : Nat → Int} {k : Nat} (h : InScl w wr N Bx d n p c k) (hg : wr.grownBy w3 (some N)) (hrow : w3.ownsRow N 90 2 (.slice (some ⟨N, 0, none⟩) (k + 1) n) (k + 1) (termCells p c k ++ [.int .i64 (p k), .int .i64 (c k)])) :
    w3.cell? ⟨Bx, 1, none⟩ = some (.slice (some ⟨N, 0, none⟩) k n) ∧ w3.frozen? ⟨Bx, 1, none⟩ = false ∧ InScl w (w3.setCell ⟨Bx, 1, none⟩ (.slice (some ⟨N, 0, none⟩) (k + 1) n)) N Bx d n p c (k + 1) := by
  have hlt := cell_lt h.o0
  have hNB := h.lt
  simp only at hlt
  have c0 := cell_beside hg h.o0 (by omega)
  have c1 := cell_beside hg h.o1 (by omega)
  have hblk := hg.block Bx hlt (by simp; omega)
  have f0 : w3.frozen? ⟨Bx, 0, none⟩ = false := by rw [← h.f0]; simp [World.frozen?, hblk]
  have f1 : w3.frozen? ⟨Bx, 1, none⟩ = false := by rw [← h.fz]; simp [World.frozen?, hblk]
  refine ⟨c1, f1, ⟨(h.below.grown hg (by omega) (fun j e => by cases e; exact Nat.le_refl _)).setCell (by simp; omega) _, h.lt, ?_, World.cell?_setCell_same _ _ _ c1, by simpa using f0, by simpa using f1, ?_⟩⟩
  · rw [World.cell?_setCell_other _ _ _ _ (by simp)]; exact c0
  · obtain ⟨hl, hr⟩ := hrow
    refine ⟨hl, ?_⟩
    rcases hr with hr | ⟨gg, cap, cur, hv, hg1, hh, rest⟩
    · exact Or.inl hr
    · refine Or.inr ⟨gg, cap, cur, hv, hg1, ?_, rest⟩
      have : gg = N := by simp at hv; exact hv.1.symm
      rw [Below.heap_setCell _ _ _ _ (by show gg ≠ Bx; omega)]
      exact hh
theorem inScl_start {W W3 : World} {d : Int} {n : Nat} {p c : Nat → Int} (ho : W3.ownsRow W.heap.size 90 2 (.slice (some ⟨W.heap.size, 0, none⟩) 0 n) 0 []) (hg : W.grownBy W3 none) : InScl W (W3.alloc (.cells #[.int .i64 d, .slice (some ⟨W.heap.size, 0, none⟩) 0 n] 27)) W.heap.size W3.heap.size d n p c 0 := by
  have hlt : W.heap.size < W3.heap.size := by
    rcases ho.2 with ⟨h, _⟩ | ⟨g, cap, cur, hv, _, hh, _⟩
    · cases h
    · have : W.heap.size = g := by simp at hv; exact hv.1
      rw [this]; exact heap_lt hh
  refine ⟨((Below.refl _ _).grown hg (Nat.le_refl _) (fun j e => by cases e)).alloc (by omega) _, hlt, by rw [World.cell?_alloc_at _ _ _ _ rfl]; rfl, by rw [World.cell?_alloc_at _ _ _ _ rfl]; rfl, frozen_new rfl, frozen_new rfl, ownsRow_past ho (new_below _ _)⟩


set_option maxRecDepth 100000 in
set_option maxHeartbeats 2000000 in
theorem scaled_any (da d : Nat) (n : Int) (ad : Option Addr) (nn cap : Nat) (p c : Nat → Int) (a : Nat → Addr) (w : World) (h : Errs w a) (hl : LogAt w (.slice ad nn cap) nn p c) (hok : OkLog da nn p c) (hn0 : 0 < nn) (hn : nn ≤ 100) (h1 : -1073741824 ≤ n) (h2 : n ≤ 1073741824) (hnz : n ≠ 0) (hd0 : 1 ≤ d) (hd1 : d ≤ 1073741824) (lf rt : Nat) (hlf : lf = Nat.gcd n.natAbs da) (hrt : rt = gcdTo d c nn) (fits : Bool) (hfit : fits = true ↔ (da / lf * (d / rt) ≤ 1000000 ∧ ∀ i, i < nn → (n.tdiv (lf : Int) * (c i).tdiv (rt : Int)).natAbs ≤ 1099511627776)) :
    Calls Tryz.prog 70 #[.agg #[.int .i64 da, .slice ad nn cap], .agg #[.int .i64 n, .int .i64 d]] w fun e w' => ((fits = true ∧ ∃ v, e = .returned (.tuple #[.agg #[.int .i64 ((da / lf * (d / rt) : Nat) : Int), v], .nilIface]) ∧ OwnAt w' v nn p (fun i => n.tdiv (lf : Int) * (c i).tdiv (rt : Int))) ∨ (fits = false ∧ e = .returned (.tuple #[.agg #[.int .i64 0, .slice none 0 0], .iface 183 (.pointer (some (a 1)))]))) ∧ Below w.heap.size w w' := by
  obtain ⟨W0, hW⟩ : ∃ W0, W0 = (((w.alloc (.cells #[.int .i64 da, .slice ad nn cap] 27)).alloc (.cells #[.int .i64 n, .int .i64 d] 38)).alloc (.cells #[.int .i64 0, .slice none 0 0] 27)) := ⟨_, rfl⟩
  have hb0 : Below w.heap.size w W0 := by rw [hW]; exact more_below (more_below (new_below _ _) _) _
  have hC : ∀ W, Below W0.heap.size W0 W → (W.cell? ⟨w.heap.size, 0, none⟩ = some (.int .i64 da) ∧ W.cell? ⟨w.heap.size, 1, none⟩ = some (.slice ad nn cap)) ∧ (W.cell? ⟨w.heap.size + 1, 0, none⟩ = some (.int .i64 n) ∧ W.cell? ⟨w.heap.size + 1, 1, none⟩ = some (.int .i64 d)) ∧ (W.cell? ⟨w.heap.size + 1 + 1, 0, none⟩ = some (.int .i64 0) ∧ W.cell? ⟨w.heap.size + 1 + 1, 1, none⟩ = some (.slice none 0 0)) ∧ W.frozen? ⟨w.heap.size + 1 + 1, 0, none⟩ = false ∧ W.frozen? ⟨w.heap.size + 1 + 1, 1, none⟩ = false := fun W hb => by
    rw [hW] at hb
    obtain ⟨q0, q1, _, _⟩ := res_past (below_chain (more_below (new_below (w.alloc (.cells #[.int .i64 da, .slice ad nn cap] 27)) (.cells #[.int .i64 n, .int .i64 d] 38)) (.cells #[.int .i64 0, .slice none 0 0] 27)) hb)
    obtain ⟨q2, q3, _, _⟩ := res_past (below_chain (new_below ((w.alloc (.cells #[.int .i64 da, .slice ad nn cap] 27)).alloc (.cells #[.int .i64 n, .int .i64 d] 38)) (.cells #[.int .i64 0, .slice none 0 0] 27)) hb)
    obtain ⟨q4, q5, q6, q7⟩ := res_past hb
    simp only [World.size_alloc] at q2 q3 q4 q5 q6 q7
    exact ⟨⟨q0, q1⟩, ⟨q2, q3⟩, ⟨q4, q5⟩, q6, q7⟩
  have hz0 : W0.heap.size = w.heap.size + 1 + 1 + 1 := by rw [hW]; simp
  have hda1 : 1 ≤ da := by have := hok.1; omega
  have hda6 : da ≤ 1000000 := by have := hok.2.1; omega
  have hg := GCD_any n da W0 (by omega) (by omega) (by omega) (by omega)
  have hgi : Int.gcd n (da : Int) = lf := by rw [hlf]; simp [Int.gcd]
  rw [hgi] at hg
  have hlp : 0 < lf := by rw [hlf]; exact Nat.gcd_pos_of_pos_right _ hda1
  have hlz : ¬ lf = 0 := by omega
  have hll : lf ≤ da := by rw [hlf]; exact Nat.gcd_le_right _ (by omega)
  have HW := Hid.mk' hW
  have HB0 := Hid.mk' hb0
  have HL := Hid.mk' (hl.later hb0)
  have HOK := Hid.mk' hok
  have HE : Hid (∀ W, Below W0.heap.size W0 W → W.cell? ⟨0, 0, none⟩ = some (.iface 183 (.pointer (some (a 1))))) := fun W hb => ((h.below hb0).below hb).c1
  have HC := Hid.mk' hC
  have HRT := Hid.mk' hrt
  have HLF := Hid.mk' hlf
  have HFIT := Hid.mk' hfit
  have HZ0 := Hid.mk' hz0
  obtain ⟨⟨k0, k1⟩, ⟨k2, k3⟩, _⟩ := hC W0 (Below.refl _ _)
  clear h hl hok hb0 hW hC hgi hrt hlf hfit hz0
  go_enter Tryz.func70, Tryz.ntmps70
  go_wp2_with fail
  rw [← HW.out]
  refine hg.mono ?_
  clear hg k0 k1 k2 k3
  rintro e w1 ⟨rfl, m1, hw1⟩
  have hb1 : Below W0.heap.size W0 w1 := by rw [hw1]; exact below_drewN (Below.refl _ _) _
  clear hw1
  obtain ⟨⟨k0, k1⟩, ⟨k2, k3⟩, _⟩ := HC.out w1 hb1
  have HB1 := Hid.mk' hb1
  clear hb1
  go_wp2_with fail
  clear k0 k1 k2 k3
  go_loopw [7, 27] (fun s i wr => ∃ k : Nat, k ≤ nn ∧ s = .int .i64 ((gcdTo d c k : Nat) : Int) ∧ i = .int .i64 k ∧ Hid (Below W0.heap.size W0 wr)) (fun _ i _ => nn - (intOf i).toNat)
  case atStart => exact ⟨0, by omega, rfl, rfl, HB1⟩
  case round =>
    clear HB1
    obtain ⟨k, hk, rfl, rfl, HB⟩ := hrel
    have hk0 : (0 : Int) ≤ (k : Int) := by omega
    have hgb := gcdTo_pos (d : Int) c (by omega) k
    obtain ⟨r, hr⟩ : ∃ r, gcdTo d c k = r := ⟨_, rfl⟩
    rw [hr] at hgb
    have hr1 : 1 ≤ r := hgb.1
    have hr2 : r ≤ 1073741824 := by have := hgb.2; omega
    clear hgb
    by_cases hlt : k < nn
    · have hkI : (k : Int) < (nn : Int) := by omega
      obtain ⟨b, o, rfl, y0, y1⟩ := LogAt.cellsOf (HL.out.later HB.out) hlt
      obtain ⟨_, _, hc0, hc1, _⟩ := (HOK.out.2.2.1 k hlt).2
      have hgc := GCD_any r (c k) (wr.alloc (.cells #[.int .i64 (p k), .int .i64 (c k)] 90)) (by omega) (by omega) (by omega) (by omega)
      have HBA := Hid.mk' (HB.out.alloc HB.out.size (.cells #[.int .i64 (p k), .int .i64 (c k)] 90))
      have HNX : Hid (((Int.gcd (r : Int) (c k) : Nat) : Int) = ((gcdTo d c (k + 1) : Nat) : Int)) := by
        show _ = ((Int.gcd (gcdTo d c k : Int) (c k) : Nat) : Int)
        rw [hr]
      rw [hr]
      clear hr
      go_wp2_with fail
      refine hgc.mono ?_
      clear hgc
      rintro e w2 ⟨rfl, m2, hw2⟩
      rw [HNX.out]
      go_wp2_with fail
      exact ⟨⟨k + 1, by omega, rfl, by go_num, below_drewN HBA.out _⟩, by simp [intOf]; omega⟩
    · obtain rfl : k = nn := by omega
      have hrr : r = rt := by rw [HRT.out]; exact hr.symm
      rw [hr, hrr]
      rw [hrr] at hr1 hr2
      have hrz : ¬ rt = 0 := by omega
      have hrd : rt ≤ d := by have h9 := (gcdTo_pos (d : Int) c (by omega) k).2; rw [hr, hrr] at h9; omega
      clear hr hrr
      obtain ⟨⟨k0, k1⟩, ⟨k2, k3⟩, ⟨k4, k5⟩, _⟩ := HC.out wr HB.out
      go_wp2_with fail
      go_quiet (fail)
      have hbq : Below W0.heap.size W0 (wr.drewN nq) := below_drewN HB.out _
      generalize wr.drewN nq = W2 at hbq ⊢
      clear k0 k1 k2 k3 k4 k5
      have hDq : wrap64 (wrap64 ((da : Int) / (lf : Int)) * wrap64 ((d : Int) / (rt : Int))) = ((da / lf * (d / rt) : Nat) : Int) := by
        rw [quo_nat30 (show da ≤ 1073741824 by omega), quo_nat30 hd1, ← Int.natCast_mul]
        have e1 : da / lf ≤ 1000000 := Nat.le_trans (Nat.div_le_self _ _) hda6
        have e2 : d / rt ≤ 1073741824 := Nat.le_trans (Nat.div_le_self _ _) hd1
        have e3 := Nat.mul_le_mul e1 e2
        generalize da / lf * (d / rt) = D at e3
        rw [w64 _ (by omega)]
      rw [hDq]
      clear hDq
      generalize hD : da / lf * (d / rt) = D at HFIT ⊢
      have HDD := Hid.mk' hD
      have hDm : D ≤ 1073741824000000 := by
        rw [← hD]
        exact Nat.mul_le_mul (Nat.le_trans (Nat.div_le_self _ _) hda6) (Nat.le_trans (Nat.div_le_self _ _) hd1)
      have hnum0 : n.tdiv (lf : Int) ≠ 0 := fun e => hnz (by
        have h9 : (lf : Int) ∣ n := Int.ofNat_dvd_left.2 (by rw [HLF.out]; exact Nat.gcd_dvd_left _ _)
        have := Int.mul_tdiv_cancel' h9
        rw [e, Int.mul_zero] at this
        exact this.symm)
      have hnumb : (n.tdiv (lf : Int)).natAbs ≤ 1073741824 := by
        rw [Int.natAbs_tdiv]
        exact Nat.le_trans (Nat.div_le_self _ _) (by omega)
      generalize hnum : n.tdiv (lf : Int) = num at hnum0 hnumb HFIT ⊢
      have HNUM := Hid.mk' hnum
      clear hD hnum
      have HBQ := Hid.mk' hbq
      obtain ⟨⟨k0, k1⟩, ⟨k2, k3⟩, ⟨k4, k5⟩, f4, f5⟩ := HC.out W2 hbq
      by_cases hbig : 1000000 < D
      · have hff : fits = false := by
          cases fits
          · rfl
          · have := (HFIT.out.1 rfl).1; omega
        have hbI : (1000000 : Int) < (D : Int) := by omega
        have ge := HE.out W2 hbq
        have HBT := Hid.mk' (below_chain HB0.out hbq)
        have hz0 := HZ0.out
        have hbs := hbq.size
        clear hbq HE
        go_wp2_with fail
        go_region
        all_goals
          go_wp2_with fail
          refine bodyPost_ret (v := .tuple #[.agg #[.int .i64 0, .slice none 0 0], .iface 183 (.pointer (some (a 1)))]) (by simp [results, Tryz.results70, go_sem, k4, k5]) rfl ⟨Or.inr ⟨hff, rfl⟩, ?_⟩
          exact (HBT.out.drew.setCell (by simp; omega) _).setCell (by simp; omega) _
      · have hbI : (D : Int) ≤ 1000000 := by omega
        obtain ⟨m, hm⟩ : ∃ m : Nat, num.natAbs = m := ⟨_, rfl⟩
        have hm1 : 1 ≤ m := by omega
        have hmz : ¬ m = 0 := by omega
        have hmb : m ≤ 1073741824 := by omega
        have hsz := size_any num W2 (by omega) (by omega)
        rw [hm] at hsz
        have HM := Hid.mk' hm
        clear hm
        go_wp2_with fail
        refine hsz.mono ?_
        clear hsz
        rintro e w5 ⟨rfl, hw5⟩
        rw [hw5]
        clear hw5
        obtain ⟨i0, hi, hz0', hz1, hz2⟩ := info_parts Tryz.infoTerm
        have HINF : Hid (Tryz.prog.info? 90 = some i0 ∧ i0.zero = some (.agg #[.int .i64 0, .int .i64 0]) ∧ i0.size = 2 ∧ i0.bytes = 16) := ⟨hi, hz0', hz1, hz2⟩
        clear hi hz0' hz1 hz2
        have HZ : Hid (∀ w6, W2.grownBy w6 none → Below W0.heap.size W0 w6) := fun w6 hg => hbq.grown hg hbq.size (fun j e => by cases e)
        clear hbq k2 k3 k4 k5 f4 f5 k0
        go_wp2_with (at_make; go_must (refine wpList_make_own _ rfl _ _ _ rfl W2.heap.size 90 i0 _ 2 Tryz.underlying25 HINF.out.1 HINF.out.2.1 HINF.out.2.2.1 _ _ _ k rfl rfl rfl (by rw [HINF.out.2.2.2]; omega) (by unfold maxLen; omega) (Nat.le_refl _) ?_; intro w6 hown hgrow; have HIS := Hid.mk' (inScl_start (d := (D : Int)) (p := p) (c := fun i => num * (c i).tdiv (rt : Int)) hown hgrow); have z1 := fun X => (HC.out (w6.alloc X) ((HZ.out w6 hgrow).alloc (HZ.out w6 hgrow).size X)).1.2; clear hown hgrow))
        clear z1 k1
        go_loopw [65] (fun i wr => ∃ j : Nat, j ≤ k ∧ i = .int .i64 j ∧ Hid (InScl W2 wr W2.heap.size w6.heap.size (D : Int) k p (fun i => num * (c i).tdiv (rt : Int)) j) ∧ Hid (∀ i, i < j → (num * (c i).tdiv (rt : Int)).natAbs ≤ 1099511627776)) (fun i _ => k - (intOf i).toNat)
        case atStart => exact ⟨0, by omega, rfl, HIS, (fun i hi => absurd hi (by omega))⟩
        case round =>
          clear HIS
          obtain ⟨j, hj, rfl, HO, HLE⟩ := hrel
          have hj0 : (0 : Int) ≤ (j : Int) := by omega
          have hbW := below_chain HBQ.out HO.out.below
          have HBW := Hid.mk' hbW
          by_cases hjk : j < k
          · have hjI : (j : Int) < (k : Int) := by omega
            obtain ⟨b, o, rfl, y0, y1⟩ := LogAt.cellsOf (HL.out.later hbW) hjk
            obtain ⟨_, _, hc0, hc1, _⟩ := (HOK.out.2.2.1 j hjk).2
            have hqb : ((c j).tdiv (rt : Int)).natAbs ≤ 1099511627776 := by
              rw [Int.natAbs_tdiv]
              exact Nat.le_trans (Nat.div_le_self _ _) (by omega)
            obtain ⟨q, hq⟩ : ∃ q, (c j).tdiv (rt : Int) = q := ⟨_, rfl⟩
            rw [hq] at hqb
            have hqI : -1099511627776 ≤ q ∧ q ≤ 1099511627776 := by omega
            have HPR : Hid ((num * q).natAbs = m * q.natAbs) := by show _ = _; rw [Int.natAbs_mul, HM.out]
            have x1 : ∀ X, (wr.alloc X).cell? ⟨w6.heap.size, 1, none⟩ = some (.slice (some ⟨W2.heap.size, 0, none⟩) j k) := fun X => (cell_past HO.out.o1 (new_below _ X)).2
            have x2 : ∀ X Y, ((wr.alloc X).alloc Y).cell? ⟨w6.heap.size, 1, none⟩ = some (.slice (some ⟨W2.heap.size, 0, none⟩) j k) := fun X Y => (cell_past (x1 X) (new_below _ Y)).2
            have HLAT : Hid (∀ X Y, InScl W2 ((wr.alloc X).alloc Y) W2.heap.size w6.heap.size (D : Int) k p (fun i => num * (c i).tdiv (rt : Int)) j) := fun X Y => (HO.out.later (new_below _ X)).later (new_below _ Y)
            have hsz := fun W => size_any q W (by omega) (by omega)
            have HQ := Hid.mk' hq
            by_cases hof : q.natAbs * m ≤ 1099511627776
            · have hbr : (q.natAbs : Int) ≤ 1099511627776 / (m : Int) := by
                rw [quo_most]
                have := (most_iff (m := q.natAbs) hm1).2 hof
                omega
              have hpb : -1099511627776 ≤ q * num ∧ q * num ≤ 1099511627776 := by
                have h9 := HPR.out
                rw [Nat.mul_comm] at h9
                have h10 : q * num = num * q := Int.mul_comm _ _
                omega
              clear hbW hqb
              go_wp2_with (first
                | (go_at_call 77; refine (hsz _).mono ?_; rintro e w8 ⟨rfl, hw8⟩; rw [hw8]; clear hw8)
                | (at_builtin; go_must (refine wpList_append_fits _ rfl _ _ _ rfl W2.heap.size 90 i0 2 Tryz.underlying25 HINF.out.1 HINF.out.2.2.1 W2.heap.size j k _ rfl (HLAT.out _ _).row ⟨wr.heap.size + 1, 0, none⟩ 1 1 [.int .i64 (p j), .int .i64 (q * num)] rfl rfl (fun q' u h => by have := two_new (wr.alloc (.cells #[.int .i64 (p j), .int .i64 (c j)] 90)) (.int .i64 (p j)) (.int .i64 (q * num)) 90 q' u h; simpa using this) (by simp [Value.oneCell']) (by omega) ?_; intro w7 hown hgrow; obtain ⟨q1, q2, HPU⟩ := (HLAT.out _ _).pushed hgrow (by rw [HQ.out, Int.mul_comm]; exact hown); have HP := Hid.mk' HPU; clear hown hgrow HPU)))
              exact ⟨⟨j + 1, by omega, by go_num, HP, (fun i hi => by
                rcases Nat.lt_or_ge i j with h | h
                · exact HLE.out i h
                · obtain rfl : i = j := by omega
                  rw [HQ.out, HPR.out, Nat.mul_comm]; exact hof)⟩, by simp [intOf]; omega⟩
            · have hbr : 1099511627776 / (m : Int) < (q.natAbs : Int) := by
                rw [quo_most]
                have := fun h => hof ((most_iff (m := q.natAbs) hm1).1 h)
                exact Int.ofNat_lt.2 (Nat.lt_of_not_le this)
              have hff : fits = false := by
                cases hx : fits
                · rfl
                · have h9 := (HFIT.out.1 hx).2 j hjk
                  rw [HQ.out, HPR.out, Nat.mul_comm] at h9
                  exact absurd h9 hof
              have ge := HE.out _ (below_chain hbW (new_below wr (.cells #[.int .i64 (p j), .int .i64 (c j)] 90)))
              obtain ⟨_, _, ⟨k4, k5⟩, f4, f5⟩ := HC.out _ (below_chain hbW (new_below wr (.cells #[.int .i64 (p j), .int .i64 (c j)] 90)))
              have HBT := Hid.mk' (below_chain HB0.out (below_chain hbW (new_below wr (.cells #[.int .i64 (p j), .int .i64 (c j)] 90))))
              clear hbW hqb HE
              go_wp2_with (go_at_call 77; refine (hsz _).mono ?_; rintro e w8 ⟨rfl, hw8⟩; rw [hw8]; clear hw8)
              go_region
              all_goals
                go_wp2_with fail
                refine bodyPost_ret (v := .tuple #[.agg #[.int .i64 0, .slice none 0 0], .iface 183 (.pointer (some (a 1)))]) (by simp [results, Tryz.results70, go_sem, k4, k5]) rfl ⟨Or.inr ⟨hff, rfl⟩, ?_⟩
                exact (HBT.out.drew.setCell (by simp; omega) _).setCell (by simp; omega) _
          · obtain rfl : j = k := by omega
            have y0 := HO.out.o0
            have y1 := HO.out.o1
            obtain ⟨_, _, ⟨k4, k5⟩, f4, f5⟩ := HC.out wr hbW
            have hq := HBQ.out.size
            have hz0 := HZ0.out
            have HZZ := Hid.mk' hz0
            have hft : fits = true := HFIT.out.2 ⟨by omega, HLE.out⟩
            clear hbW hz0
            go_wp2_with fail
            refine bodyPost_ret (v := .tuple #[.agg #[.int .i64 (D : Int), .slice (some ⟨W2.heap.size, 0, none⟩) j j], .nilIface]) (by simp [results, Tryz.results70, go_sem, k4, k5]) rfl ⟨Or.inl ⟨hft, .slice (some ⟨W2.heap.size, 0, none⟩) j j, by rw [HDD.out], ?_⟩, ?_⟩
            · have hz0 := HZZ.out
              have h1 := ownsRow_setCell_below HO.out.row (a := ⟨w.heap.size + 1 + 1, 0, none⟩) (by show w.heap.size + 1 + 1 < _; omega) (.int .i64 (D : Int))
              have h2 := ownsRow_setCell_below h1 (a := ⟨w.heap.size + 1 + 1, 1, none⟩) (by show w.heap.size + 1 + 1 < _; omega) (.slice (some ⟨W2.heap.size, 0, none⟩) j j)
              rw [HNUM.out]
              exact ownAt_of_row h2
            · exact ((below_chain HB0.out HBW.out).setCell (by simp; omega) _).setCell (by simp; omega) _
end Go.Proofs.YtklhfagcembigaaGreatDoor

/- logs.Scale at any logarithm and fraction. -/
namespace Go.Proofs.YtklhfagcembigaaGreatDoor
open Go.RowKit Go.Maps

theorem own_congr {w : World} {v : Value} {n : Nat} {p c p' c' : Nat → Int} (h : OwnAt w v n p c) (he : ∀ i, i < n → p i = p' i ∧ c i = c' i) : OwnAt w v n p' c' := by
  rcases h with h | ⟨g, cap, rfl, ht⟩
  · exact Or.inl h
  · exact Or.inr ⟨g, cap, rfl, fun i hi => by rw [← (he i hi).1, ← (he i hi).2]; exact ht i hi⟩
theorem said_zero {M : Nat} {l : List (Int × Int)} (hM : 0 < M) (h0 : ∀ e ∈ l, e.2 = 0) (a : Nat → Addr) (w : World) : SaidOf M l a w 1 (.slice none 0 0) .nilIface := by
  have hg : gList M (l.map Prod.snd) = M := by
    rw [← gList_zeros]
    have : (l.map Prod.snd).filter (fun x => !decide (x = 0)) = [] := by
      rw [List.filter_eq_nil_iff]
      intro x hx
      obtain ⟨e, he, rfl⟩ := List.mem_map.1 hx
      simp [h0 e he]
    rw [this]
    rfl
  have ho : overL M l = [] := by
    unfold overL
    rw [List.filter_eq_nil_iff]
    intro x hx
    obtain ⟨e, he, rfl⟩ := List.mem_map.1 hx
    simp [h0 e he]
  left
  rw [hg, ho, Nat.div_self hM]
  exact ⟨⟨by rw [Nat.div_self hM]; decide, fun e he => by rw [h0 e he]; simp⟩, rfl, rfl, Or.inl ⟨rfl, rfl⟩⟩
theorem pOf_at {l : List (Int × Int)} {i : Nat} {e : Int × Int} (h : l[i]? = some e) : pOf l i = e.1 ∧ cOf l i = e.2 := by
  unfold pOf cOf
  rw [List.getD_eq_getElem?_getD, h]
  exact ⟨rfl, rfl⟩

/-- scaled's answer. -/
theorem scaled_said (da d : Nat) (n : Int) (ad : Option Addr) (cap : Nat) (t : List (Int × Int)) (a : Nat → Addr) (w : World) (h : Errs w a) (hl : LogAt w (.slice ad t.length cap) t.length (pOf t) (cOf t)) (hok : OkLog da t.length (pOf t) (cOf t)) (hn0 : 0 < t.length) (hn : t.length ≤ 100) (h1 : -1073741824 ≤ n) (h2 : n ≤ 1073741824) (hnz : n ≠ 0) (hd0 : 1 ≤ d) (hd1 : d ≤ 1073741824) (hlow : Nat.gcd n.natAbs d = 1) :
    Calls Tryz.prog 70 #[.agg #[.int .i64 da, .slice ad t.length cap], .agg #[.int .i64 n, .int .i64 d]] w fun e w' => ∃ (dn : Int) (ad : Option Addr) (len cap : Nat) (er : Value), e = .returned (.tuple #[.agg #[.int .i64 dn, .slice ad len cap], er]) ∧ SaidOf (da * d) (scaleL n t) a w' dn (.slice ad len cap) er ∧ Below w.heap.size w w' := by
  have hcan := OkLog.canon (d := da) hok
  have hda : 0 < da := hcan.pos
  obtain ⟨lf, hlf⟩ : ∃ lf, lf = Nat.gcd n.natAbs da := ⟨_, rfl⟩
  obtain ⟨rt, hrt⟩ : ∃ rt, rt = gcdTo d (cOf t) t.length := ⟨_, rfl⟩
  have hrl : rt = gList d (t.map Prod.snd) := by rw [hrt, gcdTo_list _ _ _ (Nat.le_refl _), List.take_length, Int.natAbs_natCast]
  have hG : gList (da * d) ((scaleL n t).map Prod.snd) = lf * rt := by rw [scale_gcd hda hd0 hcan.one hlow, ← hlf, ← hrl]
  have hl1 : lf ∣ da := by rw [hlf]; exact Nat.gcd_dvd_right _ _
  have hl2 : lf ∣ n.natAbs := by rw [hlf]; exact Nat.gcd_dvd_left _ _
  have hr1 : rt ∣ d := by rw [hrl]; exact (gList_dvd _ _).1
  have hr2 : ∀ e ∈ t, rt ∣ e.2.natAbs := fun e he => by rw [hrl]; exact (gList_dvd _ _).2 _ (List.mem_map.2 ⟨e, he, rfl⟩)
  have hlp : 0 < lf := Nat.pos_of_dvd_of_pos hl1 hda
  have hrp : 0 < rt := Nat.pos_of_dvd_of_pos hr1 hd0
  have hden := scale_den hl1 hr1
  have hco : ∀ e ∈ t, (n * e.2).tdiv ((lf * rt : Nat) : Int) = n.tdiv (lf : Int) * e.2.tdiv (rt : Int) := fun e he => scale_coef hl2 (hr2 e he) hlp hrp
  have hcz : ∀ e ∈ t, n.tdiv (lf : Int) * e.2.tdiv (rt : Int) ≠ 0 := fun e he h0 => by
    rw [← hco e he] at h0
    have h3 : ((lf * rt : Nat) : Int) ∣ n * e.2 := by
      rw [Int.natCast_mul]
      exact Int.mul_dvd_mul (Int.ofNat_dvd_left.2 hl2) (Int.ofNat_dvd_left.2 (hr2 e he))
    have h4 := Int.mul_tdiv_cancel' h3
    rw [h0, Int.mul_zero] at h4
    rcases Int.mul_eq_zero.1 h4.symm with h5 | h5
    · exact hnz h5
    · exact hcan.nz e he h5
  have hov : overL (lf * rt) (scaleL n t) = t.map fun e => (e.1, n.tdiv (lf : Int) * e.2.tdiv (rt : Int)) := by
    unfold overL scaleL
    rw [List.map_map]
    have e1 : t.map ((fun e : Int × Int => (e.1, e.2.tdiv ((lf * rt : Nat) : Int))) ∘ fun e => (e.1, n * e.2)) = t.map fun e => (e.1, n.tdiv (lf : Int) * e.2.tdiv (rt : Int)) := List.map_congr_left fun e he => by
      show (e.1, (n * e.2).tdiv ((lf * rt : Nat) : Int)) = _
      rw [hco e he]
    rw [e1]
    refine List.filter_eq_self.2 fun x hx => ?_
    obtain ⟨e, he, rfl⟩ := List.mem_map.1 hx
    simpa using hcz e he
  have hfi : FitsL (da * d) (lf * rt) (scaleL n t) ↔ (da / lf * (d / rt) ≤ 1000000 ∧ ∀ i, i < t.length → (n.tdiv (lf : Int) * (cOf t i).tdiv (rt : Int)).natAbs ≤ 1099511627776) := by
    unfold FitsL
    rw [hden]
    constructor
    · rintro ⟨f1, f2⟩
      refine ⟨f1, fun i hi => ?_⟩
      have hm := List.getElem_mem hi
      have h3 := f2 (t[i].1, n * t[i].2) (List.mem_map.2 ⟨_, hm, rfl⟩)
      rw [hco _ hm] at h3
      rw [(pOf_at (List.getElem?_eq_getElem hi)).2]
      exact h3
    · rintro ⟨f1, f2⟩
      refine ⟨f1, fun x hx => ?_⟩
      obtain ⟨e, he, rfl⟩ := List.mem_map.1 hx
      obtain ⟨i, hi, rfl⟩ := List.getElem_of_mem he
      have h3 := f2 i hi
      rw [(pOf_at (List.getElem?_eq_getElem hi)).2] at h3
      show ((n * t[i].2).tdiv ((lf * rt : Nat) : Int)).natAbs ≤ _
      rw [hco _ he]
      exact h3
  obtain ⟨fits, hfits⟩ := bool_of (FitsL (da * d) (lf * rt) (scaleL n t))
  refine (scaled_any da d n ad t.length cap (pOf t) (cOf t) a w h hl hok hn0 hn h1 h2 hnz hd0 hd1 lf rt hlf hrt fits (hfits.trans hfi)).mono ?_
  rintro e w' ⟨hx, hb⟩
  rcases hx with ⟨hft, v, rfl, hv⟩ | ⟨hff, rfl⟩
  · obtain ⟨ad', m', cap', rfl⟩ := own_form hv
    refine ⟨_, ad', m', cap', .nilIface, rfl, Or.inl ?_, hb⟩
    rw [hG, hov, hden]
    refine ⟨hfits.1 hft, rfl, rfl, ?_⟩
    unfold ListAt
    rw [List.length_map]
    refine own_congr hv fun i hi => ?_
    have h3 := pOf_at (List.getElem?_eq_getElem hi)
    have h4 : (t.map fun e => (e.1, n.tdiv (lf : Int) * e.2.tdiv (rt : Int)))[i]? = some (t[i].1, n.tdiv (lf : Int) * t[i].2.tdiv (rt : Int)) := by rw [List.getElem?_map, List.getElem?_eq_getElem hi]; rfl
    have h5 := pOf_at h4
    rw [h3.1, h3.2, h5.1, h5.2]
    exact ⟨rfl, rfl⟩
  · refine ⟨0, none, 0, 0, _, rfl, Or.inr ?_, hb⟩
    rw [hG]
    refine ⟨fun hf => ?_, rfl, rfl, rfl⟩
    have := hfits.2 hf
    rw [hff] at this
    cases this
end Go.Proofs.YtklhfagcembigaaGreatDoor

/- The law's one, the document's OfFrac. -/
namespace Go.Proofs.YtklhfagcembigaaGreatDoor
open Go.RowKit

end Go.Proofs.YtklhfagcembigaaGreatDoor

/- The law LogsAdds. -/
namespace Go.Proofs.YtklhfagcembigaaGreatDoor
open Go.RowKit

theorem lcm_two {da db g : Nat} (hg : g = Int.gcd (da : Int) (db : Int)) (hda : 0 < da) : da / g * db = da * 1 * (db / g) ∧ da / g * db = db * 1 * (da / g) ∧ 0 < g := by
  have h1 : g = Nat.gcd da db := by rw [hg]; simp [Int.gcd]
  have hp : 0 < g := by rw [h1]; exact Nat.gcd_pos_of_pos_left _ hda
  obtain ⟨a, ha⟩ : g ∣ da := by rw [h1]; exact Nat.gcd_dvd_left _ _
  obtain ⟨b, hb⟩ : g ∣ db := by rw [h1]; exact Nat.gcd_dvd_right _ _
  clear hg h1
  have e1 : da / g = a := by rw [ha]; exact Nat.mul_div_cancel_left _ hp
  have e2 : db / g = b := by rw [hb]; exact Nat.mul_div_cancel_left _ hp
  rw [e1, e2]
  refine ⟨?_, ?_, hp⟩
  · rw [ha, hb]; grind
  · rw [hb]; grind

/-- Add's answer of two in form. -/
theorem Add_said (da db : Nat) (ad1 ad2 : Option Addr) (cap1 cap2 : Nat) (t1 t2 : List (Int × Int)) (a : Nat → Addr) (w : World) (h : Errs w a) (hl1 : LogAt w (.slice ad1 t1.length cap1) t1.length (pOf t1) (cOf t1)) (hl2 : LogAt w (.slice ad2 t2.length cap2) t2.length (pOf t2) (cOf t2))
    (hok1 : OkLog da t1.length (pOf t1) (cOf t1)) (hok2 : OkLog db t2.length (pOf t2) (cOf t2)) (hn : t1.length + t2.length ≤ 100) (g : Nat) (hg : g = Int.gcd (da : Int) (db : Int)) :
    Calls Tryz.prog 40 #[.agg #[.int .i64 da, .slice ad1 t1.length cap1], .agg #[.int .i64 db, .slice ad2 t2.length cap2]] w fun e w' => ∃ (l : List (Int × Int)) (dn : Int) (ad : Option Addr) (len cap : Nat) (er : Value), e = .returned (.tuple #[.agg #[.int .i64 dn, .slice ad len cap], er]) ∧ Rising l ∧ (∀ x, atL l x = atL t1 x * ((db / g : Nat) : Int) + atL t2 x * ((da / g : Nat) : Int)) ∧ l.length ≤ t1.length + t2.length ∧ SaidOf (da / g * db) l a w' dn (.slice ad len cap) er ∧ Below w.heap.size w w' := by
  refine (Add_any da db ad1 ad2 cap1 cap2 t1 t2 a w h hl1 hl2 hok1 hok2 (by omega) g hg).mono ?_
  rintro e w' ⟨⟨l, G, hr, hv, hG, hln, hx⟩, hb⟩
  rw [gcdL_list hr] at hG
  have hf : Fits ((da / g * db : Nat) : Int) G l ↔ FitsL (da / g * db) G l := by
    unfold Fits FitsL
    have : (((da / g * db : Nat) : Int) / (G : Int) ≤ 1000000) ↔ da / g * db / G ≤ 1000000 := by
      generalize da / g * db = D
      rw [show (D : Int) / (G : Int) = ((D / G : Nat) : Int) by simp]
      omega
    rw [this]
  rcases hx with ⟨hfit, v, rfl, hl⟩ | ⟨hfit, rfl⟩
  · obtain ⟨ad, m, cap, rfl⟩ := own_form hl
    refine ⟨l, _, ad, m, cap, .nilIface, rfl, hr, hv, hln, Or.inl ?_, hb⟩
    rw [hG]
    exact ⟨hf.1 hfit, by simp, rfl, hl⟩
  · refine ⟨l, 0, none, 0, 0, _, rfl, hr, hv, hln, Or.inr ?_, hb⟩
    rw [hG]
    exact ⟨fun h => hfit (hf.2 h), rfl, rfl, rfl⟩

end Go.Proofs.YtklhfagcembigaaGreatDoor

/- The law LogsAdds, walked. -/
namespace Go.Proofs.YtklhfagcembigaaGreatDoor
open Go.RowKit

theorem own_set {w : World} {v : Value} {n : Nat} {p c : Nat → Int} {B : Nat} {ad : Option Addr} {l cap : Nat} {x y : Value} (h : OwnAt w v n p c) (hx : w.cell? ⟨B, 1, none⟩ = some (.slice ad l cap)) : OwnAt ((w.setCell ⟨B, 0, none⟩ x).setCell ⟨B, 1, none⟩ y) v n p c := by
  rcases h with h | ⟨g, cap', rfl, ht⟩
  · exact Or.inl h
  · refine Or.inr ⟨g, cap', rfl, fun i hi => ?_⟩
    have hne : B ≠ g := fun e => by
      have h1 := (ht 0 (by omega)).2
      rw [← e] at h1
      simp only [Nat.zero_mul, Nat.zero_add] at h1
      rw [hx] at h1
      cases h1
    constructor
    · rw [World.cell?_setCell_far _ _ _ _ hne, World.cell?_setCell_far _ _ _ _ hne]; exact (ht i hi).1
    · rw [World.cell?_setCell_far _ _ _ _ hne, World.cell?_setCell_far _ _ _ _ hne]; exact (ht i hi).2
theorem SaidOf.set {M : Nat} {l : List (Int × Int)} {a : Nat → Addr} {w : World} {dn : Int} {v er : Value} {B : Nat} {ad : Option Addr} {n cap : Nat} {x y : Value} (ht : SaidOf M l a w dn v er) (hx : w.cell? ⟨B, 1, none⟩ = some (.slice ad n cap)) : SaidOf M l a ((w.setCell ⟨B, 0, none⟩ x).setCell ⟨B, 1, none⟩ y) dn v er := by
  rcases ht with ⟨h1, h2, h3, h4⟩ | h
  · exact Or.inl ⟨h1, h2, h3, own_set h4 hx⟩
  · exact Or.inr h
theorem ToldOf.set {M : Nat} {l : List (Int × Int)} {w : World} {dn code : Int} {v : Value} {B : Nat} {ad : Option Addr} {n cap : Nat} {x y : Value} (ht : ToldOf M l w dn v code) (hx : w.cell? ⟨B, 1, none⟩ = some (.slice ad n cap)) : ToldOf M l ((w.setCell ⟨B, 0, none⟩ x).setCell ⟨B, 1, none⟩ y) dn v code := by
  rcases ht with ⟨h1, h2, h3, h4⟩ | h
  · exact Or.inl ⟨h1, h2, h3, own_set h4 hx⟩
  · exact Or.inr h
/-- A logarithm's box, ahead of its store. -/
structure NewBoxL (W0 W : World) (B : Nat) : Prop where
  c0 : W.cell? ⟨B, 0, none⟩ = some (.int .i64 0)
  c1 : W.cell? ⟨B, 1, none⟩ = some (.slice none 0 0)
  f0 : W.frozen? ⟨B, 0, none⟩ = false
  f1 : W.frozen? ⟨B, 1, none⟩ = false
  hB : W0.heap.size ≤ B
theorem NewBoxL.later {W0 W W' : World} {B : Nat} (h : NewBoxL W0 W B) (hb : Below W.heap.size W W') : NewBoxL W0 W' B :=
  ⟨(cell_past h.c0 hb).2, (cell_past h.c1 hb).2, (frozen_past h.c0 h.f0 hb).2, (frozen_past h.c1 h.f1 hb).2, h.hB⟩
theorem newBoxL_of {W0 W W' : World} (h : Below W0.heap.size W0 W) (hb : Below (W.alloc (.cells #[.int .i64 0, .slice none 0 0] 27)).heap.size (W.alloc (.cells #[.int .i64 0, .slice none 0 0] 27)) W') : NewBoxL W0 W' W.heap.size := by
  obtain ⟨c0, c1, f0, f1⟩ := res_past hb
  exact ⟨c0, c1, f0, f1, h.size⟩
/-- The program's answer in its box. -/
structure SaidBox (W0 W : World) (B : Nat) (M : Nat) (l : List (Int × Int)) (a : Nat → Addr) (er : Value) : Prop where
  below : Below W0.heap.size W0 W
  box : ∃ dn ad n cap, W.cell? ⟨B, 0, none⟩ = some (.int .i64 dn) ∧ W.cell? ⟨B, 1, none⟩ = some (.slice ad n cap) ∧ SaidOf M l a W dn (.slice ad n cap) er
theorem saidBox_late {W0 W : World} {M : Nat} {l : List (Int × Int)} {a : Nat → Addr} {er : Value} {dn : Int} {ad : Option Addr} {n cap : Nat} (h : Below W0.heap.size W0 W) (hs : SaidOf M l a W dn (.slice ad n cap) er) : SaidBox W0 (W.alloc (.cells #[.int .i64 dn, .slice ad n cap] 27)) W.heap.size M l a er :=
  ⟨more_below h _, dn, ad, n, cap, by rw [World.cell?_alloc_at _ _ _ _ rfl]; rfl, by rw [World.cell?_alloc_at _ _ _ _ rfl]; rfl, hs.later (new_below _ _)⟩
theorem saidBox_soon {W0 W : World} {B M : Nat} {l : List (Int × Int)} {a : Nat → Addr} {er : Value} {dn : Int} {ad : Option Addr} {n cap : Nat} (h : Below W0.heap.size W0 W) (hs : SaidOf M l a W dn (.slice ad n cap) er) (hn : NewBoxL W0 W B) : SaidBox W0 ((W.setCell ⟨B, 0, none⟩ (.int .i64 dn)).setCell ⟨B, 1, none⟩ (.slice ad n cap)) B M l a er :=
  ⟨setB_below h hn.hB _ _, dn, ad, n, cap, by rw [World.cell?_setCell_other _ _ _ _ (by simp)]; exact World.cell?_setCell_same _ _ _ hn.c0, World.cell?_setCell_same _ _ _ (by rw [World.cell?_setCell_other _ _ _ _ (by simp)]; exact hn.c1), hs.set hn.c1⟩
/-- The document's answer in its box. -/
structure ToldBox (W0 W : World) (B : Nat) (M : Nat) (l : List (Int × Int)) (code : Int) : Prop where
  below : Below W0.heap.size W0 W
  box : ∃ dn ad n cap, W.cell? ⟨B, 0, none⟩ = some (.int .i64 dn) ∧ W.cell? ⟨B, 1, none⟩ = some (.slice ad n cap) ∧ ToldOf M l W dn (.slice ad n cap) code
theorem toldBox_soon {W0 W : World} {B M : Nat} {l : List (Int × Int)} {code dn : Int} {ad : Option Addr} {n cap : Nat} (h : Below W0.heap.size W0 W) (hs : ToldOf M l W dn (.slice ad n cap) code) (hn : NewBoxL W0 W B) : ToldBox W0 ((W.setCell ⟨B, 0, none⟩ (.int .i64 dn)).setCell ⟨B, 1, none⟩ (.slice ad n cap)) B M l code :=
  ⟨setB_below h hn.hB _ _, dn, ad, n, cap, by rw [World.cell?_setCell_other _ _ _ _ (by simp)]; exact World.cell?_setCell_same _ _ _ hn.c0, World.cell?_setCell_same _ _ _ (by rw [World.cell?_setCell_other _ _ _ _ (by simp)]; exact hn.c1), hs.set hn.c1⟩

theorem own_logAt {w : World} {v : Value} {n : Nat} {p c : Nat → Int} (h : (v = .slice none 0 0 ∧ n = 0) ∨ ∃ g cap, v = .slice (some ⟨g, 0, none⟩) n cap ∧ TermsAt w g 0 n p c) : ∃ ad cap, v = .slice ad n cap ∧ LogAt w v n p c := by
  rcases h with ⟨rfl, rfl⟩ | ⟨g, cap, rfl, ht⟩
  · exact ⟨none, 0, rfl, Or.inl ⟨none, 0, rfl, rfl⟩⟩
  · rcases Nat.eq_zero_or_pos n with rfl | hn
    · exact ⟨_, cap, rfl, Or.inl ⟨_, cap, rfl, rfl⟩⟩
    · exact ⟨_, cap, rfl, Or.inr ⟨g, 0, cap, rfl, hn, ht⟩⟩
/-- What the law's boxes hold. -/
structure TwoLogs (w : World) (a : Nat → Addr) (da db : Int) (s1 s2 : Value) (n1 n2 : Nat) (p1 c1 p2 c2 : Nat → Int) (W : World) : Prop where
  errs : Errs W a
  log1 : LogAt W s1 n1 p1 c1
  log2 : LogAt W s2 n2 p2 c2
  x0 : W.cell? ⟨w.heap.size, 0, none⟩ = some (.int .i64 da)
  x1 : W.cell? ⟨w.heap.size, 1, none⟩ = some s1
  y0 : W.cell? ⟨w.heap.size + 1, 0, none⟩ = some (.int .i64 db)
  y1 : W.cell? ⟨w.heap.size + 1, 1, none⟩ = some s2
  below : Below w.heap.size w W
theorem twoLogs {w W : World} {a : Nat → Addr} {da db : Int} {ad1 ad2 : Option Addr} {m1 m2 cap1 cap2 n1 n2 : Nat} {p1 c1 p2 c2 : Nat → Int} (h : Errs w a) (hl1 : LogAt w (.slice ad1 m1 cap1) n1 p1 c1) (hl2 : LogAt w (.slice ad2 m2 cap2) n2 p2 c2)
    (hb : Below ((w.alloc (.cells #[.int .i64 da, .slice ad1 m1 cap1] 27)).alloc (.cells #[.int .i64 db, .slice ad2 m2 cap2] 27)).heap.size ((w.alloc (.cells #[.int .i64 da, .slice ad1 m1 cap1] 27)).alloc (.cells #[.int .i64 db, .slice ad2 m2 cap2] 27)) W) : TwoLogs w a da db (.slice ad1 m1 cap1) (.slice ad2 m2 cap2) n1 n2 p1 c1 p2 c2 W := by
  have h0 := below_chain (more_below (new_below w (.cells #[.int .i64 da, .slice ad1 m1 cap1] 27)) (.cells #[.int .i64 db, .slice ad2 m2 cap2] 27)) hb
  obtain ⟨q0, q1, _, _⟩ := res_past (below_chain (new_below (w.alloc (.cells #[.int .i64 da, .slice ad1 m1 cap1] 27)) (.cells #[.int .i64 db, .slice ad2 m2 cap2] 27)) hb)
  obtain ⟨q2, q3, _, _⟩ := res_past hb
  simp only [World.size_alloc] at q2 q3
  exact ⟨h.below h0, hl1.later h0, hl2.later h0, q0, q1, q2, q3, h0⟩

end Go.Proofs.YtklhfagcembigaaGreatDoor
