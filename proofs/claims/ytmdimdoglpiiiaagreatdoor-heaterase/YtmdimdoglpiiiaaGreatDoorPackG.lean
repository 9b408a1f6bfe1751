/- Sums of what is told of a table: the chain rule; logs.Add and SameLog of what is told of sums. -/
import Derived.Test.YtmdimdoglpiiiaaGreatDoorPackF
import Derived.Test.YtmdimdoglpiiiaaGreatDoorPackB
import Derived.Test.YtmdimdoglpiiiaaGreatDoorPackC
import Derived.Test.YtmdimdoglpiiiaaGreatDoorPackE
import Derived.Test.YtmdimdoglpiiiaaGreatDoorCopy
import Derived.Test.YtmdimdoglpiiiaaGreatDoorRows
import Derived.Test.YtmdimdoglpiiiaaGreatDoorCode
import Derived.ChangeSame
import Derived.ChangeVars
import Derived.JoinedOf
import Derived.LaidLaws
import Derived.LaidHandle
import Derived.LaidMore
import Derived.Stop.Joined
import Derived.Test.YtmdimdoglpiiiaaGreatDoorInts
import Derived.Test.YtmdimdoglpiiiaaGreatDoorCards
import Derived.Test.YtmdimdoglpiiiaaGreatDoorTie
import Derived.SevenTiedAt
import Derived.ProofKit
import Derived.OpenShut
import Derived.ChangeOld
import Derived.Lib.SmallJoins
import Derived.Deep.Matrix
namespace Go.Proofs.YtmdimdoglpiiiaaGreatDoor
open Go.RowKit

theorem ent_primW {z : Nat → Int} {n N : Nat} (h : OkW z n) (hn : n ≤ 256) (hN : 1 ≤ N ∧ N ≤ 4096) : Prim fun x => sumN (entV z N x) n := by
  refine ⟨fun x => ent_bound (fun i hi => h.lt hi) hN.2 hn x, ?_⟩
  refine supp_sum (F := fun i x => entV z N x i) fun i hi => ?_
  have hc := h.lt hi
  exact (supp_term _ N (fun _ => hN)).sub (supp_term _ _ (fun h0 => by omega))
theorem ent_rows {R N : Nat} {ns : Nat → Nat} {zs : Nat → Nat → Int} (h : OkT R ns zs N) (x : Int) : sumN (entV (rowSum ns zs) N x) R = sumN (fun i => sumN (fun j => zs i j * (multI x N - multI x (rowSum ns zs i).toNat)) (ns 0)) R := by
  refine sumN_congr fun i hi => ?_
  rw [sumN_times]
  unfold entV
  have e : sumN (fun j => zs i j) (ns 0) = rowSum ns zs i := by unfold rowSum; rw [h.even i hi]
  rw [e, Int.mul_sub]
theorem ent_flat {R N n : Nat} {ns : Nat → Nat} {zs : Nat → Nat → Int} {L : List Int} (h : OkT R ns zs N) (hL : L = flatL ns zs R) (hn : L.length = n) (x : Int) : sumN (entV (atF L) N x) n = sumN (fun i => sumN (fun j => zs i j * multI x N - zs i j * multI x (zs i j).toNat) (ns 0)) R := by
  have h1 := sumN_map (fun z => z * multI x N - z * multI x z.toNat) L
  rw [hL, lsum_flat, ← hL, hn] at h1
  show sumN (fun i => atF L i * multI x N - atF L i * multI x (atF L i).toNat) n = _
  rw [h1]
  exact sumN_congr fun i hi => by rw [h.even i hi]
/-- The chain rule, by places. -/
theorem chain_one {R N n : Nat} {ns : Nat → Nat} {zs : Nat → Nat → Int} {L : List Int} (h : OkT R ns zs N) (hL : L = flatL ns zs R) (hn : L.length = n) (x : Int) : sumN (entV (rowSum ns zs) N x) R + sumN (givV ns zs x) R = sumN (entV (atF L) N x) n := by
  rw [ent_flat h hL hn, ent_rows h, ← sumN_plus]
  refine sumN_congr fun i hi => ?_
  unfold givV
  rw [h.even i hi, ← sumN_plus]
  refine sumN_congr fun j _ => ?_
  unfold entV rowSum
  rw [h.even i hi]
  grind
theorem chain_two {R N n : Nat} {ns : Nat → Nat} {zs : Nat → Nat → Int} {L : List Int} (h : OkT R ns zs N) (hL : L = flatL ns zs R) (hn : L.length = n) (x : Int) : sumN (entV (rowSum ns zs) N x) R + sumN (entV (colV zs R) N x) (ns 0) = sumN (fun i => sumN (mutV (zs i) (rowSum ns zs i) (colV zs R) N x) (ns 0)) R + sumN (entV (atF L) N x) n := by
  rw [ent_flat h hL hn, ent_rows h, ent_cols, ← sumN_plus, ← sumN_plus]
  refine sumN_congr fun i _ => ?_
  rw [← sumN_plus, ← sumN_plus]
  refine sumN_congr fun j _ => ?_
  unfold mutV
  grind
theorem chain_turned {R N : Nat} {ns : Nat → Nat} {zs : Nat → Nat → Int} (h : OkT R ns zs N) (x : Int) : sumN (fun i => sumN (mutV (zs i) (rowSum ns zs i) (colV zs R) N x) (ns 0)) R = sumN (fun j => sumN (mutV (fun i => zs i j) (rowSum (fun _ => R) (fun j i => zs i j) j) (colV (fun j i => zs i j) (ns 0)) N x) R) (ns 0) := by
  rw [sumN_swap]
  refine sumN_congr fun j _ => sumN_congr fun i hi => ?_
  have e1 : colV (fun j i => zs i j) (ns 0) i = rowSum ns zs i := by unfold colV rowSum; rw [h.even i hi]
  have e2 : rowSum (fun _ => R) (fun j i => zs i j) j = colV zs R j := rfl
  unfold mutV
  rw [e1, e2]
  grind
/-- The table turned over is right, too. -/
theorem okT_turned {R N : Nat} {ns : Nat → Nat} {zs : Nat → Nat → Int} (h : OkT R ns zs N) : OkT (ns 0) (fun _ => R) (fun j i => zs i j) N := by
  refine ⟨h.c0, h.c16, h.r0, h.r16, fun _ _ => rfl, fun j hj i hi => h.nn i hi j (by rw [h.even i hi]; exact hj), ?_, h.n1, h.n6⟩
  have h2 := h.tot
  have h3 : sumN (fun i => sumN (zs i) (ns i)) R = sumN (fun i => sumN (fun j => zs i j) (ns 0)) R := sumN_congr fun i hi => by rw [h.even i hi]
  rw [h3, sumN_swap] at h2
  exact h2
/-- A logarithm in its form, of a sum over M. -/
def FormBy (W : World) (M : Nat) (F : Int → Int) (d : Int) (v : Value) : Prop := ∃ (t : List (Int × Int)) (n : Nat), d = (n : Int) ∧ ListAt W v t ∧ Canon n t ∧ (∀ x, (M : Int) * atL t x = (n : Int) * F x) ∧ t.length ≤ 10000
theorem FormBy.later {W W' : World} {M : Nat} {F : Int → Int} {d : Int} {v : Value} (h : FormBy W M F d v) (hb : Below W.heap.size W W') : FormBy W' M F d v := by
  obtain ⟨t, n, h1, h2, h3⟩ := h
  exact ⟨t, n, h1, h2.later hb, h3⟩
theorem FormBy.slice {W : World} {M : Nat} {F : Int → Int} {d : Int} {v : Value} (h : FormBy W M F d v) : ∃ ad n cap, v = .slice ad n cap := by
  obtain ⟨t, n, _, h2, _⟩ := h
  exact ownAt_slice h2
theorem LogBy.formed {base M : Nat} {f : Int → Int} {w : World} {dn : Int} {v : Value} (h : LogBy base M f w dn v) (hM : 1 ≤ M) (hM6 : M ≤ 1000000) (hf : Prim f) : FormBy w M f dn v := by
  obtain ⟨t, d, G, rfl, hl, hn, hMG, hG, hv, hok⟩ := h.ok hM hM6 hf
  refine ⟨t, d, rfl, hl, hok.canon, fun x => ?_, by omega⟩
  rw [hv x, hMG]
  simp only [Int.natCast_mul]
  grind
theorem form_same {W : World} {M : Nat} {F F' : Int → Int} {d d' : Int} {v v' : Value} (h : FormBy W M F d v) (h' : FormBy W M F' d' v') (hM : 0 < M) (he : ∀ x, F x = F' x) :
    Calls Tryz.prog 16 #[.agg #[.int .i64 d, v], .agg #[.int .i64 d', v']] W fun e w' => e = .returned (.bool true) ∧ Below W.heap.size W w' := by
  obtain ⟨t, n, rfl, l1, c1, v1, n1⟩ := h
  obtain ⟨t', n', rfl, l2, c2, v2, n2⟩ := h'
  obtain ⟨rfl, rfl⟩ := canon_uniq c1 c2 (fun x => by
    have a1 := v1 x
    have a2 := v2 x
    rw [← he x] at a2
    refine Int.eq_of_mul_eq_mul_left (show (M : Int) ≠ 0 by omega) ?_
    generalize atL t x = A at *
    generalize atL t' x = B at *
    generalize F x = Z at *
    have e1 : (M : Int) * (A * (n' : Int)) = (M : Int) * A * (n' : Int) := by grind
    have e2 : (M : Int) * (B * (n : Int)) = (M : Int) * B * (n : Int) := by grind
    rw [e1, e2, a1, a2]
    grind)
  exact SameLog_own _ v v' t.length (pOf t) (cOf t) W l1 l2 (by omega)
theorem atL_over_any (F : Int → Int) : ∀ (t : List (Int × Int)) (x : Int), (∀ e ∈ t, e.1 ≠ x) ∧ atL (t.map fun e => (e.1, F e.1)) x = 0 ∨ atL (t.map fun e => (e.1, F e.1)) x = F x
  | [], x => Or.inl ⟨(fun e he => by cases he), rfl⟩
  | e :: r, x => by
    simp only [List.map_cons, atL]
    by_cases h : e.1 = x
    · refine Or.inr ?_
      simp [h]
    · rcases atL_over_any F r x with ⟨h1, h2⟩ | h1
      · refine Or.inl ⟨fun f hf => ?_, by simp [h, h2]⟩
        rcases List.mem_cons.1 hf with rfl | hf
        · exact h
        · exact h1 f hf
      · refine Or.inr ?_
        simp [h, h1]
end Go.Proofs.YtmdimdoglpiiiaaGreatDoor

/- Errors with their places, held against a number and a place. -/
namespace Go.Proofs.YtmdimdoglpiiiaaGreatDoor
open Go.RowKit

theorem Code_pl (a : Nat → Addr) (v : Value) (c : Nat × Int) (w : World) (hE : Errs w a) (h : ErrPl a w v c) :
    Calls Tryz.prog 14 #[v] w fun e w' => (∃ t, e = .returned (.tuple #[.int .i64 (c.1 : Int), .int .i64 t]) ∧ (c.1 ≠ 0 → t = c.2)) ∧ Below w.heap.size w w' := by
  rcases h with ⟨rfl, h2, h3⟩ | ⟨pb, rfl, h1, h2, h3, h4⟩
  · by_cases h0 : c.1 = 0
    · rw [h0, errV_zero]
      refine (code_nil w).mono ?_
      rintro e w' ⟨rfl, rfl⟩
      exact ⟨⟨-1, rfl, fun h => absurd rfl h⟩, Below.refl _ _⟩
    · rw [errV_pos a h0]
      have hk := hE.row (c.1 - 1) (by omega)
      refine (code_err a (a (c.1 - 1)) (c.1 - 1) (by omega) w hE hk (fun j hj => hE.ne (c.1 - 1) j (by omega) (by omega) (by omega)) (fun _ => rfl)).mono ?_
      rintro e w' ⟨rfl, hb⟩
      rw [codeOf_lt (by omega)]
      exact ⟨⟨-1, by rw [show ((c.1 - 1 : Nat) : Int) + 1 = (c.1 : Int) by omega], fun _ => h2.symm⟩, hb⟩
  · refine (code_fault a pb c.2 (c.1 - 1) (by omega) w hE (cell_lt h1) h1 h2).mono ?_
    rintro e w' ⟨rfl, hb⟩
    exact ⟨⟨c.2, by rw [show ((c.1 - 1 : Nat) : Int) + 1 = (c.1 : Int) by omega], fun _ => rfl⟩, hb⟩

end Go.Proofs.YtmdimdoglpiiiaaGreatDoor

/- HeatErase: the law. -/
namespace Go.Proofs.YtmdimdoglpiiiaaGreatDoor
open Go.RowKit

set_option maxRecDepth 100000 in
set_option maxHeartbeats 2000000 in
theorem Erase_to (v : Value) (w : World) (C : Value → World → Prop) (hC : ∀ W, Below w.heap.size w W → w.heap.size < W.heap.size → Calls Tryz.prog 13 #[v] W fun e w' => ∃ (dn : Int) (ad : Option Addr) (n c : Nat) (ev : Value), e = .returned (.tuple #[.agg #[.int .i64 dn, .slice ad n c], ev]) ∧ C (.tuple #[.agg #[.int .i64 dn, .slice ad n c], ev]) w' ∧ Below W.heap.size W w') (hK : ∀ r W (x y : Value), C r W → W.cell? ⟨w.heap.size, 0, none⟩ = some (.int .i64 0) → W.cell? ⟨w.heap.size, 1, none⟩ = some (.slice none 0 0) → C r ((W.setCell ⟨w.heap.size, 0, none⟩ x).setCell ⟨w.heap.size, 1, none⟩ y)) (hv : ∃ ad n c, v = .slice ad n c) :
    Calls Tryz.prog 11 #[v] w fun e w' => ∃ r, e = .returned r ∧ C r w' ∧ Below w.heap.size w w' := by
  obtain ⟨va, vn, vc, rfl⟩ := hv
  obtain ⟨w1, hw1⟩ : ∃ w1, w1 = w.alloc (.cells #[.int .i64 0, .slice none 0 0] 51) := ⟨_, rfl⟩
  have hb1 : Below w.heap.size w w1 := by rw [hw1]; exact (Below.refl _ _).alloc (Nat.le_refl _) _
  have c0 : w1.cell? ⟨w.heap.size, 0, none⟩ = some (.int .i64 0) := by rw [hw1]; simp
  have c1 : w1.cell? ⟨w.heap.size, 1, none⟩ = some (.slice none 0 0) := by rw [hw1]; simp
  have f0 : w1.frozen? ⟨w.heap.size, 0, none⟩ = false := by rw [hw1]; simp
  have f1 : w1.frozen? ⟨w.heap.size, 1, none⟩ = false := by rw [hw1]; simp
  have HB1 := Hid.mk' hb1
  have HW1 := Hid.mk' hw1
  have HCC := Hid.mk' (hC w1 hb1 (by rw [hw1]; simp))
  have HK := Hid.mk' hK
  have HC1 : Hid (∀ W, Below w1.heap.size w1 W → (W.cell? ⟨w.heap.size, 0, none⟩ = some (.int .i64 0) ∧ W.cell? ⟨w.heap.size, 1, none⟩ = some (.slice none 0 0)) ∧ W.frozen? ⟨w.heap.size, 0, none⟩ = false ∧ W.frozen? ⟨w.heap.size, 1, none⟩ = false) := fun W hb => ⟨⟨by rw [hb.cell (cell_lt c0)]; exact c0, by rw [hb.cell (cell_lt c1)]; exact c1⟩, by rw [hb.frozen (show w.heap.size < w1.heap.size from cell_lt c0)]; exact f0, by rw [hb.frozen (show w.heap.size < w1.heap.size from cell_lt c0)]; exact f1⟩
  clear hb1 hw1 hC hK c0 c1 f0 f1
  go_enter Tryz.func11, Tryz.ntmps11
  go_upto_region 1 with fail
  rw [← HW1.out]
  go_wp2_with fail
  refine HCC.out.mono ?_
  rintro e w2 ⟨dn, ad, n, c, ev, rfl, hc, hb2⟩
  have HB2 := Hid.mk' (below_chain HB1.out hb2)
  obtain ⟨⟨d0, d1⟩, d2, d3⟩ := HC1.out w2 hb2
  have HCF := Hid.mk' (HK.out _ w2 (.int .i64 dn) (.slice ad n c) hc d0 d1)
  have HG := Hid.mk' (put_two (.int .i64 dn) (.slice ad n c) d0 d1)
  have HBE : Hid (Below w.heap.size w ((w2.setCell ⟨w.heap.size, 0, none⟩ (.int .i64 dn)).setCell ⟨w.heap.size, 1, none⟩ (.slice ad n c))) := (HB2.out.setCell (Nat.le_refl _) _).setCell (Nat.le_refl _) _
  obtain ⟨q0, _, _⟩ := HG.out
  clear hc hb2 HCC HK HC1
  go_wp2_with fail
  generalize (w2.setCell ⟨w.heap.size, 0, none⟩ (.int .i64 dn)).setCell ⟨w.heap.size, 1, none⟩ (.slice ad n c) = W9 at *
  exact bodyPost_ret (v := .tuple #[.agg #[.int .i64 dn, .slice ad n c], ev]) (by simp [results, Tryz.results11, go_sem, HG.out.2.1, HG.out.2.2]) rfl ⟨_, rfl, HCF.out, HBE.out⟩
/-- What Entropy tells, right or wrong. -/
def EntR (a : Nat → Addr) (B0 N n : Nat) (z : Nat → Int) (r : Value) (w : World) : Prop := (weightsErr z n ≠ 0 ∧ r = .tuple #[.agg #[.int .i64 0, .slice none 0 0], errV a (weightsErr z n)]) ∨ (weightsErr z n = 0 ∧ ∃ dn v base, r = .tuple #[.agg #[.int .i64 dn, v], .nilIface] ∧ B0 < base ∧ LogBy base N (fun x => sumN (entV z N x) n) w dn v)
theorem EntR.later {a : Nat → Addr} {B0 N n : Nat} {z : Nat → Int} {r : Value} {w w' : World} (h : EntR a B0 N n z r w) (hb : Below w.heap.size w w') : EntR a B0 N n z r w' := by
  rcases h with h | ⟨h0, dn, v, base, h1, h2, h3⟩
  · exact Or.inl h
  · exact Or.inr ⟨h0, dn, v, base, h1, h2, h3.later hb⟩
theorem own_lowE {w : World} {base : Nat} {e : TypeId} {s n : Nat} {v y : Value} {xs : List Value} {p : Addr} (h : w.ownsRow base e s v n xs) (hp : p.block < base) : (w.setCell p y).ownsRow base e s v n xs := by
  obtain ⟨hl, hr⟩ := h
  refine ⟨hl, ?_⟩
  rcases hr with hr | ⟨g, cap, cur, hv, hb1, hh, rest⟩
  · exact Or.inl hr
  · exact Or.inr ⟨g, cap, cur, hv, hb1, by rw [Below.heap_setCell _ _ _ _ (by omega)]; exact hh, rest⟩
theorem EntR.put {a : Nat → Addr} {B0 N n j : Nat} {z : Nat → Int} {r y : Value} {w : World} (h : EntR a B0 N n z r w) : EntR a B0 N n z r (w.setCell ⟨B0, j, none⟩ y) := by
  rcases h with h | ⟨h0, dn, v, base, h1, h2, l, g1, g2, g3, g4, g5⟩
  · exact Or.inl h
  · exact Or.inr ⟨h0, dn, v, base, h1, h2, l, g1, g2, g3, g4, own_lowE g5 h2⟩
theorem EntR.parts {a : Nat → Addr} {B0 N n : Nat} {z : Nat → Int} {r : Value} {w : World} (h : EntR a B0 N n z r w) : ∃ (dn : Int) (ad : Option Addr) (m c : Nat), r = .tuple #[.agg #[.int .i64 dn, .slice ad m c], errV a (weightsErr z n)] := by
  rcases h with ⟨_, h1⟩ | ⟨h0, dn, v, base, h1, _, h3⟩
  · exact ⟨_, _, _, _, h1⟩
  · obtain ⟨ad, m, c, rfl⟩ := h3.form
    exact ⟨dn, ad, m, c, by rw [h1, h0, errV_zero]⟩
/-- Both tell the same. -/
theorem entR_same {a : Nat → Addr} {B0 B1 N n : Nat} {z : Nat → Int} {W : World} {d d' : Int} {v v' e e' : Value} (h : EntR a B0 N n z (.tuple #[.agg #[.int .i64 d, v], e]) W) (h' : EntR a B1 N n z (.tuple #[.agg #[.int .i64 d', v'], e']) W) (hN : weightsErr z n = 0 → 1 ≤ N ∧ N ≤ 4096 ∧ OkW z n ∧ n ≤ 16) :
    Calls Tryz.prog 16 #[.agg #[.int .i64 d, v], .agg #[.int .i64 d', v']] W fun e w' => e = .returned (.bool true) ∧ Below W.heap.size W w' := by
  rcases h with ⟨h0, h1⟩ | ⟨h0, dn, u, base, h1, _, h3⟩
  · rcases h' with ⟨_, k1⟩ | ⟨k0, _⟩
    · simp only [Value.tuple.injEq, Array.mk.injEq, List.cons.injEq, Value.agg.injEq, and_true] at h1 k1
      simp at h1 k1
      obtain ⟨⟨rfl, rfl⟩, _⟩ := h1
      obtain ⟨⟨rfl, rfl⟩, _⟩ := k1
      exact SameLog_none 0 none none 0 0 W
    · exact absurd k0 h0
  · rcases h' with ⟨k0, _⟩ | ⟨k0, dn', u', base', k1, _, k3⟩
    · exact absurd h0 k0
    · simp at h1 k1
      obtain ⟨⟨rfl, rfl⟩, _⟩ := h1
      obtain ⟨⟨rfl, rfl⟩, _⟩ := k1
      obtain ⟨n1, n2, n3, n4⟩ := hN h0
      have hpr := ent_primW (z := z) (n := n) (N := N) n3 (by omega) ⟨n1, n2⟩
      exact form_same (h3.formed n1 (by omega) hpr) (k3.formed n1 (by omega) hpr) n1 (fun _ => rfl)
theorem Entropy_R (a : Nat → Addr) (v : Value) (n B0 : Nat) (z : Nat → Int) (w : World) (hE : Errs w a) (h : NumsAt w v n z) (hn : n ≤ 400) (hB : B0 < w.heap.size) :
    Calls Tryz.prog 13 #[v] w fun e w' => ∃ (dn : Int) (ad : Option Addr) (m c : Nat) (ev : Value), e = .returned (.tuple #[.agg #[.int .i64 dn, .slice ad m c], ev]) ∧ EntR a B0 (sumN z n).toNat n z (.tuple #[.agg #[.int .i64 dn, .slice ad m c], ev]) w' ∧ Below w.heap.size w w' := by
  by_cases h0 : weightsErr z n = 0
  · obtain ⟨h16, hok⟩ := weightsErr_ok h0
    obtain ⟨b, o, cap, rfl, hr⟩ := row_of h hok.posN
    have hp := hok.pos
    have hl := hok.le
    refine (Entropy_ok a b o cap n (sumN z n).toNat z w hE hr h0 (by omega) (fun i hi => (hok.lt hi).1) h16 (by omega) (by omega) hok.posN).mono ?_
    rintro e w' ⟨dn, u, rfl, hu, hb⟩
    obtain ⟨ad, m, c, rfl⟩ := hu.form
    exact ⟨dn, ad, m, c, _, rfl, Or.inr ⟨h0, dn, _, _, rfl, hB, hu⟩, hb⟩
  · refine (Entropy_bad a v n z w hE h hn h0).mono ?_
    rintro e w' ⟨rfl, hb⟩
    exact ⟨0, none, 0, 0, _, rfl, Or.inl ⟨h0, rfl⟩, hb⟩
end Go.Proofs.YtmdimdoglpiiiaaGreatDoor

/- HeatErase: the law's walk. -/
namespace Go.Proofs.YtmdimdoglpiiiaaGreatDoor
open Go.RowKit

theorem Code_errV (a : Nat → Addr) (c : Nat) (hc : c ≤ 8) (w : World) (h : Errs w a) :
    Calls Tryz.prog 14 #[errV a c] w fun e w' => e = .returned (.tuple #[.int .i64 (c : Int), .int .i64 (-1)]) ∧ Below w.heap.size w w' := by
  by_cases h0 : c = 0
  · subst h0
    rw [errV_zero]
    exact (code_nil w).mono fun e w' ⟨he, hw⟩ => ⟨he, by rw [hw]; exact Below.refl _ _⟩
  · refine (Code_pl a _ (c, -1) w h (Or.inl ⟨rfl, rfl, hc⟩)).mono ?_
    rintro e w' ⟨⟨t, rfl, ht⟩, hb⟩
    exact ⟨by rw [ht h0], hb⟩
theorem log_cells {w : World} {d : Int} {x : Option Addr} {l c : Nat} (W : World) (hb : Below (w.alloc (.cells #[.int .i64 d, .slice x l c] 51)).heap.size (w.alloc (.cells #[.int .i64 d, .slice x l c] 51)) W) : W.cell? ⟨w.heap.size, 0, none⟩ = some (.int .i64 d) ∧ W.cell? ⟨w.heap.size, 1, none⟩ = some (.slice x l c) := by
  have h0 : (w.alloc (.cells #[.int .i64 d, .slice x l c] 51)).cell? ⟨w.heap.size, 0, none⟩ = some (.int .i64 d) := by simp
  have h1 : (w.alloc (.cells #[.int .i64 d, .slice x l c] 51)).cell? ⟨w.heap.size, 1, none⟩ = some (.slice x l c) := by simp
  exact ⟨by rw [hb.cell (cell_lt h0)]; exact h0, by rw [hb.cell (cell_lt h1)]; exact h1⟩

set_option maxRecDepth 100000 in
set_option maxHeartbeats 4000000 in
theorem HeatErase_all (a : Nat → Addr) (ad : Option Addr) (n cap : Nat) (z : Nat → Int) (w : World) (hE : Errs w a) (h : NumsAt w (.slice ad n cap) n z) (hm : n ≤ maxLen) :
    Calls Tryz.prog 4 #[.slice ad n cap] w fun e w' => e = .returned (.bool true) ∧ Below w.heap.size w w' := by
  have HSTL := Hid.mk' (still_any a w hE)
  have HE : Hid (∀ W, Below w.heap.size w W → Errs W a) := fun W hb => hE.below hb
  have HN : Hid (∀ W, Below w.heap.size w W → NumsAt W (.slice ad n cap) n z) := fun W hb => h.later hb
  unfold maxLen at hm
  have hmI : (n : Int) ≤ 9223372036854775807 := by omega
  clear hE h
  by_cases hn : n ≤ 400
  · have hd : decide ((400 : Int) < (n : Int)) = false := decide_eq_false (by omega)
    have hd2 : ¬ (400 : Int) < (n : Int) := by omega
    have HIN : Hid (∀ W, Below w.heap.size w W → Calls Tryz.prog 12 #[.slice ad n cap] W fun e w' => ∃ v', e = .returned v' ∧ NumsAt w' v' n z ∧ Below W.heap.size W w') := fun W hb => ints_any _ n z W (HN.out W hb) (by omega)
    have HER : Hid (∀ W v, Below w.heap.size w W → NumsAt W v n z → Calls Tryz.prog 11 #[v] W fun e w' => ∃ r, e = .returned r ∧ EntR a W.heap.size (sumN z n).toNat n z r w' ∧ Below W.heap.size W w') := fun W v hb hv => Erase_to v W (EntR a W.heap.size (sumN z n).toNat n z) (fun W' hb' hlt => Entropy_R a v n W.heap.size z W' (HE.out W' (below_chain hb hb')) (hv.later hb') hn hlt) (fun r W' x y hc _ _ => (EntR.put (EntR.put hc))) (by obtain ⟨x, y, rfl⟩ := hv.form; exact ⟨_, _, _, rfl⟩)
    have HEN : Hid (∀ W v, Below w.heap.size w W → NumsAt W v n z → Calls Tryz.prog 13 #[v] W fun e w' => ∃ (dn : Int) (ad : Option Addr) (m c : Nat) (ev : Value), e = .returned (.tuple #[.agg #[.int .i64 dn, .slice ad m c], ev]) ∧ EntR a 0 (sumN z n).toNat n z (.tuple #[.agg #[.int .i64 dn, .slice ad m c], ev]) w' ∧ Below W.heap.size W w') := fun W v hb hv => Entropy_R a v n 0 z W (HE.out W hb) hv hn (by have := cell_lt (HE.out W hb).c1; omega)
    have HCO : Hid (∀ W, Below w.heap.size w W → Calls Tryz.prog 14 #[errV a (weightsErr z n)] W fun e w' => e = .returned (.tuple #[.int .i64 (weightsErr z n : Int), .int .i64 (-1)]) ∧ Below W.heap.size W w') := fun W hb => Code_errV a _ (by have := weightsErr_le z n; omega) W (HE.out W hb)
    have HWE : Hid (∀ W, Below w.heap.size w W → Calls Tryz.prog 15 #[.slice ad n cap] W fun e w' => e = .returned (.int .i64 (weightsErr z n : Int)) ∧ w' = W) := fun W hb => WeightsError_any _ n z W (HN.out W hb) (by omega)
    have HCD : Hid (∀ W, Below w.heap.size w W → Calls Tryz.prog 10 #[errV a (weightsErr z n), .int .i64 (weightsErr z n : Int)] W fun e w' => e = .returned (.bool true) ∧ Below W.heap.size W w') := fun W hb => coded_errV a _ (by have := weightsErr_le z n; omega) W (HE.out W hb)
    have HSM : Hid (weightsErr z n = 0 → 1 ≤ (sumN z n).toNat ∧ (sumN z n).toNat ≤ 4096 ∧ OkW z n ∧ n ≤ 16) := fun h0 => by
      obtain ⟨h16, hok⟩ := weightsErr_ok h0
      have hp := hok.pos
      have hl := hok.le
      exact ⟨by omega, by omega, hok, h16⟩
    have HPT : Hid (∀ B r W, EntR a B (sumN z n).toNat n z r W → ∃ (dn : Int) (ad : Option Addr) (m c : Nat), r = .tuple #[.agg #[.int .i64 dn, .slice ad m c], errV a (weightsErr z n)]) := fun B r W hh => hh.parts
    obtain ⟨ev, hev⟩ : ∃ ev, ev = errV a (weightsErr z n) := ⟨_, rfl⟩
    rw [← hev] at HCO HCD HPT
    clear hev hn
    go_enter Tryz.func4, Tryz.ntmps4
    go_wp2_with fail
    refine HSTL.out.mono ?_
    rintro e w2 ⟨rfl, hb2⟩
    have HB2 := Hid.mk' hb2
    clear hb2 HSTL
    go_wp2_with fail
    refine (HIN.out _ HB2.out).mono ?_
    rintro e w3 ⟨v3, rfl, hv3, hb3⟩
    have HB3 := Hid.mk' (below_chain HB2.out hb3)
    have HR3 := Hid.mk' (HER.out w3 v3 HB3.out hv3)
    clear hv3 hb3
    go_wp2_with fail
    refine HR3.out.mono ?_
    rintro e w4 ⟨r4, rfl, hr4, hb4⟩
    obtain ⟨d4, a4, m4, c4, rfl⟩ := HPT.out _ _ _ hr4
    have HB4 := Hid.mk' (below_chain HB3.out hb4)
    have h9 : Below w4.heap.size w4 (w4.alloc (.cells #[.int .i64 d4, .slice a4 m4 c4] 51)) := (Below.refl _ _).alloc (Nat.le_refl _) _
    have HL4 := Hid.mk' (fun (W : World) hb => log_cells (w := w4) (d := d4) (x := a4) (l := m4) (c := c4) W hb)
    have HX4 := Hid.mk' (hr4.later h9)
    have HB5 := Hid.mk' (below_chain HB4.out h9)
    obtain ⟨w5, hw5⟩ : ∃ w5, w5 = w4.alloc (.cells #[.int .i64 d4, .slice a4 m4 c4] 51) := ⟨_, rfl⟩
    obtain ⟨B5, hB5⟩ : ∃ B5, B5 = w4.heap.size := ⟨_, rfl⟩
    obtain ⟨E3, hE3⟩ : ∃ E3, E3 = w3.heap.size := ⟨_, rfl⟩
    rw [← hE3] at HX4
    clear hr4 hb4 h9 HR3 hE3
    go_upto_region 5 with fail
    rw [← hw5] at HL4 HX4 HB5 ⊢
    rw [← hB5] at HL4 ⊢
    clear hw5 hB5
    go_wp2_with fail
    refine (HIN.out _ HB5.out).mono ?_
    rintro e w6 ⟨v6, rfl, hv6, hb6⟩
    have HB6 := Hid.mk' (below_chain HB5.out hb6)
    have HC6 := Hid.mk' hb6
    have HR6 := Hid.mk' (HEN.out w6 v6 HB6.out hv6)
    clear hv6 hb6
    go_wp2_with fail
    refine HR6.out.mono ?_
    rintro e w7 ⟨d7, a7, m7, c7, ev7, rfl, hr7, hb7⟩
    obtain ⟨_, _, _, _, heq⟩ := HPT.out _ _ _ hr7
    have hee : ev7 = ev := by simp at heq; exact heq.2
    rw [hee] at hr7 ⊢
    clear heq hee
    have HB7 := Hid.mk' (below_chain HB6.out hb7)
    have HC7 := Hid.mk' (below_chain HC6.out hb7)
    have h9 : Below w7.heap.size w7 (w7.alloc (.cells #[.int .i64 d7, .slice a7 m7 c7] 51)) := (Below.refl _ _).alloc (Nat.le_refl _) _
    have HL7 := Hid.mk' (fun (W : World) hb => log_cells (w := w7) (d := d7) (x := a7) (l := m7) (c := c7) W hb)
    have HX7 := Hid.mk' (hr7.later h9)
    have HB8 := Hid.mk' (below_chain HB7.out h9)
    have HC8 := Hid.mk' (below_chain HC7.out h9)
    obtain ⟨w8, hw8⟩ : ∃ w8, w8 = w7.alloc (.cells #[.int .i64 d7, .slice a7 m7 c7] 51) := ⟨_, rfl⟩
    obtain ⟨B8, hB8⟩ : ∃ B8, B8 = w7.heap.size := ⟨_, rfl⟩
    clear hr7 hb7 h9 HR6
    go_upto_region 6 with fail
    rw [← hw8] at HL7 HX7 HB8 HC8 ⊢
    rw [← hB8] at HL7 ⊢
    clear hw8 hB8
    have hev2 : ∃ ev', ev' = ev := ⟨_, rfl⟩
    clear hev2
    go_wp2_with fail
    refine (HCO.out _ HB8.out).mono ?_
    rintro e w9 ⟨rfl, hb9⟩
    have HB9 := Hid.mk' (below_chain HB8.out hb9)
    have HD9 := Hid.mk' hb9
    clear hb9
    go_wp2_with fail
    refine (HWE.out _ HB9.out).mono ?_
    rintro e w10 ⟨rfl, hw10⟩
    rw [hw10]
    clear hw10
    go_wp2_with fail
    refine (HCD.out _ HB9.out).mono ?_
    rintro e w11 ⟨rfl, hb11⟩
    have HB11 := Hid.mk' (below_chain HB9.out hb11)
    have HD11 := Hid.mk' (below_chain HD9.out hb11)
    obtain ⟨q0, q1⟩ := HL4.out w11 (below_chain HC8.out HD11.out)
    obtain ⟨p0, p1⟩ := HL7.out w11 HD11.out
    have HSL := Hid.mk' (entR_same (HX4.out.later (below_chain HC8.out HD11.out)) (HX7.out.later HD11.out) HSM.out)
    clear hb11
    go_wp2_with fail
    refine HSL.out.mono ?_
    rintro e w12 ⟨rfl, hb12⟩
    have HB12 := Hid.mk' (below_chain HB11.out hb12)
    clear hb12 HSL
    go_wp2_with fail
    go_ret
    exact ⟨rfl, HB12.out⟩
  · have hd : decide ((400 : Int) < (n : Int)) = true := decide_eq_true (by omega)
    have hd2 : (400 : Int) < (n : Int) := by omega
    clear hn HN
    go_enter Tryz.func4, Tryz.ntmps4
    go_wp2_with fail
    refine HSTL.out.mono ?_
    rintro e w2 ⟨rfl, hb2⟩
    have HB2 := Hid.mk' hb2
    clear hb2 HSTL
    go_wp2_with fail
    go_ret
    exact ⟨rfl, HB2.out⟩
end Go.Proofs.YtmdimdoglpiiiaaGreatDoor

/- What the rows' condition on package variables gives a walk: eight different sentinels with their texts, and the handle of the type error. -/
namespace Go.Proofs.YtmdimdoglpiiiaaGreatDoor
open Go.ChangeShapes Go.WideShapes Go.RowKit

theorem Tryz.own : ownKnob Tryz.prog.godebug = none := by kernel_rfl
theorem Tryz.et : Tryz.prog.globalNamed "errors.errorType" = some 8 := by kernel_rfl
theorem Tryz.rt : (Tryz.prog.cutTypes.find? (·.1 == "internal/reflectlite.rtype")).map (·.2) = some 155 := by kernel_rfl
theorem Tryz.oneRow : ((List.range 234).filter fun t => Tryz.prog.rowNamed t [101, 114, 114, 111, 114]) = [44] := by kernel_rfl
theorem Tryz.size : Tryz.prog.types.size = 234 := by kernel_rfl
theorem Tryz.star : ("*" ++ "errors.errorString" : String) = "*errors.errorString" := by decide
theorem Tryz.rowE (u : TypeId) (h : Tryz.prog.typeName? 3 u = some "*errors.errorString") : u = 202 :=
  typeName_ptr_named (nm := "errors.errorString") (by rw [Tryz.star]; kernel_rfl) (by kernel_rfl) (by decide) u (by rw [Tryz.star]; exact h)
theorem Tryz.cellsE : Tryz.prog.cellsOf 222 = 1 := by kernel_rfl
theorem Tryz.cellsS : Tryz.prog.cellsOf 9 = 1 := by kernel_rfl
theorem Tryz.g0 : Tryz.prog.globalNamed "demon/api.ErrText" = some 2 := by kernel_rfl
theorem Tryz.g1 : Tryz.prog.globalNamed "demon/api.ErrBound" = some 0 := by kernel_rfl
theorem Tryz.g2 : Tryz.prog.globalNamed "demon/api.ErrShape" = some 1 := by kernel_rfl
theorem Tryz.g3 : Tryz.prog.globalNamed "demon/api.ErrZero" = some 3 := by kernel_rfl
theorem Tryz.g4 : Tryz.prog.globalNamed "demon/api.ErrName" = some 4 := by kernel_rfl
theorem Tryz.g5 : Tryz.prog.globalNamed "demon/api.ErrNone" = some 5 := by kernel_rfl
theorem Tryz.g6 : Tryz.prog.globalNamed "demon/api.ErrOrder" = some 6 := by kernel_rfl
theorem Tryz.g7 : Tryz.prog.globalNamed "demon/api.ErrKind" = some 7 := by kernel_rfl

/-- Any number of listed sentinels of one type: each one's pointer, text and row; no two are one. -/
theorem laid_list {P : Program} {W : World} {nm : String} {ti tp te ts : TypeId} {ms : Array (String × TypeId)} {f : Field}
    (hi : P.underlying ti = some (.interface ms)) (hrow : ∀ u, P.typeName? 3 u = some nm → u = tp)
    (hp : P.underlying tp = some (.pointer te)) (he : P.underlying te = some (.struct #[f])) (hft : f.type = ts) (hfo : f.offset = 0) (hs : P.underlying ts = some .string) (hc : P.cellsOf te = 1) (hcs : P.cellsOf ts = 1) :
    ∀ (L : List (String × List UInt8)) (ps : List MemPlace), (∀ x, x ∈ L → ∃ g, P.globalNamed x.1 = some g ∧ (P.globals[g]?).map (·.type) = some ti) →
      DataW.LaidVars P W (L.map fun x => (x.1, .iface nm (.ptr (.agg [.lit (.string x.2)])))) ps → ps.Nodup →
      (∀ b off, MemPlace.cell b off ∈ ps → (∃ c t, W.heap[b]? = some (.cells c t (0, 0))) ∧ ∀ u v, W.cell? ⟨b, off, none⟩ = some (.iface u v) → Value.okWide P W .any 0 u v) →
      ∃ a : Nat → Addr, (∀ i x, L[i]? = some x → W.var? P x.1 = some #[.iface tp (.pointer (some (a i)))] ∧ (∃ s, W.cell? (a i) = some (.string s) ∧ s.data.toList = x.2) ∧
          (∃ c t, W.heap[(a i).block]? = some (.cells c t (0, 0))) ∧ MemPlace.cell (a i).block (a i).off ∈ ps) ∧
        ∀ i j, i < L.length → j < L.length → i ≠ j → a i ≠ a j := by
  intro L
  induction L with
  | nil => intro ps _ _ _ _; exact ⟨fun _ => default, fun i x h => by simp at h, fun i j h => by simp at h⟩
  | cons x r ih =>
    intro ps hgs hv hnd hrows
    obtain ⟨n, text⟩ := x
    obtain ⟨g0, t0, cs0, f0, p0, q0, hg0, ht0, hv0, hd0, hvr, e0⟩ := hv
    obtain ⟨g, hg, ht⟩ := hgs (n, text) (List.mem_cons_self ..)
    obtain rfl := Option.some.inj (hg.symm.trans hg0)
    obtain rfl := Option.some.inj (ht.symm.trans ht0)
    subst e0
    obtain ⟨l0⟩ := cs0
    have ok0 : ∀ u v, l0 = [.iface u v] → Value.okWide P W .any 0 u v := fun u v e => by
      subst e
      exact (hrows g 0 (by simp [MemPlace.row])).2 u v (by simpa using World.var?_cell hg0 hv0 0)
    obtain ⟨a0, s0, rfl, hc0, hs0, hz0, rfl⟩ := errorString_of_trod hi hrow hp he hft hfo hs hc hcs hd0 ok0
    obtain ⟨c0, tt0, hb0⟩ := (hrows a0.block a0.off (by simp [MemPlace.row])).1
    have hnq : q0.Nodup := List.Nodup.sublist (List.sublist_append_right _ _) hnd
    obtain ⟨a', ha', hne'⟩ := ih q0 (fun x hx => hgs x (List.mem_cons_of_mem _ hx)) hvr hnq (fun b off hm => hrows b off (List.mem_append_right _ hm))
    have hnot : MemPlace.cell a0.block a0.off ∉ q0 := by
      intro hm
      have := (List.nodup_append.1 hnd).2.2
      exact this (.cell a0.block a0.off) (by simp [MemPlace.row]) (.cell a0.block a0.off) hm rfl
    refine ⟨fun i => match i with | 0 => a0 | k + 1 => a' k, ?_, ?_⟩
    · intro i x hx
      cases i with
      | zero =>
        simp only [List.getElem?_cons_zero, Option.some.injEq] at hx
        subst hx
        exact ⟨hv0, ⟨s0, hc0, hs0⟩, ⟨c0, tt0, hb0⟩, by simp [MemPlace.row]⟩
      | succ k =>
        simp only [List.getElem?_cons_succ] at hx
        obtain ⟨h1, h2, h3, h4⟩ := ha' k x hx
        exact ⟨h1, h2, h3, List.mem_append_right _ h4⟩
    · have far : ∀ k, k < r.length → a0 ≠ a' k := fun k hk e => by
        obtain ⟨_, _, _, h4⟩ := ha' k r[k] (by simp [hk])
        rw [← e] at h4
        exact hnot h4
      intro i j hi' hj' hij
      cases i with
      | zero =>
        cases j with
        | zero => exact absurd rfl hij
        | succ k => exact far k (by simpa using hj')
      | succ m =>
        cases j with
        | zero => exact (far m (by simpa using hi')).symm
        | succ k => exact hne' m k (by simpa using hi') (by simpa using hj') (by omega)

/-- The names and texts, in the rows' order. -/
def eightNames : List (String × List UInt8) := [("demon/api.ErrText", [100, 101, 109, 111, 110, 58, 32, 116, 101, 120, 116]), ("demon/api.ErrBound", [100, 101, 109, 111, 110, 58, 32, 98, 111, 117, 110, 100]), ("demon/api.ErrShape", [100, 101, 109, 111, 110, 58, 32, 115, 104, 97, 112, 101]), ("demon/api.ErrZero", [100, 101, 109, 111, 110, 58, 32, 122, 101, 114, 111]), ("demon/api.ErrName", [100, 101, 109, 111, 110, 58, 32, 110, 97, 109, 101]), ("demon/api.ErrNone", [100, 101, 109, 111, 110, 58, 32, 110, 111, 110, 101]), ("demon/api.ErrOrder", [100, 101, 109, 111, 110, 58, 32, 111, 114, 100, 101, 114]), ("demon/api.ErrKind", [100, 101, 109, 111, 110, 58, 32, 107, 105, 110, 100])]
def laidAll : List (String × DataW Unit) := [("errors.errorType", Rows.laid_errors_errorType), ("demon/api.ErrText", Rows.laid_demon_api_ErrText), ("demon/api.ErrBound", Rows.laid_demon_api_ErrBound), ("demon/api.ErrShape", Rows.laid_demon_api_ErrShape), ("demon/api.ErrZero", Rows.laid_demon_api_ErrZero), ("demon/api.ErrName", Rows.laid_demon_api_ErrName), ("demon/api.ErrNone", Rows.laid_demon_api_ErrNone), ("demon/api.ErrOrder", Rows.laid_demon_api_ErrOrder), ("demon/api.ErrKind", Rows.laid_demon_api_ErrKind)]
theorem laidAll_parts (W : World) : laidMetH Tryz.prog laidAll W = (laidMet Tryz.prog (eightNames.map fun x => (x.1, .iface "*errors.errorString" (.ptr (.agg [.lit (.string x.2)])))) W ∧ handlesMet Tryz.prog [("errors.errorType", Rows.laid_errors_errorType)] W) := by kernel_rfl

theorem var_at {W : World} {n : String} {g : Nat} {v : Value} (hg : Tryz.prog.globalNamed n = some g) (h : W.var? Tryz.prog n = some #[v]) : W.cell? ⟨g, 0, none⟩ = some v := by
  simpa using World.var?_cell hg h 0

theorem errs_of_laid {W : World} (h : laidMetH Tryz.prog laidAll W) : ∃ a : Nat → Addr, Errs W a ∧ ∀ i x, eightNames[i]? = some x → ∃ s, W.cell? (a i) = some (.string s) ∧ s.data.toList = x.2 := by
  rw [laidAll_parts] at h
  obtain ⟨⟨ps, hv, hnd, hrows⟩, hh⟩ := h
  obtain ⟨name, u, ty, e1, e2, e3, e4, e5⟩ := hh _ (List.mem_singleton.2 rfl)
  have en : name = [101, 114, 114, 111, 114] := (Option.some.inj e1).symm
  subst en
  obtain rfl := Option.some.inj (Tryz.rt.symm.trans e2)
  have hm : ty ∈ (List.range 234).filter fun t => Tryz.prog.rowNamed t [101, 114, 114, 111, 114] := List.mem_filter.2 ⟨List.mem_range.2 (by rw [← Tryz.size]; exact e3), e4⟩
  rw [Tryz.oneRow] at hm
  obtain rfl := List.mem_singleton.1 hm
  have hth : typeHandle Tryz.prog 44 = .pointer (some ⟨9, 44, none⟩) := by kernel_rfl
  rw [hth] at e5
  obtain ⟨a, ha, hne⟩ := laid_list Tryz.underlying44 Tryz.rowE Tryz.underlying202 Tryz.underlying222 rfl rfl Tryz.underlying9 Tryz.cellsE Tryz.cellsS eightNames ps
    (fun x hx => by
      simp only [eightNames, List.mem_cons, List.not_mem_nil, or_false] at hx
      rcases hx with rfl | rfl | rfl | rfl | rfl | rfl | rfl | rfl
      · exact ⟨_, Tryz.g0, by kernel_rfl⟩
      · exact ⟨_, Tryz.g1, by kernel_rfl⟩
      · exact ⟨_, Tryz.g2, by kernel_rfl⟩
      · exact ⟨_, Tryz.g3, by kernel_rfl⟩
      · exact ⟨_, Tryz.g4, by kernel_rfl⟩
      · exact ⟨_, Tryz.g5, by kernel_rfl⟩
      · exact ⟨_, Tryz.g6, by kernel_rfl⟩
      · exact ⟨_, Tryz.g7, by kernel_rfl⟩) hv hnd hrows
  refine ⟨a, ⟨var_at Tryz.g0 (ha 0 _ rfl).1, var_at Tryz.g1 (ha 1 _ rfl).1, var_at Tryz.g2 (ha 2 _ rfl).1, var_at Tryz.g3 (ha 3 _ rfl).1, var_at Tryz.g4 (ha 4 _ rfl).1, var_at Tryz.g5 (ha 5 _ rfl).1, var_at Tryz.g6 (ha 6 _ rfl).1, var_at Tryz.g7 (ha 7 _ rfl).1, var_at Tryz.et e5, ?_, ?_⟩, fun i x hx => (ha i x hx).2.1⟩
  · intro i hi
    have hl : eightNames.length = 8 := rfl
    exact (ha i eightNames[i] (List.getElem?_eq_getElem (by omega))).2.2.1
  · intro i j hi hj hij
    exact hne i j hi hj hij

/-- The door's own heap meets the condition. -/
theorem door_met (os : Os) (args : Array Value) : laidMetH Tryz.prog laidAll ((World.doorLaid Tryz.prog 168 os).forCall (fun _ _ => 0) ⟨#[], args, []⟩).memory :=
  laidMetH_of_parts3 (fuel := 8) (laidMet_of_run' 8 (by kernel_rfl) (by kernel_rfl)) (by kernel_rfl) (by kernel_rfl)
end Go.Proofs.YtmdimdoglpiiiaaGreatDoor

/- A parameter of type []int opened. -/
namespace Go.Proofs.YtmdimdoglpiiiaaGreatDoor
open Go.ChangeShapes Go.WideShapes Go.ChangeAt Go.RowKit Go.Joins Go.Deep

theorem Tryz.laidOut : laidOutB Tryz.prog = true := by kernel_rfl
theorem Tryz.cellsInt : Tryz.prog.cellsOf 3 = 1 := by kernel_rfl
theorem Tryz.cellsInts : Tryz.prog.cellsOf 32 = 1 := by kernel_rfl

set_option maxRecDepth 100000 in
/-- What a parameter of type []int gives: its slice, its numbers. -/
theorem open_nums {H : Type} {enc : TypeId × Value → H} {W : World} {base : Nat} {v : Value} {d : DataW H} {p : List MemPlace} (hv : Value.okWide Tryz.prog W .any base 32 v)
    (h : DataW.Trod enc Tryz.prog W 0 (fun _ => true) true 32 v d p) :
    ∃ (ad : Option Addr) (n cap : Nat) (z : Nat → Int), v = .slice ad n cap ∧ n ≤ maxLen ∧ NumsAt W (.slice ad n cap) n z := by
  obtain ⟨ad, n, cap, rfl⟩ := okWide_slice Tryz.underlying32 hv
  obtain ⟨fuel, hf⟩ := h
  rcases open_ints Tryz.underlying32 Tryz.underlying3 Tryz.cellsInt hf with ⟨hc, _⟩ | ⟨a, len, cap', zs, hc, _, hl, hm, hz, _, hcell, _⟩
  · simp [Value.cells] at hc
    obtain ⟨rfl, rfl, rfl⟩ := hc
    exact ⟨none, 0, 0, fun _ => 0, rfl, Nat.zero_le _, Or.inl ⟨none, 0, rfl, rfl⟩⟩
  · simp [Value.cells] at hc
    obtain ⟨rfl, rfl, rfl⟩ := hc
    simp only [if_true] at hz
    rcases Nat.eq_zero_or_pos n with rfl | hpos
    · exact ⟨some a, 0, cap, fun _ => 0, rfl, Nat.zero_le _, Or.inl ⟨some a, cap, rfl, rfl⟩⟩
    · obtain ⟨b, o, spot⟩ := a
      have hspot : spot = none := by simpa [Addr.add] using World.cell?_spot (hcell 0 (by omega))
      subst hspot
      refine ⟨_, n, cap, fun i => zs.getD i 0, rfl, by omega, Or.inr ⟨b, o, cap, rfl, hpos, fun i hi => ?_⟩⟩
      have := hcell i (by omega)
      rw [Go.Proofs.YtmdimdoglpiiiaaGreatDoor.add_plain] at this
      exact this
end Go.Proofs.YtmdimdoglpiiiaaGreatDoor
