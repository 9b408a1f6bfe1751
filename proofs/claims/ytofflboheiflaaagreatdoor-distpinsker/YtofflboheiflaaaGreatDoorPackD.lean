/- dist.Divergence at right pairs. -/
import Derived.Test.YtofflboheiflaaaGreatDoorPackC
import Derived.Test.YtofflboheiflaaaGreatDoorPackB
import Derived.Test.YtofflboheiflaaaGreatDoorWeights
import Derived.Test.YtofflboheiflaaaGreatDoorBig
import Derived.Test.YtofflboheiflaaaGreatDoorCode
import Derived.Test.YtofflboheiflaaaGreatDoorRows
import Derived.ChangeSame
import Derived.ChangeVars
import Derived.JoinedOf
import Derived.LaidLaws
import Derived.LaidHandle
import Derived.LaidMore
import Derived.Stop.Joined
import Derived.Test.YtofflboheiflaaaGreatDoorInts
import Derived.Test.YtofflboheiflaaaGreatDoorCards
import Derived.Test.YtofflboheiflaaaGreatDoorTie
import Derived.SevenTiedAt
import Derived.ProofKit
import Derived.OpenShut
import Derived.ChangeOld
import Derived.Lib.SmallJoins
import Derived.Deep.Matrix
namespace Go.Proofs.YtofflboheiflaaaGreatDoor
open Go.RowKit Go.Maps

/-- Is a chance of q 0 where p's is not? -/
def zeroB (p q : Nat → Int) : Nat → Bool
  | 0 => false
  | k + 1 => zeroB p q k || (decide (0 < p k) && decide (q k = 0))
theorem zeroB_iff (p q : Nat → Int) : ∀ n, zeroB p q n = true ↔ ∃ i, i < n ∧ 0 < p i ∧ q i = 0
  | 0 => by simp [zeroB]
  | n + 1 => by
    have ih := zeroB_iff p q n
    simp only [zeroB, Bool.or_eq_true, Bool.and_eq_true, decide_eq_true_eq, ih]
    constructor
    · rintro (⟨i, h1, h2⟩ | h)
      · exact ⟨i, by omega, h2⟩
      · exact ⟨n, by omega, h⟩
    · rintro ⟨i, h1, h2⟩
      rcases Nat.lt_or_ge i n with h | h
      · exact Or.inl ⟨i, h, h2⟩
      · obtain rfl : i = n := by omega
        exact Or.inr h2
/-- Two numbers in boxes. -/
structure TwoNums (W0 W : World) (B1 B2 : Nat) (x y : Int) : Prop where
  below : Below W0.heap.size W0 W
  c1 : W.cell? ⟨B1, 0, none⟩ = some (.int .i64 x)
  c2 : W.cell? ⟨B2, 0, none⟩ = some (.int .i64 y)

theorem twoNums_a (W0 : World) (x y : Int) (t : TypeId) : TwoNums W0 ((W0.alloc (.cells #[.int .i64 x] t)).alloc (.cells #[.int .i64 y] t)).drew W0.heap.size (W0.heap.size + 1) x y :=
  ⟨(below_chain (new_below _ _) (new_below _ _)).drew, new_one (new_below _ _).drew, by
    show ((W0.alloc (.cells #[.int .i64 x] t)).alloc (.cells #[.int .i64 y] t)).cell? _ = _
    rw [World.cell?_alloc_at _ _ _ _ (by simp)]; rfl⟩
theorem twoNums_b (W0 : World) (x y : Int) (t : TypeId) : TwoNums W0 ((W0.alloc (.cells #[.int .i64 y] t)).alloc (.cells #[.int .i64 x] t)).drew (W0.heap.size + 1) W0.heap.size x y :=
  ⟨(below_chain (new_below _ _) (new_below _ _)).drew, by
    show ((W0.alloc (.cells #[.int .i64 y] t)).alloc (.cells #[.int .i64 x] t)).cell? _ = _
    rw [World.cell?_alloc_at _ _ _ _ (by simp)]; rfl, new_one (new_below _ _).drew⟩

set_option maxRecDepth 100000 in
set_option maxHeartbeats 4000000 in
theorem Divergence_right (a : Nat → Addr) (b o cap b' o' cap' n P Q : Nat) (p q : Nat → Int) (w : World) (hE : Errs w a) (h : RowAt w b o n p) (k : RowAt w b' o' n q) (h0 : twoErr p n q n = 0) (hP : sumN p n = P) (hQ : sumN q n = Q) :
    Calls Tryz.prog 14 #[.slice (some ⟨b, o, none⟩) n cap, .slice (some ⟨b', o', none⟩) n cap'] w fun e w' => ((zeroB p q n = true ∧ e = .returned (.tuple #[.agg #[.int .i64 0, .slice none 0 0], errV a 4])) ∨ (zeroB p q n = false ∧ ∃ dn v, e = .returned (.tuple #[.agg #[.int .i64 dn, v], .nilIface]) ∧ LogBy w.heap.size P (fun x => sumN (divV p q P Q x) n) w' dn v)) ∧ Below w.heap.size w w' := by
  obtain ⟨_, hn, hok1, hok2⟩ := twoErr_ok h0
  have h0n := hok1.posN
  have hP1 : 1 ≤ P ∧ P ≤ 4096 := by have := hok1.pos; have := hok1.le; omega
  have hQ1 : 1 ≤ Q ∧ Q ≤ 4096 := by have := hok2.pos; have := hok2.le; omega
  obtain ⟨W0, hW0⟩ : ∃ W0, W0 = ((w.alloc (.cells #[.slice (some ⟨b, o, none⟩) n cap] 22)).alloc (.cells #[.slice (some ⟨b', o', none⟩) n cap'] 22)).alloc (.cells #[.int .i64 0, .slice none 0 0] 45) := ⟨_, rfl⟩
  have hb0 : Below w.heap.size w W0 := by rw [hW0]; exact below_chain (below_chain (new_below _ _) (new_below _ _)) (new_below _ _)
  have hz0 : W0.heap.size = w.heap.size + 1 + 1 + 1 := by rw [hW0]; simp
  have hbox : ∀ W, Below W0.heap.size W0 W → W.cell? ⟨w.heap.size, 0, none⟩ = some (.slice (some ⟨b, o, none⟩) n cap) ∧ W.cell? ⟨w.heap.size + 1, 0, none⟩ = some (.slice (some ⟨b', o', none⟩) n cap') := fun W hb => by
    refine ⟨(cell_past ?_ hb).2, (cell_past ?_ hb).2⟩
    · rw [hW0]; exact new_one (below_chain (new_below _ _) (new_below _ _))
    · rw [hW0]
      have := new_one (w := w.alloc (.cells #[.slice (some ⟨b, o, none⟩) n cap] 22)) (x := .slice (some ⟨b', o', none⟩) n cap') (t := 22) (new_below _ (.cells #[.int .i64 0, .slice none 0 0] 45))
      rw [World.size_alloc] at this
      exact this
  have hres : ∀ W, Below W0.heap.size W0 W → W.cell? ⟨w.heap.size + 1 + 1, 0, none⟩ = some (.int .i64 0) ∧ W.cell? ⟨w.heap.size + 1 + 1, 1, none⟩ = some (.slice none 0 0) ∧ W.frozen? ⟨w.heap.size + 1 + 1, 0, none⟩ = false ∧ W.frozen? ⟨w.heap.size + 1 + 1, 1, none⟩ = false := fun W hb => by
    rw [hW0] at hb
    have := res_past hb
    simpa using this
  have hcp := checkPair_any a (.slice (some ⟨b, o, none⟩) n cap) (.slice (some ⟨b', o', none⟩) n cap') n n p q W0 (hE.below hb0) (Or.inr ⟨b, o, cap, rfl, h0n, h.later hb0⟩) (Or.inr ⟨b', o', cap', rfl, h0n, k.later hb0⟩) (by omega) (by omega)
  rw [h0, errV_zero] at hcp
  have HR : Hid (∀ W, Below W0.heap.size W0 W → RowAt W b o n p ∧ RowAt W b' o' n q) := fun W hb => ⟨(h.later hb0).later hb, (k.later hb0).later hb⟩
  have HTP : Hid (∀ W, Below W0.heap.size W0 W → Calls Tryz.prog 27 #[.slice (some ⟨b, o, none⟩) n cap] W fun e w' => e = .returned (.int .i64 P) ∧ w' = W) := fun W hb => by
    have := total_some b o cap n p W (HR.out W hb).1 (fun k hk => by have := hok1.part hk; omega) (fun i hi => by have := hok1.lt hi; omega) (by omega)
    rw [hP] at this
    exact this
  have HTQ : Hid (∀ W, Below W0.heap.size W0 W → Calls Tryz.prog 27 #[.slice (some ⟨b', o', none⟩) n cap'] W fun e w' => e = .returned (.int .i64 Q) ∧ w' = W) := fun W hb => by
    have := total_some b' o' cap' n q W (HR.out W hb).2 (fun k hk => by have := hok2.part hk; omega) (fun i hi => by have := hok2.lt hi; omega) (by omega)
    rw [hQ] at this
    exact this
  have HSO : Hid (∀ (W : World) (B1 B2 : Nat), TwoNums W0 W B1 B2 P Q → zeroB p q n = false → Calls Tryz.prog 36 #[.int .i64 P, .func (.func 37) #[] #[.pointer (some ⟨w.heap.size, 0, none⟩), .pointer (some ⟨B1, 0, none⟩), .pointer (some ⟨w.heap.size + 1, 0, none⟩), .pointer (some ⟨B2, 0, none⟩)]] W fun e w' => ∃ dn v, e = .returned (.tuple #[.agg #[.int .i64 dn, v], .nilIface]) ∧ LogBy W.heap.size P (fun x => sumN (divV p q P Q x) n) w' dn v ∧ Below W.heap.size W w') := fun W B1 B2 ht hzb =>
    sumOver_any 37 _ P (4 * n) (fun x => sumN (divV p q P Q x) n) W (enters_of Tryz.func37 (by kernel_rfl) rfl) hP1.1 hP1.2 (by omega) (fun x => by
      have h3 := sumN_bound (f := divV p q P Q x) (B := 400000) (n := n) (fun i hi => divV_le x (hok1.lt hi) (hok2.lt hi) hP1.2 hQ1.2)
      have : (n : Int) * 400000 ≤ 6400000 := by omega
      omega)
      (fun W' mb hb ho => Divergence_parts P mb w.heap.size B1 (w.heap.size + 1) B2 b o cap b' o' cap' n P Q p q W' ho (hbox W' (below_chain ht.below hb)).1 (cell_past ht.c1 hb).2 (hbox W' (below_chain ht.below hb)).2 (cell_past ht.c2 hb).2 (HR.out W' (below_chain ht.below hb)).1 (HR.out W' (below_chain ht.below hb)).2 (fun i hi => hok1.lt hi) (fun i hi => hok2.lt hi)
        (fun i hi h1 => by
          have h2 := (hok2.lt hi).1
          rcases Int.lt_or_le 0 (q i) with h3 | h3
          · exact h3
          · have : zeroB p q n = true := (zeroB_iff p q n).2 ⟨i, hi, h1, by omega⟩
            rw [hzb] at this; cases this) hP1 hQ1 hn)
  have HQN : Hid (∀ i, i < n → 0 ≤ q i) := hok2.nn
  have HE3 : Hid (∀ W, Below W0.heap.size W0 W → Errs W a) := fun W hb => (hE.below hb0).below hb
  have HLG : Hid (0 < w.heap.size) := cell_lt hE.c3
  have HB0 := Hid.mk' hb0
  have HBOX := Hid.mk' hbox
  have HRES := Hid.mk' hres
  have HW0 := Hid.mk' hW0
  have HZ0 := Hid.mk' hz0
  clear hE h k hb0 hbox hres hW0 hz0 hok1 hok2 h0 hP hQ
  obtain ⟨cp0, cq0⟩ := HBOX.out W0 (Below.refl _ _)
  go_enter Tryz.func14, Tryz.ntmps14
  go_upto_region 1 with fail
  rw [← HW0.out]
  go_wp2_with (go_at_call 26; refine hcp.mono ?_; rintro e w1 ⟨rfl, hw1⟩; rw [hw1]; clear hw1)
  clear hcp
  go_loopw [7, 8, 20] (fun _ _ i wr => ∃ k : Nat, k ≤ n ∧ i = .int .i64 k ∧ wr = W0 ∧ Hid (zeroB p q k = false)) (fun _ _ i _ => n - (intOf i).toNat)
  case atStart => exact ⟨0, Nat.zero_le _, rfl, rfl, rfl⟩
  case round =>
    obtain ⟨k, hk, rfl, hwr, HZB⟩ := hrel
    rw [hwr]
    clear hwr
    rcases Nat.lt_or_ge k n with h1 | h1
    · have hcP := (HR.out W0 (Below.refl _ _)).1 k h1
      have hcQ := (HR.out W0 (Below.refl _ _)).2 k h1
      have hkn : (k : Int) < (n : Int) := by omega
      have HZ1 : Hid (zeroB p q (k + 1) = (decide (0 < p k) && decide (q k = 0))) := by show (zeroB p q k || _) = _; rw [HZB.out, Bool.false_or]
      have HZT : Hid (0 < p k → q k = 0 → zeroB p q n = true) := fun h2 h3 => (zeroB_iff p q n).2 ⟨k, h1, h2, h3⟩
      obtain ⟨x, hx⟩ : ∃ x, x = p k := ⟨_, rfl⟩
      obtain ⟨y, hy⟩ : ∃ y, y = q k := ⟨_, rfl⟩
      rw [← hx] at hcP HZ1 HZT
      rw [← hy] at hcQ HZ1 HZT
      clear hx hy
      rcases Int.lt_or_le 0 x with hx | hx
      · have hxd : decide (0 < x) = true := decide_eq_true hx
        by_cases hy : y = 0
        · subst hy
          have HZF : Hid (zeroB p q n = true) := HZT.out hx rfl
          clear HZT HZ1
          have e3 := (HE3.out W0 (Below.refl _ _)).c3
          have e3s : (W0.setCell ⟨w.heap.size + 1 + 1, 0, none⟩ (.int .i64 0)).cell? ⟨0, 0, none⟩ = some (.iface 179 (.pointer (some (a 3)))) := by
            rw [World.cell?_setCell_far _ _ _ _ (by show w.heap.size + 1 + 1 ≠ 0; have := HLG.out; omega)]
            exact e3
          obtain ⟨c0, c1, q0, q1⟩ := HRES.out W0 (Below.refl _ _)
          go_wp2_with fail
          go_region
          all_goals
            go_wp2_with fail
            refine bodyPost_ret (v := .tuple #[.agg #[.int .i64 0, .slice none 0 0], .iface 179 (.pointer (some (a 3)))]) (by simp [results, Tryz.results14, go_sem, c0, c1]) rfl ⟨Or.inl ⟨HZF.out, rfl⟩, ?_⟩
            first
              | exact ((HB0.out.setCell (by show w.heap.size ≤ w.heap.size + 1 + 1; omega) _).setCell (by show w.heap.size ≤ w.heap.size + 1 + 1; omega) _).drew
              | exact HB0.out.drew
        · have hyb : (y == 0) = false := by simpa using hy
          have HZ2 : Hid (zeroB p q (k + 1) = false) := by show _ = _; rw [HZ1.out, hxd]; simpa using hy
          go_wp2_with fail
          exact ⟨⟨k + 1, h1, by go_num, trivial, HZ2⟩, by simp [intOf]; omega⟩
      · have hxd : decide (0 < x) = false := decide_eq_false (by omega)
        have HZ2 : Hid (zeroB p q (k + 1) = false) := by show _ = _; rw [HZ1.out, hxd]; rfl
        go_wp2_with fail
        exact ⟨⟨k + 1, h1, by go_num, trivial, HZ2⟩, by simp [intOf]; omega⟩
    · obtain rfl : k = n := by omega
      have hcur0 : Below W0.heap.size W0 W0 := Below.refl _ _
      go_wp2_with fail
      go_cut [9, 10] from 37 (fun s t wx => ∃ B1 B2 : Nat, s = .pointer (some ⟨B1, 0, none⟩) ∧ t = .pointer (some ⟨B2, 0, none⟩) ∧ Hid (TwoNums W0 wx B1 B2 P Q))
      case first =>
        clear cp0 cq0
        go_region_held3 (fun W => W.cell? ⟨w.heap.size, 0, none⟩ = some (.slice (some ⟨b, o, none⟩) k cap) ∧ W.cell? ⟨w.heap.size + 1, 0, none⟩ = some (.slice (some ⟨b', o', none⟩) k cap'))
          ((refine HBOX.out _ ?_; (first | exact hcur0 | exact hcur0.drew | exact (more_below hcur0 _).drew | exact (more_below (more_below hcur0 _) _).drew | exact more_below hcur0.drew _ | exact more_below (more_below hcur0.drew _) _ | exact more_below (more_below hcur0 _).drew _ | exact more_below hcur0 _ | exact more_below (more_below hcur0 _) _)))
          (first
            | (go_at_call_of 27 b; refine (HTP.out _ ?_).mono ?_; (first | exact hcur0 | exact hcur0.drew | exact (more_below hcur0 _).drew | exact (more_below (more_below hcur0 _) _).drew | exact more_below hcur0.drew _ | exact more_below (more_below hcur0.drew _) _ | exact more_below (more_below hcur0 _).drew _ | exact more_below hcur0 _ | exact more_below (more_below hcur0 _) _); rintro e w5 ⟨rfl, hw5⟩; rw [hw5]; clear hw5)
            | (go_at_call_of 27 b'; refine (HTQ.out _ ?_).mono ?_; (first | exact hcur0 | exact hcur0.drew | exact (more_below hcur0 _).drew | exact (more_below (more_below hcur0 _) _).drew | exact more_below hcur0.drew _ | exact more_below (more_below hcur0.drew _) _ | exact more_below (more_below hcur0 _).drew _ | exact more_below hcur0 _ | exact more_below (more_below hcur0 _) _); rintro e w5 ⟨rfl, hw5⟩; rw [hw5]; clear hw5))
        all_goals
          go_wp2_with fail
          go_meet
          first | exact ⟨_, _, rfl, rfl, twoNums_a _ _ _ _⟩ | exact ⟨_, _, rfl, rfl, twoNums_b _ _ _ _⟩
      case rest =>
      obtain ⟨B1, B2, rfl, rfl, HTN⟩ := hcut
      have hso := HSO.out wc B1 B2 HTN.out HZB.out
      have cB := HTN.out.c1
      go_wp2_with fail
      refine hso.mono ?_
      clear hso cB
      rintro e w6 ⟨dn, v, rfl, hlb, hb6⟩
      have hbw := below_chain HTN.out.below hb6
      obtain ⟨c0, c1, q0, q1⟩ := HRES.out w6 hbw
      have HBW := Hid.mk' (below_chain HB0.out hbw)
      have HLT : Hid (w.heap.size + 1 + 1 < wc.heap.size) := by have h2 := HZ0.out; have h3 := HTN.out.below.size; show _ < _; omega
      have HLB := Hid.mk' hlb
      obtain ⟨ad, n', c', rfl⟩ := hlb.form
      clear hlb hb6 hbw
      go_wp2_with fail
      refine bodyPost_ret (v := .tuple #[.agg #[.int .i64 dn, .slice ad n' c'], .nilIface]) (by simp [results, Tryz.results14, go_sem, c0, c1]) rfl ⟨Or.inr ⟨HZB.out, _, .slice ad n' c', rfl, (HLB.out.set HLT.out _ _).lower (by have := HLT.out; omega)⟩, ?_⟩
      exact (HBW.out.setCell (by show w.heap.size ≤ w.heap.size + 1 + 1; omega) _).setCell (by show w.heap.size ≤ w.heap.size + 1 + 1; omega) _

set_option maxRecDepth 100000 in
set_option maxHeartbeats 1000000 in
theorem Divergence_bad (a : Nat → Addr) (v u : Value) (n m : Nat) (p q : Nat → Int) (w : World) (hE : Errs w a) (h : NumsAt w v n p) (k : NumsAt w u m q) (hn : n ≤ 400) (hm : m ≤ 400) (h0 : twoErr p n q m ≠ 0) :
    Calls Tryz.prog 14 #[v, u] w fun e w' => e = .returned (.tuple #[.agg #[.int .i64 0, .slice none 0 0], errV a (twoErr p n q m)]) ∧ Below w.heap.size w w' := by
  obtain ⟨ad, cap, rfl⟩ := h.form
  obtain ⟨ad', cap', rfl⟩ := k.form
  obtain ⟨W0, hW0⟩ : ∃ W0, W0 = ((w.alloc (.cells #[.slice ad n cap] 22)).alloc (.cells #[.slice ad' m cap'] 22)).alloc (.cells #[.int .i64 0, .slice none 0 0] 45) := ⟨_, rfl⟩
  have hb0 : Below w.heap.size w W0 := by rw [hW0]; exact below_chain (below_chain (new_below _ _) (new_below _ _)) (new_below _ _)
  have hbox : W0.cell? ⟨w.heap.size, 0, none⟩ = some (.slice ad n cap) := by rw [hW0]; exact new_one (below_chain (new_below _ _) (new_below _ _))
  have hbox2 : W0.cell? ⟨w.heap.size + 1, 0, none⟩ = some (.slice ad' m cap') := by
    rw [hW0]
    have := new_one (w := w.alloc (.cells #[.slice ad n cap] 22)) (x := .slice ad' m cap') (t := 22) (new_below _ (.cells #[.int .i64 0, .slice none 0 0] 45))
    rw [World.size_alloc] at this
    exact this
  have hres : W0.cell? ⟨w.heap.size + 1 + 1, 0, none⟩ = some (.int .i64 0) ∧ W0.cell? ⟨w.heap.size + 1 + 1, 1, none⟩ = some (.slice none 0 0) ∧ W0.frozen? ⟨w.heap.size + 1 + 1, 0, none⟩ = false ∧ W0.frozen? ⟨w.heap.size + 1 + 1, 1, none⟩ = false := by
    rw [hW0]
    have := res_past (w := (w.alloc (.cells #[.slice ad n cap] 22)).alloc (.cells #[.slice ad' m cap'] 22)) (x := .int .i64 0) (y := .slice none 0 0) (t := 45) (Below.refl _ _)
    simpa using this
  have hcp := checkPair_any a (.slice ad n cap) (.slice ad' m cap') n m p q W0 (hE.below hb0) (h.later hb0) (k.later hb0) (by omega) (by omega)
  rw [errV_pos a h0] at hcp ⊢
  generalize a (twoErr p n q m - 1) = ea at hcp ⊢
  obtain ⟨c0, c1, q0, q1⟩ := hres
  have HB0 := Hid.mk' hb0
  have HW0 := Hid.mk' hW0
  clear hE h k hb0 hW0 h0
  go_enter Tryz.func14, Tryz.ntmps14
  go_upto_region 1 with fail
  rw [← HW0.out]
  go_wp2_with (go_at_call 26; refine hcp.mono ?_; rintro e w1 ⟨rfl, hw1⟩; rw [hw1]; clear hw1)
  refine bodyPost_ret (v := .tuple #[.agg #[.int .i64 0, .slice none 0 0], .iface 179 (.pointer (some ea))]) (by simp [results, Tryz.results14, go_sem, c0, c1]) rfl ⟨rfl, ?_⟩
  exact (HB0.out.setCell (by show w.heap.size ≤ w.heap.size + 1 + 1; omega) _).setCell (by show w.heap.size ≤ w.heap.size + 1 + 1; omega) _
end Go.Proofs.YtofflboheiflaaaGreatDoor

/- The law's closed fact: of a fair coin the entropy is 1. -/
namespace Go.Proofs.YtofflboheiflaaaGreatDoor
open Go.RowKit Go.Maps

theorem pr_two' : Pr 2 := (isPr_iff 2).1 (by decide)
theorem coin_val (x : Int) : sumN (entV (fun _ => 3) 6 x) 2 = atL [((2 : Int), (6 : Int))] x := by
  have h := multI_step x (n := 6) (d := 2) (by decide) pr_two' (by decide)
  have e : 6 / 2 = 3 := by decide
  rw [e] at h
  show 0 + (3 * multI x 6 - 3 * multI x (3 : Int).toNat) + (3 * multI x 6 - 3 * multI x (3 : Int).toNat) = if (2 : Int) = x then 6 else 0
  have e3 : (3 : Int).toNat = 3 := rfl
  rw [e3, h]
  rw [show ((2 : Nat) : Int) = 2 from rfl]
  by_cases hx : x = 2
  · subst hx; simp; omega
  · rw [if_neg hx, if_neg (fun e => hx e.symm)]; omega
theorem coin_list {base : Nat} {w : World} {dn : Int} {v : Value} (h : LogBy base 6 (fun x => sumN (entV (fun _ => 3) 6 x) 2) w dn v) : dn = 1 ∧ OwnAt w v 1 (fun _ => 2) (fun _ => 1) := by
  obtain ⟨l, hr, hv, _, hd, hl⟩ := h.list
  have he : ∀ x, atL l x = atL [((2 : Int), (6 : Int))] x := fun x => by rw [hv, coin_val]
  have hr' : Rising [((2 : Int), (6 : Int))] := List.pairwise_singleton _ _
  rw [gList_same hr hr' he, over_same hr hr' he] at hl
  rw [gList_same hr hr' he] at hd
  have e1 : overL (gList 6 (List.map Prod.snd [((2 : Int), (6 : Int))])) [((2 : Int), (6 : Int))] = [(2, 1)] := by decide
  rw [e1] at hl
  refine ⟨by rw [hd]; decide, ?_⟩
  rcases hl with ⟨_, h0⟩ | ⟨g, cap, h1, h2⟩
  · cases h0
  · refine Or.inr ⟨g, cap, h1, fun k hk => ?_⟩
    obtain rfl : k = 0 := by omega
    exact h2 0 (by decide)

set_option maxRecDepth 100000 in
set_option maxHeartbeats 1000000 in
theorem coin_any (a : Nat → Addr) (w : World) (hE : Errs w a) : Calls Tryz.prog 6 #[] w fun e w' => e = .returned (.bool true) ∧ Below w.heap.size w w' := by
  have hb0 : Below w.heap.size w (w.alloc (.cells #[.int .i64 3, .int .i64 3] 3)) := new_below _ _
  have hent := Entropy_ok a w.heap.size 0 2 2 6 (fun _ => 3) (w.alloc (.cells #[.int .i64 3, .int .i64 3] 3)) (hE.below hb0) (fun i hi => by
    rcases (show i = 0 ∨ i = 1 by omega) with rfl | rfl
    · simp
    · simp) (by decide) (by decide) (fun i _ => by decide) (by decide) (by decide) (by decide) (by decide)
  have HB0 := Hid.mk' hb0
  clear hE hb0
  go_enter Tryz.func6, Tryz.ntmps6
  go_wp2_with fail
  refine hent.mono ?_
  clear hent
  rintro e w1 ⟨dn, v, rfl, hlb, hb1⟩
  obtain ⟨rfl, hown⟩ := coin_list hlb
  obtain ⟨ad, m, cap, rfl⟩ := own_form hown
  have hbW : Below w1.heap.size w1 ((w1.alloc (.cells #[.int .i64 1, .slice ad m cap] 45)).alloc (.cells #[.int .i64 2, .int .i64 1] 64)) := below_chain (new_below _ _) (new_below _ _)
  have hS := same_own 1 (.slice ad m cap) (.slice (some ⟨w1.heap.size + 1, 0, none⟩) 1 1) 1 (fun _ => 2) (fun _ => 1) ((w1.alloc (.cells #[.int .i64 1, .slice ad m cap] 45)).alloc (.cells #[.int .i64 2, .int .i64 1] 64)) (OwnAt.later hown hbW)
    (Or.inr ⟨w1.heap.size + 1, 1, rfl, fun k hk => by
      obtain rfl : k = 0 := by omega
      exact ⟨by simp, by simp⟩⟩) (by decide)
  have HB := Hid.mk' (below_chain (below_chain HB0.out hb1) hbW)
  clear hlb hown hb1 hbW HB0
  go_wp2_with fail
  refine hS.mono ?_
  clear hS
  rintro e w2 ⟨rfl, hb2⟩
  go_wp2_with fail
  go_ret
  exact ⟨rfl, below_chain HB.out hb2⟩
end Go.Proofs.YtofflboheiflaaaGreatDoor

/- The law's copies of lists. -/
namespace Go.Proofs.YtofflboheiflaaaGreatDoor
open Go.RowKit

theorem append_zeroI (w : World) (ty : TypeId) (ad : Option Addr) (cap : Nat) : (Builtin.append_ #[22, 22] ty #[.slice none 0 0, .slice ad 0 cap]).run Tryz.prog w = .ok (.slice none 0 0) w := by
  obtain ⟨i, hi, hi2⟩ := Option.map_eq_some_iff.1 Tryz.infoInt
  refine run_append_nothing w _ _ ty 3 i Tryz.underlying22 hi none 0 0 (Nat.le_refl _) _ ?_
  cases ad with
  | none => exact Src.ofNil w Tryz.underlying22 cap
  | some a => exact Src.ofSlice w Tryz.underlying22 a 0 cap [] (by simp) (fun j u h => by simp at h) (fun u h => by simp at h)
theorem wpList_append_zeroI {w : World} {ops : Array Oper} {rest : List Oper} {o : Oper} {a : Act} {Q : Exit → Act → World → Prop} (hgd : o.guard = none) (s x : Operand)
    (ho : o.op = .call { callee := .builtin .append, args := #[s, x], argTypes := #[22, 22] })
    (ad : Option Addr) (cap : Nat) (hs : a.eval s = .slice none 0 0) (hx : a.eval x = .slice ad 0 cap)
    (h : wpList Tryz.prog ops Q rest (a.put o.dst (.slice none 0 0)) w) : wpList Tryz.prog ops Q (o :: rest) a w := by
  refine wpList_plain hgd fun K hK => ?_
  have hrun := append_zeroI w o.type ad cap
  unfold Oper.wp
  simp [execOp, ho, resolve, invoke, builtin, hs, hx, hrun, Result.andThen]
  exact hK _ _ h

theorem numsAt_own {w : World} {base : Nat} {v : Value} {n : Nat} {z : Nat → Int} (h : w.ownsRow base 3 1 v n (numCells z n)) : NumsAt w v n z := by
  rcases h.2 with ⟨hv, h0⟩ | ⟨g, cap, cur, hv, _⟩
  · exact Or.inl ⟨none, 0, hv, h0⟩
  · rcases Nat.eq_zero_or_pos n with h0 | h0
    · exact Or.inl ⟨_, _, by rw [hv, h0], h0⟩
    · subst hv
      exact Or.inr ⟨g, 0, cap, rfl, h0, rowAt_of_row h⟩
set_option maxRecDepth 100000 in
set_option maxHeartbeats 1000000 in
theorem ints_row (v : Value) (n : Nat) (z : Nat → Int) (w : World) (h : NumsAt w v n z) (hn : n ≤ 100000) :
    Calls Tryz.prog 9 #[v] w fun e w' => ∃ v', e = .returned v' ∧ w'.ownsRow w.heap.size 3 1 v' n (numCells z n) ∧ Below w.heap.size w w' := by
  rcases h with ⟨ad, cap, rfl, rfl⟩ | ⟨b, o, cap, rfl, h0, hr⟩
  · go_enter Tryz.func9, Tryz.ntmps9
    go_wp2_with (at_builtin; go_must (refine wpList_append_zeroI rfl _ _ rfl ad cap rfl rfl ?_))
    go_ret
    exact ⟨_, rfl, ⟨rfl, Or.inl ⟨rfl, rfl⟩⟩, Below.refl _ _⟩
  · obtain ⟨i, hi, hi2⟩ := Option.map_eq_some_iff.1 Tryz.infoInt
    obtain ⟨hz, hsz, hby⟩ : i.zero = some (.int .i64 0) ∧ i.size = 1 ∧ i.bytes = 8 := by simpa using hi2
    have HR := Hid.mk' hr
    have HI : Hid (Tryz.prog.info? 3 = some i) := hi
    have HZ : Hid (i.zero = some (.int .i64 0)) := hz
    have HS : Hid (i.size = 1) := hsz
    have HY : Hid (i.bytes = 8) := hby
    have HC : Hid (∀ u, u ∈ numCells z n → u.oneCell' = true) := fun u hu => by obtain ⟨x, rfl⟩ := numCells_ints z n u hu; rfl
    have HL : Hid ((numCells z n).length = n * 1) := by show _ = _; rw [numCells_length, Nat.mul_one]
    clear hr hi2 hi hz hsz hby
    go_enter Tryz.func9, Tryz.ntmps9
    go_wp2_with (at_builtin; go_must (refine wpList_append_lies _ rfl _ _ _ rfl w.heap.size 3 i _ 1 8 Tryz.underlying22 HI.out HZ.out HS.out HY.out rfl (by omega) (.slice none 0 0) 0 [] rfl ⟨rfl, Or.inl ⟨rfl, rfl⟩⟩ ⟨b, o, none⟩ n cap (numCells z n) rfl HL.out (fun j u hu => numCells_news HR.out j u hu) HC.out h0 (by unfold maxLen; omega) (by omega) (by simp) _ rfl ?_; intro g cap' w1 hown hgrow hat hlt; have HOWN := Hid.mk' hown; have HG := Hid.mk' hgrow; clear hown hgrow hat))
    go_ret
    exact ⟨_, rfl, by simpa using HOWN.out, (Below.refl _ _).grown HG.out (Nat.le_refl _) (fun k hk => by cases hk)⟩
theorem ints_any (v : Value) (n : Nat) (z : Nat → Int) (w : World) (h : NumsAt w v n z) (hn : n ≤ 100000) :
    Calls Tryz.prog 9 #[v] w fun e w' => ∃ v', e = .returned v' ∧ NumsAt w' v' n z ∧ Below w.heap.size w w' := by
  refine (ints_row v n z w h hn).mono ?_
  rintro e w' ⟨v', rfl, h1, h2⟩
  exact ⟨v', rfl, numsAt_own h1, h2⟩
end Go.Proofs.YtofflboheiflaaaGreatDoor

/- coded of an error by its number. -/
namespace Go.Proofs.YtofflboheiflaaaGreatDoor
open Go.RowKit

theorem coded_errV (a : Nat → Addr) (c : Nat) (hc : c ≤ 8) (w : World) (h : Errs w a) :
    Calls Tryz.prog 10 #[errV a c, .int .i64 (c : Int)] w fun e w' => e = .returned (.bool true) ∧ Below w.heap.size w w' := by
  by_cases h0 : c = 0
  · subst h0
    rw [errV_zero]
    refine (coded_nil 0 w).mono ?_
    rintro e w' ⟨rfl, rfl⟩
    exact ⟨rfl, Below.refl _ _⟩
  · rw [errV_pos a h0]
    have h1 := coded_err a (c - 1) (by omega) (c : Int) w h
    have e : decide ((c : Int) = ((c - 1 : Nat) : Int) + 1) = true := decide_eq_true (by omega)
    rw [e] at h1
    exact h1
end Go.Proofs.YtofflboheiflaaaGreatDoor

/- The law DistPinsker. -/
namespace Go.Proofs.YtofflboheiflaaaGreatDoor
open Go.RowKit

set_option maxRecDepth 100000 in
set_option maxHeartbeats 2000000 in
theorem OfFrac_low (y : Int) (d D0 : Nat) (S : Int) (w : World) (hy : y = lowN D0 S) (hd : d = lowD D0 S) (hD : 0 < D0) (hD1 : D0 ≤ 1000000) (hS : -1000000 ≤ S ∧ S ≤ 1000000) :
    Calls Tryz.prog 16 #[.agg #[.int .i64 y, .int .i64 (d : Int)]] w fun e w' => ∃ r, e = .returned r ∧ RatioAt w' r (lowN D0 S) (lowD D0 S) ∧ Below w.heap.size w w' := by
  have hd0 : 0 < d := by rw [hd]; exact lowD_pos hD _
  have hd1 : d ≤ 1000000 := by have := lowD_le D0 S; omega
  have hy1 : -1000000 ≤ y ∧ y ≤ 1000000 := by have := lowN_le hD S; rw [← hy] at this; omega
  have hlow := low_same (M := D0) (d := d) (z := S) (n := y) hD hd0 (by rw [hy, hd]; exact low_cross hD S)
  obtain ⟨W0, hW0⟩ : ∃ W0, W0 = (w.alloc (.cells #[.int .i64 y, .int .i64 (d : Int)] 26)).alloc (.cells #[.bool false, .slice none 0 0, .slice none 0 0] 39) := ⟨_, rfl⟩
  have hb0 : Below w.heap.size w W0 := by rw [hW0]; exact below_chain (new_below _ _) (new_below _ _)
  have hro := RatioOf_any y d W0 (by omega) (by omega) hd0 (by omega)
  rw [hlow.1, hlow.2] at hro
  have HNB : Hid (∀ W, Below W0.heap.size W0 W → NewBox3 w W (w.heap.size + 1)) := fun W hb => by
    rw [hW0] at hb
    have := newBox3_of (W0 := w) (new_below w (.cells #[.int .i64 y, .int .i64 (d : Int)] 26)) hb
    rw [World.size_alloc] at this
    exact this
  have c01 : W0.cell? ⟨w.heap.size, 0, none⟩ = some (.int .i64 y) ∧ W0.cell? ⟨w.heap.size, 1, none⟩ = some (.int .i64 (d : Int)) := by
    have := res_past (w := w) (x := .int .i64 y) (y := .int .i64 (d : Int)) (t := 26) (new_below _ (.cells #[.bool false, .slice none 0 0, .slice none 0 0] 39))
    rw [hW0]
    exact ⟨this.1, this.2.1⟩
  obtain ⟨c0, c1⟩ := c01
  have HB0 := Hid.mk' hb0
  have HW0 := Hid.mk' hW0
  clear hb0 hW0 hlow hy hd hd0 hd1 hy1
  go_enter Tryz.func16, Tryz.ntmps16
  go_upto_region 1 with fail
  rw [← HW0.out]
  go_wp2_with fail
  refine hro.mono ?_
  clear hro
  rintro e w1 ⟨r1, rfl, hr1, hb1⟩
  obtain ⟨s1, ad1, l1, ca1, ad2, l2, ca2, rfl⟩ := hr1.parts
  have NB := HNB.out w1 hb1
  have y0 := NB.c0
  have y1 := NB.c1
  have y2 := NB.c2
  have y3 := NB.f0
  have y4 := NB.f1
  have y5 := NB.f2
  have HR1 := Hid.mk' hr1
  have HB1 := Hid.mk' (below_chain HB0.out hb1)
  clear hr1 hb1 NB
  go_wp2_with fail
  exact bodyPost_ret (v := .agg #[.bool s1, .slice ad1 l1 ca1, .slice ad2 l2 ca2]) (by simp [results, Tryz.results16, go_sem, y0, y1, y2]) rfl ⟨_, rfl, HR1.out.set3 y0 y1 y2 rfl, below_set3 HB1.out (by omega) _ _ _⟩
theorem Times_two (A B : Nat) (x y : Int) (r s : Value) (w : World) (hr : RatioAt w r (lowN A x) (lowD A x)) (hs : RatioAt w s (lowN B y) (lowD B y)) (hA : 0 < A) (hA6 : A ≤ 1000000000) (hB : 0 < B) (hB6 : B ≤ 1000000000) (hx : -1000000000 ≤ x ∧ x ≤ 1000000000) (hy : -1000000000 ≤ y ∧ y ≤ 1000000000) :
    Calls Tryz.prog 15 #[r, s] w fun e w' => ∃ r', e = .returned r' ∧ RatioAt w' r' (lowN (A * B) (x * y)) (lowD (A * B) (x * y)) ∧ Below w.heap.size w w' := by
  have p2 : (1000000 : Nat) ^ 2 = 1000000000000 := by decide
  have l1 := lowN_le hA x
  have l2 := lowD_le A x
  have l3 := lowN_le hB y
  have l4 := lowD_le B y
  have h := Times_ratio r s _ _ _ _ 2 w hr hs (lowD_pos hA _) (lowD_pos hB _) (by rw [p2]; omega) (by rw [p2]; omega) (by rw [p2]; omega) (by rw [p2]; omega) (by decide)
  have c1 := low_cross hA x
  have c2 := low_cross hB y
  have e := low_same (M := A * B) (d := lowD A x * lowD B y) (z := x * y) (n := lowN A x * lowN B y) (Nat.mul_pos hA hB) (Nat.mul_pos (lowD_pos hA _) (lowD_pos hB _)) (by
    simp only [Int.natCast_mul]
    calc lowN A x * lowN B y * ((A : Int) * B) = (lowN A x * A) * (lowN B y * B) := by grind
      _ = (x * lowD A x) * (y * lowD B y) := by rw [c1, c2]
      _ = _ := by grind)
  rw [e.1, e.2] at h
  exact h
theorem low_floor {M : Nat} (hM : 0 < M) (z : Int) : (lowN M z).natAbs / lowD M z = z.natAbs / M := by
  have hg := lowG_pos hM z
  have h1 : (lowN M z).natAbs = z.natAbs / lowG M z := by
    unfold lowN
    rw [Int.natAbs_tdiv]
    exact congrArg (fun x => z.natAbs / x) (Int.natAbs_natCast _)
  rw [h1]
  unfold lowD
  have d1 : lowG M z ∣ z.natAbs := Nat.gcd_dvd_left _ _
  have d2 : lowG M z ∣ M := Nat.gcd_dvd_right _ _
  obtain ⟨u, hu⟩ := d1
  obtain ⟨v, hv⟩ := d2
  generalize lowG M z = g at *
  rw [hu, hv, Nat.mul_div_cancel_left _ hg, Nat.mul_div_cancel_left _ hg, Nat.mul_div_mul_left _ _ hg]
/-- Grains of what is told of a sum. -/
theorem Grains_by {base M : Nat} {f : Int → Int} {dn : Int} {v : Value} {U D n : Nat} (a : Nat → Addr) (w : World) (hE : Errs w a) (h : LogBy base M f w dn v) (hM : 1 ≤ M) (hM6 : M ≤ 1000000) (hf : Prim f) (hU : 0 < U) (hD : 0 < D) (hm : ∀ q : Nat, Pr q → f (q : Int) = (mult q U : Int) - (mult q D : Int)) (hp : 2 ^ (n * M) * D ^ 32 ≤ U ^ 32) :
    Calls Tryz.prog 20 #[.agg #[.int .i64 dn, v]] w fun e w' => ((∃ z : Int, (n : Int) ≤ z ∧ e = .returned (.tuple #[.int .i64 z, .nilIface])) ∨ ∃ ad, e = .returned (.tuple #[.int .i64 0, .iface 179 (.pointer (some ad))])) ∧ Below w.heap.size w w' := by
  obtain ⟨t, d, G, rfl, hl, hn, hMG, hG, hv, hok⟩ := h.ok hM hM6 hf
  have hs := by_sides32 hok hv hU hD hm
  have hd0 : 0 < d := by have := hok.1; omega
  by_cases hfit : cost (pOf t) (cOf t) t.length ≤ 1250
  · refine (Grains_fit_log d v t.length (pOf t) (cOf t) a hok hfit w hE (listAt_log hl) (by omega)).mono ?_
    rintro e w' ⟨z, rfl, h1, _, _, hb⟩
    exact ⟨Or.inl ⟨_, grains_ge hs hMG hG hd0 hD hp h1 rfl, rfl⟩, hb⟩
  · refine (Grains_err_log d v t.length (pOf t) (cOf t) a true ⟨fun _ => hok, fun _ => rfl⟩ (fun _ => hfit) w hE (listAt_log hl) (by omega)).mono ?_
    rintro e w' ⟨rfl, hb⟩
    exact ⟨Or.inr ⟨_, rfl⟩, hb⟩

set_option maxRecDepth 100000 in
set_option maxHeartbeats 2000000 in
theorem DistPinsker_long (a : Nat → Addr) (ad ad' : Option Addr) (n cap m cap' : Nat) (w : World) (hE : Errs w a) (hn : ¬ (n ≤ 16 ∧ m ≤ 16)) (hm : n ≤ maxLen) (hm' : m ≤ maxLen) :
    Calls Tryz.prog 4 #[.slice ad n cap, .slice ad' m cap'] w fun e w' => e = .returned (.bool true) ∧ Below w.heap.size w w' := by
  have hC := coin_any a w hE
  unfold maxLen at hm hm'
  clear hE
  by_cases h1 : n ≤ 16
  · have h2 : ¬ m ≤ 16 := fun h => hn ⟨h1, h⟩
    clear hn
    have hd : decide (16 < (n : Int)) = false := decide_eq_false (by omega)
    have hd' : (16 : Int) < (m : Int) := by omega
    go_enter Tryz.func4, Tryz.ntmps4
    go_wp2_with (go_at_call 6; refine hC.mono ?_; rintro e w1 ⟨rfl, hb1⟩; have HB1 := Hid.mk' hb1; clear hb1)
    go_ret
    exact ⟨rfl, HB1.out⟩
  · clear hn
    have hd' : (16 : Int) < (n : Int) := by omega
    go_enter Tryz.func4, Tryz.ntmps4
    go_wp2_with (go_at_call 6; refine hC.mono ?_; rintro e w1 ⟨rfl, hb1⟩; have HB1 := Hid.mk' hb1; clear hb1)
    go_ret
    exact ⟨rfl, HB1.out⟩

set_option maxRecDepth 100000 in
set_option maxHeartbeats 2000000 in
theorem DistPinsker_bad (a : Nat → Addr) (ad ad' : Option Addr) (n cap m cap' : Nat) (p q : Nat → Int) (w : World) (hE : Errs w a) (h : NumsAt w (.slice ad n cap) n p) (k : NumsAt w (.slice ad' m cap') m q) (hn : n ≤ 16) (hm : m ≤ 16) (h0 : twoErr p n q m ≠ 0) :
    Calls Tryz.prog 4 #[.slice ad n cap, .slice ad' m cap'] w fun e w' => e = .returned (.bool true) ∧ Below w.heap.size w w' := by
  have hC := coin_any a w hE
  have HWE : Hid (∀ W, Below w.heap.size w W → Calls Tryz.prog 7 #[.slice ad n cap, .slice ad' m cap'] W fun e w' => e = .returned (.int .i64 (twoErr p n q m : Int)) ∧ w' = W) := fun W hb => TwoError_any _ _ n m p q W (h.later hb) (k.later hb) (by omega) (by omega)
  have hd : decide (16 < (n : Int)) = false := decide_eq_false (by omega)
  have hd' : decide (16 < (m : Int)) = false := decide_eq_false (by omega)
  generalize twoErr p n q m = c at *
  clear hE h k
  have hcb : (0 : Int) < (c : Int) := by omega
  go_enter Tryz.func4, Tryz.ntmps4
  go_wp2_with (first
    | (go_at_call 6; refine hC.mono ?_; rintro e w1 ⟨rfl, hb1⟩; have HB1 := Hid.mk' hb1; clear hb1)
    | (go_at_call 7; refine (HWE.out w1 HB1.out).mono ?_; rintro e w2 ⟨rfl, hw2⟩; rw [hw2]; clear hw2))
  go_ret
  exact ⟨rfl, HB1.out⟩

set_option maxRecDepth 100000 in
set_option maxHeartbeats 2000000 in
/-- Sums above 60 are not spoken of. -/
theorem DistPinsker_great (a : Nat → Addr) (b o n cap b' o' cap' P Q : Nat) (p q : Nat → Int) (w : World) (hE : Errs w a) (h : RowAt w b o n p) (k : RowAt w b' o' n q) (h0 : twoErr p n q n = 0) (hP : sumN p n = P) (hQ : sumN q n = Q) (hg : ¬ (P ≤ 60 ∧ Q ≤ 60)) :
    Calls Tryz.prog 4 #[.slice (some ⟨b, o, none⟩) n cap, .slice (some ⟨b', o', none⟩) n cap'] w fun e w' => e = .returned (.bool true) ∧ Below w.heap.size w w' := by
  have hC := coin_any a w hE
  obtain ⟨_, hn, hok1, hok2⟩ := twoErr_ok h0
  have h0n := hok1.posN
  have HWE : Hid (∀ W, Below w.heap.size w W → Calls Tryz.prog 7 #[.slice (some ⟨b, o, none⟩) n cap, .slice (some ⟨b', o', none⟩) n cap'] W fun e w' => e = .returned (.int .i64 0) ∧ w' = W) := fun W hb => by
    have := TwoError_any _ _ n n p q W (Or.inr ⟨b, o, cap, rfl, h0n, h.later hb⟩) (Or.inr ⟨b', o', cap', rfl, h0n, k.later hb⟩) (by omega) (by omega)
    rw [h0] at this
    exact this
  have HSP : Hid (∀ W, Below w.heap.size w W → Calls Tryz.prog 13 #[.slice (some ⟨b, o, none⟩) n cap] W fun e w' => e = .returned (.int .i64 P) ∧ w' = W) := fun W hb => by
    have := Sum_some b o cap n p W (h.later hb) (fun k hk => by have := hok1.part hk; omega) (fun i hi => by have := hok1.lt hi; omega) (by omega)
    rw [hP] at this
    exact this
  have HSQ : Hid (∀ W, Below w.heap.size w W → Calls Tryz.prog 13 #[.slice (some ⟨b', o', none⟩) n cap'] W fun e w' => e = .returned (.int .i64 Q) ∧ w' = W) := fun W hb => by
    have := Sum_some b' o' cap' n q W (k.later hb) (fun k hk => by have := hok2.part hk; omega) (fun i hi => by have := hok2.lt hi; omega) (by omega)
    rw [hQ] at this
    exact this
  have hd : decide (16 < (n : Int)) = false := decide_eq_false (by omega)
  clear hE h k h0 hok1 hok2 hP hQ
  by_cases hp : P ≤ 60
  · have hq : (60 : Int) < (Q : Int) := by omega
    have hdp : decide (60 < (P : Int)) = false := decide_eq_false (by omega)
    clear hg
    go_enter Tryz.func4, Tryz.ntmps4
    go_wp2_with (first
      | (go_at_call 6; refine hC.mono ?_; rintro e w1 ⟨rfl, hb1⟩; have HB1 := Hid.mk' hb1; clear hb1)
      | (go_at_call 7; refine (HWE.out w1 HB1.out).mono ?_; rintro e w2 ⟨rfl, hw2⟩; rw [hw2]; clear hw2)
      | (go_at_call_of 13 cap; refine (HSP.out w1 HB1.out).mono ?_; rintro e w2 ⟨rfl, hw2⟩; rw [hw2]; clear hw2)
      | (go_at_call_of 13 cap'; refine (HSQ.out w1 HB1.out).mono ?_; rintro e w2 ⟨rfl, hw2⟩; rw [hw2]; clear hw2))
    go_ret
    exact ⟨rfl, HB1.out⟩
  · have hq : (60 : Int) < (P : Int) := by omega
    clear hg
    go_enter Tryz.func4, Tryz.ntmps4
    go_wp2_with (first
      | (go_at_call 6; refine hC.mono ?_; rintro e w1 ⟨rfl, hb1⟩; have HB1 := Hid.mk' hb1; clear hb1)
      | (go_at_call 7; refine (HWE.out w1 HB1.out).mono ?_; rintro e w2 ⟨rfl, hw2⟩; rw [hw2]; clear hw2)
      | (go_at_call_of 13 cap; refine (HSP.out w1 HB1.out).mono ?_; rintro e w2 ⟨rfl, hw2⟩; rw [hw2]; clear hw2))
    go_ret
    exact ⟨rfl, HB1.out⟩

set_option maxRecDepth 100000 in
set_option maxHeartbeats 8000000 in
theorem DistPinsker_ok (a : Nat → Addr) (b o n cap b' o' cap' P Q : Nat) (p q : Nat → Int) (w : World) (hE : Errs w a) (h : RowAt w b o n p) (k : RowAt w b' o' n q) (h0 : twoErr p n q n = 0) (hP : sumN p n = P) (hQ : sumN q n = Q) (hP60 : P ≤ 60) (hQ60 : Q ≤ 60) :
    Calls Tryz.prog 4 #[.slice (some ⟨b, o, none⟩) n cap, .slice (some ⟨b', o', none⟩) n cap'] w fun e w' => e = .returned (.bool true) ∧ Below w.heap.size w w' := by
  have hC := coin_any a w hE
  obtain ⟨_, hn, hok1, hok2⟩ := twoErr_ok h0
  have h0n := hok1.posN
  have hP1 : 1 ≤ P ∧ P ≤ 4096 := by have := hok1.pos; have := hok1.le; omega
  have hQ1 : 1 ≤ Q ∧ Q ≤ 4096 := by have := hok2.pos; have := hok2.le; omega
  have HN : Hid (∀ W, Below w.heap.size w W → NumsAt W (.slice (some ⟨b, o, none⟩) n cap) n p) := fun W hb => Or.inr ⟨b, o, cap, rfl, h0n, h.later hb⟩
  have HK : Hid (∀ W, Below w.heap.size w W → NumsAt W (.slice (some ⟨b', o', none⟩) n cap') n q) := fun W hb => Or.inr ⟨b', o', cap', rfl, h0n, k.later hb⟩
  have HWE : Hid (∀ W, Below w.heap.size w W → Calls Tryz.prog 7 #[.slice (some ⟨b, o, none⟩) n cap, .slice (some ⟨b', o', none⟩) n cap'] W fun e w' => e = .returned (.int .i64 0) ∧ w' = W) := fun W hb => by
    have := TwoError_any _ _ n n p q W (HN.out W hb) (HK.out W hb) (by omega) (by omega)
    rw [h0] at this
    exact this
  have HSP : Hid (∀ W, Below w.heap.size w W → Calls Tryz.prog 13 #[.slice (some ⟨b, o, none⟩) n cap] W fun e w' => e = .returned (.int .i64 P) ∧ w' = W) := fun W hb => by
    have := Sum_some b o cap n p W (h.later hb) (fun k hk => by have := hok1.part hk; omega) (fun i hi => by have := hok1.lt hi; omega) (by omega)
    rw [hP] at this
    exact this
  have HSQ : Hid (∀ W, Below w.heap.size w W → Calls Tryz.prog 13 #[.slice (some ⟨b', o', none⟩) n cap'] W fun e w' => e = .returned (.int .i64 Q) ∧ w' = W) := fun W hb => by
    have := Sum_some b' o' cap' n q W (k.later hb) (fun k hk => by have := hok2.part hk; omega) (fun i hi => by have := hok2.lt hi; omega) (by omega)
    rw [hQ] at this
    exact this
  have HDI : Hid (∀ (W : World) (v u : Value), Below w.heap.size w W → NumsAt W v n p → NumsAt W u n q → Calls Tryz.prog 14 #[v, u] W fun e w' => ((zeroB p q n = true ∧ e = .returned (.tuple #[.agg #[.int .i64 0, .slice none 0 0], errV a 4])) ∨ (zeroB p q n = false ∧ ∃ dn v, e = .returned (.tuple #[.agg #[.int .i64 dn, v], .nilIface]) ∧ LogBy W.heap.size P (fun x => sumN (divV p q P Q x) n) w' dn v)) ∧ Below W.heap.size W w') := fun W v u hb hv hu => by
    rcases hv with ⟨_, _, _, h4⟩ | ⟨b1, o1, c1, rfl, _, hr1⟩
    · omega
    rcases hu with ⟨_, _, _, h4⟩ | ⟨b2, o2, c2, rfl, _, hr2⟩
    · omega
    exact Divergence_right a b1 o1 c1 b2 o2 c2 n P Q p q W (hE.below hb) hr1 hr2 h0 hP hQ
  have HCD : Hid (∀ W, Below w.heap.size w W → Calls Tryz.prog 10 #[.iface 179 (.pointer (some (a 3))), .int .i64 4] W fun e w' => e = .returned (.bool true) ∧ Below W.heap.size W w') := fun W hb => coded_errV a 4 (by omega) W (hE.below hb)
  obtain ⟨av, hav⟩ : ∃ av : Nat → Nat, ∀ i, i < n → p i = (av i : Int) := ⟨fun i => (p i).toNat, fun i hi => by have := hok1.nn i hi; dsimp only; omega⟩
  obtain ⟨bv', hbv⟩ : ∃ bv' : Nat → Nat, ∀ i, i < n → q i = (bv' i : Int) := ⟨fun i => (q i).toNat, fun i hi => by have := hok2.nn i hi; dsimp only; omega⟩
  have hPa : P = sumA av n := by have := sumA_nat hav; omega
  have hQa : Q = sumA bv' n := by have := sumA_nat hbv; omega
  obtain ⟨S, hS⟩ : ∃ S, S = sumN (apV p q P Q) n := ⟨_, rfl⟩
  obtain ⟨D0, hD0⟩ : ∃ D0, D0 = 2 * (P * Q) := ⟨_, rfl⟩
  have hPQ : 1 ≤ P * Q ∧ P * Q ≤ 3600 := ⟨Nat.mul_pos hP1.1 hQ1.1, Nat.mul_le_mul hP60 hQ60⟩
  have hS0 : 0 ≤ S ∧ S ≤ 7200 := by
    refine ⟨by rw [hS]; exact sumN_nonneg (fun i _ => by unfold apV; omega), ?_⟩
    have ht := apart_twice (P := P) (Q := Q) hav hbv
    rw [← hS, ← hPa, ← hQa] at ht
    have o1 := on_off (fun i => decide (bv' i * P < av i * Q)) av n
    rw [← hPa] at o1
    generalize sumA (onC (fun i => decide (bv' i * P < av i * Q)) av) n = x at *
    generalize sumA (onC (fun i => decide (bv' i * P < av i * Q)) bv') n = y at *
    have h1 : x * Q ≤ P * Q := Nat.mul_le_mul_right _ (by omega)
    have e1 : ((x * Q : Nat) : Int) = (x : Int) * Q := by simp
    have e2 : ((y * P : Nat) : Int) = (y : Int) * P := by simp
    have e3 : ((P * Q : Nat) : Int) = (P : Int) * Q := by simp
    have e4 : (Q : Int) * P = (P : Int) * Q := Int.mul_comm ..
    omega
  obtain ⟨y, hy⟩ : ∃ y, y = lowN D0 S := ⟨_, rfl⟩
  obtain ⟨d, hd0⟩ : ∃ d, d = lowD D0 S := ⟨_, rfl⟩
  have hD01 : 1 ≤ D0 ∧ D0 ≤ 7200 := by omega
  have HVA : Hid (∀ (W : World) (v u : Value), Below w.heap.size w W → NumsAt W v n p → NumsAt W u n q → Calls Tryz.prog 8 #[v, u] W fun e w' => e = .returned (.tuple #[.agg #[.int .i64 y, .int .i64 (d : Int)], .nilIface]) ∧ Below W.heap.size W w') := fun W v u hb hv hu => by
    rcases hv with ⟨_, _, _, h4⟩ | ⟨b1, o1, c1, rfl, _, hr1⟩
    · omega
    rcases hu with ⟨_, _, _, h4⟩ | ⟨b2, o2, c2, rfl, _, hr2⟩
    · omega
    have := Variation_right a b1 o1 c1 b2 o2 c2 n P Q _ p q W (hE.below hb) hr1 hr2 h0 hP hQ rfl
    rw [← hS, Nat.mul_assoc, ← hD0] at this
    rw [hy, hd0]
    exact this
  have HOF : Hid (∀ W, Calls Tryz.prog 16 #[.agg #[.int .i64 y, .int .i64 (d : Int)]] W fun e w' => ∃ r, e = .returned r ∧ RatioAt w' r (lowN D0 S) (lowD D0 S) ∧ Below W.heap.size W w') := fun W => OfFrac_low y d D0 S W hy hd0 hD01.1 (by omega) (by omega)
  have HT1 : Hid (∀ (W : World) (r s : Value), RatioAt W r (lowN D0 S) (lowD D0 S) → RatioAt W s (lowN D0 S) (lowD D0 S) → Calls Tryz.prog 15 #[r, s] W fun e w' => ∃ r', e = .returned r' ∧ RatioAt w' r' (lowN (D0 * D0) (S * S)) (lowD (D0 * D0) (S * S)) ∧ Below W.heap.size W w') := fun W r s hr hs => Times_two D0 D0 S S r s W hr hs hD01.1 (by omega) hD01.1 (by omega) (by omega) (by omega)
  have hDD : 1 ≤ D0 * D0 ∧ D0 * D0 ≤ 51840000 := ⟨Nat.mul_pos hD01.1 hD01.1, Nat.le_trans (Nat.mul_le_mul hD01.2 hD01.2) (by decide)⟩
  have hSS : 0 ≤ S * S ∧ S * S ≤ 51840000 := by
    obtain ⟨s, rfl⟩ := Int.eq_ofNat_of_zero_le hS0.1
    have : s * s ≤ 7200 * 7200 := Nat.mul_le_mul (by omega) (by omega)
    have e : ((s * s : Nat) : Int) = (s : Int) * s := by simp
    omega
  have HRK : Hid (∀ W, Calls Tryz.prog 17 #[.int .i64 640000000, .int .i64 6931472] W fun e w' => ∃ r, e = .returned r ∧ RatioAt w' r (lowN 6931472 640000000) (lowD 6931472 640000000) ∧ Below W.heap.size W w') := fun W => RatioOf_any 640000000 6931472 W (by omega) (by omega) (by omega) (by omega)
  have HT2 : Hid (∀ (W : World) (r s : Value), RatioAt W r (lowN (D0 * D0) (S * S)) (lowD (D0 * D0) (S * S)) → RatioAt W s (lowN 6931472 640000000) (lowD 6931472 640000000) → Calls Tryz.prog 15 #[r, s] W fun e w' => ∃ r', e = .returned r' ∧ RatioAt w' r' (lowN (D0 * D0 * 6931472) (S * S * 640000000)) (lowD (D0 * D0 * 6931472) (S * S * 640000000)) ∧ Below W.heap.size W w') := fun W r s hr hs => Times_two (D0 * D0) 6931472 (S * S) 640000000 r s W hr hs hDD.1 (by omega) (by omega) (by omega) (by omega) (by omega)
  obtain ⟨nn, hnn⟩ : ∃ nn, nn = (S * S * 640000000).natAbs / (D0 * D0 * 6931472) := ⟨_, rfl⟩
  have hM2 : 0 < D0 * D0 * 6931472 := Nat.mul_pos hDD.1 (by decide)
  have hnn1 : nn ≤ 4611686018427387904 := by
    rw [hnn]
    refine Nat.le_trans (Nat.div_le_self _ _) ?_
    have h1 : S * S * 640000000 ≤ 51840000 * 640000000 := Int.mul_le_mul_of_nonneg_right hSS.2 (by decide)
    have h2 : 0 ≤ S * S * 640000000 := Int.mul_nonneg hSS.1 (by decide)
    omega
  have HBP : Hid (∀ (W : World) (u v : Value), BigAt W u (lowN (D0 * D0 * 6931472) (S * S * 640000000)).natAbs → BigAt W v (lowD (D0 * D0 * 6931472) (S * S * 640000000)) → Calls Tryz.prog 18 #[u, v] W fun e w' => ∃ ad l cap r, e = .returned (.tuple #[.slice ad l cap, r]) ∧ BigAt w' (.slice ad l cap) nn ∧ Below W.heap.size W w') := fun W u v hu hv => by
    have l1 := lowN_le hM2 (S * S * 640000000)
    have l2 := lowD_le (D0 * D0 * 6931472) (S * S * 640000000)
    have p3 : (1000000 : Nat) ^ 3 = 1000000000000000000 := by decide
    have p4 : (1000000 : Nat) ^ 4 = 1000000000000000000000000 := by decide
    have h1 : S * S * 640000000 ≤ 51840000 * 640000000 := Int.mul_le_mul_of_nonneg_right hSS.2 (by decide)
    have h2 : 0 ≤ S * S * 640000000 := Int.mul_nonneg hSS.1 (by decide)
    have h3 : D0 * D0 * 6931472 ≤ 51840000 * 6931472 := Nat.mul_le_mul_right _ hDD.2
    refine (BigPart_any 3 (by decide) _ (by rw [p3]; omega) _ _ rfl (lowD_pos hM2 _) (by rw [p4]; omega) u v W hu hv).mono ?_
    rintro e w' ⟨q', r', rfl, hq', _, hb'⟩
    rw [low_floor hM2, ← hnn] at hq'
    obtain ⟨ad, l, cap, rfl, _⟩ := hq'.len
    exact ⟨ad, l, cap, r', rfl, hq', hb'⟩
  have HBI : Hid (∀ (W : World) (u : Value), BigAt W u nn → Calls Tryz.prog 19 #[u] W fun e w' => e = .returned (.tuple #[.int .i64 nn, .bool true]) ∧ w' = W) := fun W u hu => BigInt_any u nn W hu hnn1
  have HGR : Hid (zeroB p q n = false → ∀ (W : World) (dn : Int) (v : Value) (base : Nat), Below w.heap.size w W → LogBy base P (fun x => sumN (divV p q P Q x) n) W dn v → Calls Tryz.prog 20 #[.agg #[.int .i64 dn, v]] W fun e w' => ((∃ z : Int, (nn : Int) ≤ z ∧ e = .returned (.tuple #[.int .i64 z, .nilIface])) ∨ ∃ ad, e = .returned (.tuple #[.int .i64 0, .iface 179 (.pointer (some ad))])) ∧ Below W.heap.size W w') := fun hzf W dn v base hb hl => by
    have hzz : ∀ i, i < n → 0 < p i → 0 < q i := fun i hi h1 => by
      have h2 := hok2.lt hi
      rcases Int.lt_or_le 0 (q i) with h3 | h3
      · exact h3
      · rw [(zeroB_iff p q n).2 ⟨i, hi, h1, by omega⟩] at hzf; cases hzf
    have hprim := div_prim (p := p) (q := q) (P := P) (Q := Q) (n := n) (fun i hi => hok1.lt hi) (fun i hi => hok2.lt hi) hn hP1 hQ1 hzz
    have hz' : ∀ i, i < n → 0 < av i → 0 < bv' i := fun i hi h1 => by
      have := hzz i hi (by rw [hav i hi]; omega)
      rw [hbv i hi] at this
      omega
    obtain ⟨hU, hD, hm⟩ := div_sides (P := P) (Q := Q) hav hbv hP1.1 hQ1.1 hz'
    have hpin := pinsker (n := nn) (S := S) hav hbv hPa hQa ⟨hP1.1, hP60⟩ hQ1.1 hz' hS (by
      have h1 : nn * (D0 * D0 * 6931472) ≤ (S * S * 640000000).natAbs := by rw [hnn]; exact Nat.div_mul_le_self _ _
      have h2 : 0 ≤ S * S * 640000000 := Int.mul_nonneg hSS.1 (by decide)
      have h3 : ((nn * (D0 * D0 * 6931472) : Nat) : Int) ≤ S * S * 640000000 := by omega
      simp only [Int.natCast_mul] at h3
      have e : (D0 : Int) = 2 * P * Q := by rw [hD0]; simp only [Int.natCast_mul]; grind
      rw [e] at h3
      have k1 : (6931472 : Int) * nn * (2 * P * Q * (2 * P * Q)) = nn * (2 * P * Q * (2 * P * Q) * 6931472) := by grind
      have k2 : (640000000 : Int) * (S * S) = S * S * 640000000 := Int.mul_comm ..
      rw [k1, k2]
      exact h3)
    exact Grains_by a W (hE.below hb) hl hP1.1 (by omega) hprim hU hD hm hpin
  have hd : decide (16 < (n : Int)) = false := decide_eq_false (by omega)
  have hdP : decide (60 < (P : Int)) = false := decide_eq_false (by omega)
  have hdQ : decide (60 < (Q : Int)) = false := decide_eq_false (by omega)
  have HA3 : Hid (errV a 4 = .iface 179 (.pointer (some (a 3)))) := rfl
  generalize a 3 = ea at HCD HA3
  generalize errV a 4 = ev at HDI HA3
  generalize lowN D0 S = N1 at HOF HT1
  generalize lowD D0 S = E1 at HOF HT1
  generalize lowN (D0 * D0) (S * S) = N2 at HT1 HT2
  generalize lowD (D0 * D0) (S * S) = E2 at HT1 HT2
  generalize lowN (D0 * D0 * 6931472) (S * S * 640000000) = N3 at HT2 HBP
  generalize lowD (D0 * D0 * 6931472) (S * S * 640000000) = E3 at HT2 HBP
  generalize lowN 6931472 640000000 = N4 at HT2 HRK
  generalize lowD 6931472 640000000 = E4 at HT2 HRK
  clear hE h k h0 hok1 hok2 hP hQ hav hbv hPa hQa hS hD0 hPQ hS0 hy hd0 hD01 hDD hSS hnn hM2 hnn1
  go_enter Tryz.func4, Tryz.ntmps4
  go_wp2_with (first
    | (go_at_call 6; refine hC.mono ?_; rintro e w1 ⟨rfl, hb1⟩; have HB1 := Hid.mk' hb1; clear hb1)
    | (go_at_call 7; refine (HWE.out w1 HB1.out).mono ?_; rintro e w2 ⟨rfl, hw2⟩; rw [hw2]; clear hw2)
    | (go_at_call_of 13 cap; refine (HSP.out w1 HB1.out).mono ?_; rintro e w2 ⟨rfl, hw2⟩; rw [hw2]; clear hw2)
    | (go_at_call_of 13 cap'; refine (HSQ.out w1 HB1.out).mono ?_; rintro e w2 ⟨rfl, hw2⟩; rw [hw2]; clear hw2))
  clear hC HWE HSP HSQ
  refine (ints_any _ n p w1 (HN.out _ HB1.out) (by omega)).mono ?_
  rintro e w3 ⟨v3, rfl, hv3, hb3⟩
  obtain ⟨ad3, cap3, rfl⟩ := hv3.form
  go_wp2_with fail
  refine (ints_any _ n q w3 (HK.out _ (below_chain HB1.out hb3)) (by omega)).mono ?_
  rintro e w4 ⟨v4, rfl, hv4, hb4⟩
  obtain ⟨ad4, cap4, rfl⟩ := hv4.form
  have HB4 := Hid.mk' (below_chain (below_chain HB1.out hb3) hb4)
  have hdi := HDI.out w4 _ _ HB4.out (hv3.later hb4) hv4
  clear hv3 hv4 hb3 hb4 HDI
  go_wp2_with fail
  refine hdi.mono ?_
  clear hdi
  rintro e w5 ⟨⟨hzt, rfl⟩ | ⟨hzf, dn5, v5, rfl, hl5⟩, hb5⟩
  · have HB5 := Hid.mk' (more_below (below_chain HB4.out hb5) (.cells #[.int .i64 0, .slice none 0 0] 45))
    clear hb5 hzt
    rw [HA3.out]
    go_wp2_with fail
    refine (HCD.out _ HB5.out).mono ?_
    rintro e w6 ⟨rfl, hb6⟩
    have HB6 := Hid.mk' (below_chain HB5.out hb6)
    clear hb6
    go_wp2_with fail
    go_ret
    exact ⟨rfl, HB6.out⟩
  · have hgr := HGR.out hzf
    have HG2 := Hid.mk' hgr
    obtain ⟨ad5, n5, cap5, rfl⟩ := hl5.form
    obtain ⟨W5, hW5⟩ : ∃ W5, W5 = w5.alloc (.cells #[.int .i64 dn5, .slice ad5 n5 cap5] 45) := ⟨_, rfl⟩
    have HL5 : Hid (∀ W, Below W5.heap.size W5 W → LogBy w4.heap.size P (fun x => sumN (divV p q P Q x) n) W dn5 (.slice ad5 n5 cap5)) := fun W hb => by rw [hW5] at hb; exact (hl5.later (new_below _ _)).later hb
    have HC5 : Hid (∀ W, Below W5.heap.size W5 W → W.cell? ⟨w5.heap.size, 0, none⟩ = some (.int .i64 dn5) ∧ W.cell? ⟨w5.heap.size, 1, none⟩ = some (.slice ad5 n5 cap5)) := fun W hb => by
      rw [hW5] at hb
      have := res_past hb
      exact ⟨this.1, this.2.1⟩
    have HB5 : Hid (Below w.heap.size w W5) := by rw [hW5]; exact more_below (below_chain HB4.out hb5) _
    have HW5 := Hid.mk' hW5
    clear hl5 hb5 hW5 hgr HGR hzf HCD HA3
    go_upto_region 5 with fail
    rw [← HW5.out]
    clear HW5
    go_wp2_with fail
    refine (ints_any _ n p W5 (HN.out _ HB5.out) (by omega)).mono ?_
    rintro e w6 ⟨v6, rfl, hv6, hb6⟩
    obtain ⟨ad6, cap6, rfl⟩ := hv6.form
    go_wp2_with fail
    refine (ints_any _ n q w6 (HK.out _ (below_chain HB5.out hb6)) (by omega)).mono ?_
    rintro e w7 ⟨v7, rfl, hv7, hb7⟩
    obtain ⟨ad7, cap7, rfl⟩ := hv7.form
    have S57 := Hid.mk' (below_chain hb6 hb7)
    have hva := HVA.out w7 _ _ (below_chain HB5.out S57.out) (hv6.later hb7) hv7
    clear hv6 hv7 hb6 hb7 HVA HN HK
    go_wp2_with fail
    refine hva.mono ?_
    clear hva
    rintro e w8 ⟨rfl, hb8⟩
    obtain ⟨W8, hW8⟩ : ∃ W8, W8 = w8.alloc (.cells #[.int .i64 y, .int .i64 (d : Int)] 26) := ⟨_, rfl⟩
    have S58 : Hid (Below W5.heap.size W5 W8) := by rw [hW8]; exact more_below (below_chain S57.out hb8) _
    have HKS : Hid (∀ W, Below W8.heap.size W8 W → W.cell? ⟨w8.heap.size, 0, none⟩ = some (.int .i64 y) ∧ W.cell? ⟨w8.heap.size, 1, none⟩ = some (.int .i64 (d : Int))) := fun W hb => by
      rw [hW8] at hb
      have := res_past hb
      exact ⟨this.1, this.2.1⟩
    have HW8 := Hid.mk' hW8
    clear hb8 hW8
    go_upto_region 8 with fail
    rw [← HW8.out]
    clear HW8
    have hcur0 : Below W8.heap.size W8 W8 := Below.refl _ _
    have hcur : Below W8.heap.size W8 W8.drew := (Below.refl _ _).drew
    have hcurA : ∀ X, Below W8.heap.size W8 (W8.alloc X).drew := fun X => (new_below _ _).drew
    go_upto_region 10 with fail
    go_cut [9] from 72 (fun s' wx => ∃ Bs : Nat, s' = .pointer (some ⟨Bs, 0, none⟩) ∧ Hid (FBox W8 wx Bs N2 E2))
    case first =>
      go_region_held3 (fun W => W.cell? ⟨w8.heap.size, 0, none⟩ = some (.int .i64 y) ∧ W.cell? ⟨w8.heap.size, 1, none⟩ = some (.int .i64 (d : Int)))
        (first | exact HKS.out _ hcur0 | exact HKS.out _ hcur | exact HKS.out _ (hcurA _) | (refine HKS.out _ ?_; assumption) | (refine HKS.out _ (more_below ?_ _); assumption) | (refine HKS.out _ (below_set3 ?_ NB.hB _ _ _); assumption))
        (first
          | (go_at_call 15; refine (HT1.out _ _ _ ?_ ?_).mono ?_; (first | exact HXP.out | exact HXQ.out | exact HXP.out.later (new_below _ _) | exact HXQ.out.later (new_below _ _)); (first | exact HXP.out | exact HXQ.out | exact HXP.out.later (new_below _ _) | exact HXQ.out.later (new_below _ _)); rintro e w7 ⟨rv, rfl, hrv, hb7⟩; obtain ⟨sg, ad8, l8, cap8, ad9, l9, cap9, rfl⟩ := hrv.parts; (first | (have hbw7 := below_chain hbQ hb7; try have NB := NB.later hb7) | (have hbw7 := below_chain (more_below hbQ _) hb7; have NB := newBox3_of hbQ hb7)); (try (have y0 := NB.c0; have y1 := NB.c1; have y2 := NB.c2; have y3 := NB.f0; have y4 := NB.f1; have y5 := NB.f2)); have HRV := Hid.mk' hrv; clear hrv hb7)
          | (go_at_call 16; have hz5 := hbP; clear hz5; refine (HOF.out _).mono ?_; rintro e w6 ⟨r6, rfl, hr6, hb6⟩; obtain ⟨sg6, ad10, l10, cap10, ad11, l11, cap11, rfl⟩ := hr6.parts; (first | (have hbQ := below_chain hbP hb6; have HXP := Hid.mk' (HXP.out.later hb6); (try have NB := NB.later hb6)) | (have hbQ := below_chain (more_below hbP _) hb6; have HXP := Hid.mk' ((HXP.out.later (new_below _ _)).later hb6); have NB := newBox3_of hbP hb6)); have HXQ := Hid.mk' hr6; clear hr6 hb6)
          | (go_at_call 16; refine (HOF.out _).mono ?_; rintro e w5 ⟨r5, rfl, hr5, hb5⟩; obtain ⟨sg5, ad12, l12, cap12, ad13, l13, cap13, rfl⟩ := hr5.parts; (first | have hbP := below_chain hcur hb5 | (have hbP := below_chain (hcurA _) hb5; have NB := newBox3_of hcur0 (below_chain ((Below.refl _ _).drew) hb5))); have HXP := Hid.mk' hr5; clear hr5 hb5))
      all_goals
        go_wp2_with fail
        go_meet
        first | exact ⟨_, rfl, fBox_late hbw7 HRV.out⟩ | exact ⟨_, rfl, fBox_soon hbw7 HRV.out NB⟩
    case rest =>
    obtain ⟨Bs, rfl, HFB⟩ := hcut
    obtain ⟨Wc, hWc⟩ : ∃ Wc, Wc = wc := ⟨_, rfl⟩
    rw [← hWc] at HFB ⊢
    clear hWc hcur0 hcur hcurA HKS HOF HT1
    obtain ⟨s9, ad9, l9, ca9, ad10, l10, ca10, x0, x1, x2, hr9⟩ := HFB.out.box
    have HKC : Hid (∀ W, Below Wc.heap.size Wc W → (W.cell? ⟨Bs, 0, none⟩ = some (.bool s9) ∧ W.cell? ⟨Bs, 1, none⟩ = some (.slice ad9 l9 ca9) ∧ W.cell? ⟨Bs, 2, none⟩ = some (.slice ad10 l10 ca10)) ∧ W.frozen? ⟨Bs, 0, none⟩ = false ∧ W.frozen? ⟨Bs, 1, none⟩ = false ∧ W.frozen? ⟨Bs, 2, none⟩ = false) := fun W hb => ⟨⟨(cell_past x0 hb).2, (cell_past x1 hb).2, (cell_past x2 hb).2⟩, (frozen_past x0 HFB.out.f0 hb).2, (frozen_past x1 HFB.out.f1 hb).2, (frozen_past x2 HFB.out.f2 hb).2⟩
    have HRO : Hid (∀ W, Below Wc.heap.size Wc W → RatioAt W (.agg #[.bool s9, .slice ad9 l9 ca9, .slice ad10 l10 ca10]) N2 E2) := fun W hb => hr9.later hb
    have S8c := Hid.mk' HFB.out.below
    have HBs := Hid.mk' HFB.out.hB
    have hcur : Below Wc.heap.size Wc Wc.drew := (Below.refl _ _).drew
    clear hr9 HFB
    go_upto_region 11 with fail
    go_cut [] from 75 (fun wx => Hid (FBox W8 wx Bs N3 E3))
    case first =>
      go_region_with (first
        | (go_at_call 15; refine (HT2.out _ _ _ (HRO.out _ hbR) HXR.out).mono ?_; rintro e w7 ⟨rv, rfl, hrv, hb7⟩; obtain ⟨sg, ad14, l14, cap14, ad15, l15, cap15, rfl⟩ := hrv.parts; have hbT := below_chain hbR hb7; obtain ⟨⟨z0, z1, z2⟩, g0, g1, g2⟩ := HKC.out _ hbT; have HRV := Hid.mk' hrv; clear hrv hb7)
        | (go_at_call 17; refine (HRK.out _).mono ?_; rintro e w5 ⟨r5, rfl, hr5, hb5⟩; obtain ⟨sg5, ad12, l12, cap12, ad13, l13, cap13, rfl⟩ := hr5.parts; have hbR := below_chain hcur hb5; obtain ⟨⟨v0, v1, v2⟩, _, _, _⟩ := HKC.out _ hbR; have HXR := Hid.mk' hr5; clear hr5 hb5))
      all_goals
        go_wp2_with fail
        go_meet
        exact fBox_put (below_chain S8c.out hbT) HBs.out g0 g1 g2 z0 z1 z2 HRV.out
    case rest =>
    have HFC := hcut
    obtain ⟨Wd, hWd⟩ : ∃ Wd, Wd = wc := ⟨_, rfl⟩
    rw [← hWd] at HFC ⊢
    clear hWd hcur HKC HRO S8c HBs x0 x1 x2 HRK HT2
    obtain ⟨s9, ad9, l9, ca9, ad10, l10, ca10, x0, x1, x2, u9, q9, hv9, hu9, hq9⟩ := HFC.out.box
    have hv9' := hv9
    simp only [Value.agg.injEq, Array.mk.injEq, List.cons.injEq, and_true] at hv9'
    obtain ⟨_, h91, h92⟩ := hv9'
    rw [← h91] at hu9
    rw [← h92] at hq9
    have hbp := HBP.out Wd _ _ hu9 hq9
    have S8d := Hid.mk' HFC.out.below
    clear hv9 h91 h92 hu9 hq9 HFC HBP
    go_wp2_with fail
    refine hbp.mono ?_
    clear hbp x0 x1 x2
    rintro e w10 ⟨ad11, l11, cap11, r11, rfl, hq11, hb10⟩
    have hbi := HBI.out w10 _ hq11
    have S5e := Hid.mk' (below_chain (below_chain S58.out S8d.out) hb10)
    clear hq11 hb10 HBI
    go_wp2_with fail
    refine hbi.mono ?_
    clear hbi
    rintro e w11 ⟨rfl, hw11⟩
    rw [hw11]
    clear hw11
    obtain ⟨x0, x1⟩ := HC5.out w10 S5e.out
    have HBE := Hid.mk' (below_chain HB5.out S5e.out)
    have hgr := HG2.out w10 dn5 _ _ HBE.out (HL5.out w10 S5e.out)
    clear HG2 HC5 HL5
    go_wp2_with fail
    refine hgr.mono ?_
    clear hgr x0 x1
    rintro e w12 ⟨⟨z, hz, rfl⟩ | ⟨ade, rfl⟩, hb12⟩
    · have HB12 := Hid.mk' (below_chain HBE.out hb12)
      clear hb12
      go_wp2_with fail
      go_ret
      exact ⟨rfl, HB12.out⟩
    · have HB12 := Hid.mk' (below_chain HBE.out hb12)
      clear hb12
      go_wp2_with fail
      go_ret
      exact ⟨rfl, HB12.out⟩

theorem DistPinsker_all (a : Nat → Addr) (ad : Option Addr) (n cap : Nat) (p : Nat → Int) (ad' : Option Addr) (m cap' : Nat) (q : Nat → Int) (w : World) (hE : Errs w a) (h : NumsAt w (.slice ad n cap) n p) (hm : n ≤ maxLen) (k : NumsAt w (.slice ad' m cap') m q) (hm' : m ≤ maxLen) :
    Calls Tryz.prog 4 #[.slice ad n cap, .slice ad' m cap'] w fun e w' => e = .returned (.bool true) ∧ Below w.heap.size w w' := by
  by_cases hn : n ≤ 16 ∧ m ≤ 16
  · by_cases h0 : twoErr p n q m = 0
    · obtain ⟨rfl, h16, hok1, hok2⟩ := twoErr_ok h0
      have hp := hok1.posN
      obtain ⟨P, hP⟩ := Int.eq_ofNat_of_zero_le (Int.le_of_lt hok1.pos)
      obtain ⟨Q, hQ⟩ := Int.eq_ofNat_of_zero_le (Int.le_of_lt hok2.pos)
      rcases h with ⟨_, _, _, h4⟩ | ⟨b, o, c1, hv, _, hr⟩
      · omega
      rcases k with ⟨_, _, _, h4⟩ | ⟨b', o', c2, hu, _, kr⟩
      · omega
      simp only [Value.slice.injEq, true_and] at hv hu
      obtain ⟨rfl, rfl⟩ := hv
      obtain ⟨rfl, rfl⟩ := hu
      by_cases hg : P ≤ 60 ∧ Q ≤ 60
      · exact DistPinsker_ok a b o n cap b' o' cap' P Q p q w hE hr kr h0 hP hQ hg.1 hg.2
      · exact DistPinsker_great a b o n cap b' o' cap' P Q p q w hE hr kr h0 hP hQ hg
    · exact DistPinsker_bad a ad ad' n cap m cap' p q w hE h k hn.1 hn.2 h0
  · exact DistPinsker_long a ad ad' n cap m cap' w hE hn hm hm'
end Go.Proofs.YtofflboheiflaaaGreatDoor

/- What the rows' condition on package variables gives a walk: eight different sentinels with their texts, and the handle of the type error. -/
namespace Go.Proofs.YtofflboheiflaaaGreatDoor
open Go.ChangeShapes Go.WideShapes Go.RowKit

theorem Tryz.own : ownKnob Tryz.prog.godebug = none := by kernel_rfl
theorem Tryz.et : Tryz.prog.globalNamed "errors.errorType" = some 8 := by kernel_rfl
theorem Tryz.rt : (Tryz.prog.cutTypes.find? (·.1 == "internal/reflectlite.rtype")).map (·.2) = some 143 := by kernel_rfl
theorem Tryz.oneRow : ((List.range 211).filter fun t => Tryz.prog.rowNamed t [101, 114, 114, 111, 114]) = [28] := by kernel_rfl
theorem Tryz.size : Tryz.prog.types.size = 211 := by kernel_rfl
theorem Tryz.star : ("*" ++ "errors.errorString" : String) = "*errors.errorString" := by decide
theorem Tryz.rowE (u : TypeId) (h : Tryz.prog.typeName? 3 u = some "*errors.errorString") : u = 179 :=
  typeName_ptr_named (nm := "errors.errorString") (by rw [Tryz.star]; kernel_rfl) (by kernel_rfl) (by decide) u (by rw [Tryz.star]; exact h)
theorem Tryz.cellsE : Tryz.prog.cellsOf 199 = 1 := by kernel_rfl
theorem Tryz.cellsS : Tryz.prog.cellsOf 9 = 1 := by kernel_rfl
theorem Tryz.g0 : Tryz.prog.globalNamed "demon/api.ErrText" = some 2 := by kernel_rfl
theorem Tryz.g1 : Tryz.prog.globalNamed "demon/api.ErrBound" = some 3 := by kernel_rfl
theorem Tryz.g2 : Tryz.prog.globalNamed "demon/api.ErrShape" = some 1 := by kernel_rfl
theorem Tryz.g3 : Tryz.prog.globalNamed "demon/api.ErrZero" = some 0 := by kernel_rfl
theorem Tryz.g4 : Tryz.prog.globalNamed "demon/api.ErrName" = some 4 := by kernel_rfl
theorem Tryz.g5 : Tryz.prog.globalNamed "demon/api.ErrNone" = some 5 := by kernel_rfl
theorem Tryz.g6 : Tryz.prog.globalNamed "demon/api.ErrOrder" = some 6 := by kernel_rfl
theorem Tryz.g7 : Tryz.prog.globalNamed "demon/api.ErrKind" = some 7 := by kernel_rfl

/-- Any number of listed sentinels of one type: each one's pointer, text and row; no two are one. -/
theorem laid_list {P : Program} {W : World} {nm : String} {ti tp te ts : TypeId} {ms : Array (String × TypeId)} {f : Field}
    (hi : P.underlying ti = some (.interface ms)) (hrow : ∀ u, P.typeName? 3 u = some nm → u = tp)
    (hp : P.underlying tp = some (.pointer te)) (he : P.underlying te = some (.struct #[f])) (hft : f.type = ts) (hfo : f.offset = 0) (hs : P.underlying ts = some .string) (hc : P.cellsOf te = 1) (hcs : P.cellsOf ts = 1) :
    ∀ (L : List (String × List UInt8)) (ps : List MemPlace), (∀ x, x ∈ L → ∃ g, P.globalNamed x.1 = some g ∧ (P.globals[g]?).map (·.type) = some ti) →
      DataW.LaidVars P W (L.map fun x => (x.1, .iface nm (.ptr (.agg [.lit (.string x.2)])))) ps → ps.Nodup →
      (∀ b off, MemPlace.cell b off ∈ ps → (∃ c t, W.heap[b]? = some (.cells c t (0, 0))) ∧ ∀ u v, W.cell? ⟨b, off, none⟩ = some (.iface u v) → Value.okWide P W .any 0 u v) →
      ∃ a : Nat → Addr, (∀ i x, L[i]? = some x → W.var? P x.1 = some #[.iface tp (.pointer (some (a i)))] ∧ (∃ s, W.cell? (a i) = some (.string s) ∧ s.data.toList = x.2) ∧
          (∃ c t, W.heap[(a i).block]? = some (.cells c t (0, 0))) ∧ MemPlace.cell (a i).block (a i).off ∈ ps) ∧
        ∀ i j, i < L.length → j < L.length → i ≠ j → a i ≠ a j := by
  intro L
  induction L with
  | nil => intro ps _ _ _ _; exact ⟨fun _ => default, fun i x h => by simp at h, fun i j h => by simp at h⟩
  | cons x r ih =>
    intro ps hgs hv hnd hrows
    obtain ⟨n, text⟩ := x
    obtain ⟨g0, t0, cs0, f0, p0, q0, hg0, ht0, hv0, hd0, hvr, e0⟩ := hv
    obtain ⟨g, hg, ht⟩ := hgs (n, text) (List.mem_cons_self ..)
    obtain rfl := Option.some.inj (hg.symm.trans hg0)
    obtain rfl := Option.some.inj (ht.symm.trans ht0)
    subst e0
    obtain ⟨l0⟩ := cs0
    have ok0 : ∀ u v, l0 = [.iface u v] → Value.okWide P W .any 0 u v := fun u v e => by
      subst e
      exact (hrows g 0 (by simp [MemPlace.row])).2 u v (by simpa using World.var?_cell hg0 hv0 0)
    obtain ⟨a0, s0, rfl, hc0, hs0, hz0, rfl⟩ := errorString_of_trod hi hrow hp he hft hfo hs hc hcs hd0 ok0
    obtain ⟨c0, tt0, hb0⟩ := (hrows a0.block a0.off (by simp [MemPlace.row])).1
    have hnq : q0.Nodup := List.Nodup.sublist (List.sublist_append_right _ _) hnd
    obtain ⟨a', ha', hne'⟩ := ih q0 (fun x hx => hgs x (List.mem_cons_of_mem _ hx)) hvr hnq (fun b off hm => hrows b off (List.mem_append_right _ hm))
    have hnot : MemPlace.cell a0.block a0.off ∉ q0 := by
      intro hm
      have := (List.nodup_append.1 hnd).2.2
      exact this (.cell a0.block a0.off) (by simp [MemPlace.row]) (.cell a0.block a0.off) hm rfl
    refine ⟨fun i => match i with | 0 => a0 | k + 1 => a' k, ?_, ?_⟩
    · intro i x hx
      cases i with
      | zero =>
        simp only [List.getElem?_cons_zero, Option.some.injEq] at hx
        subst hx
        exact ⟨hv0, ⟨s0, hc0, hs0⟩, ⟨c0, tt0, hb0⟩, by simp [MemPlace.row]⟩
      | succ k =>
        simp only [List.getElem?_cons_succ] at hx
        obtain ⟨h1, h2, h3, h4⟩ := ha' k x hx
        exact ⟨h1, h2, h3, List.mem_append_right _ h4⟩
    · have far : ∀ k, k < r.length → a0 ≠ a' k := fun k hk e => by
        obtain ⟨_, _, _, h4⟩ := ha' k r[k] (by simp [hk])
        rw [← e] at h4
        exact hnot h4
      intro i j hi' hj' hij
      cases i with
      | zero =>
        cases j with
        | zero => exact absurd rfl hij
        | succ k => exact far k (by simpa using hj')
      | succ m =>
        cases j with
        | zero => exact (far m (by simpa using hi')).symm
        | succ k => exact hne' m k (by simpa using hi') (by simpa using hj') (by omega)

/-- The names and texts, in the rows' order. -/
def eightNames : List (String × List UInt8) := [("demon/api.ErrText", [100, 101, 109, 111, 110, 58, 32, 116, 101, 120, 116]), ("demon/api.ErrBound", [100, 101, 109, 111, 110, 58, 32, 98, 111, 117, 110, 100]), ("demon/api.ErrShape", [100, 101, 109, 111, 110, 58, 32, 115, 104, 97, 112, 101]), ("demon/api.ErrZero", [100, 101, 109, 111, 110, 58, 32, 122, 101, 114, 111]), ("demon/api.ErrName", [100, 101, 109, 111, 110, 58, 32, 110, 97, 109, 101]), ("demon/api.ErrNone", [100, 101, 109, 111, 110, 58, 32, 110, 111, 110, 101]), ("demon/api.ErrOrder", [100, 101, 109, 111, 110, 58, 32, 111, 114, 100, 101, 114]), ("demon/api.ErrKind", [100, 101, 109, 111, 110, 58, 32, 107, 105, 110, 100])]
def laidAll : List (String × DataW Unit) := [("errors.errorType", Rows.laid_errors_errorType), ("demon/api.ErrText", Rows.laid_demon_api_ErrText), ("demon/api.ErrBound", Rows.laid_demon_api_ErrBound), ("demon/api.ErrShape", Rows.laid_demon_api_ErrShape), ("demon/api.ErrZero", Rows.laid_demon_api_ErrZero), ("demon/api.ErrName", Rows.laid_demon_api_ErrName), ("demon/api.ErrNone", Rows.laid_demon_api_ErrNone), ("demon/api.ErrOrder", Rows.laid_demon_api_ErrOrder), ("demon/api.ErrKind", Rows.laid_demon_api_ErrKind)]
theorem laidAll_parts (W : World) : laidMetH Tryz.prog laidAll W = (laidMet Tryz.prog (eightNames.map fun x => (x.1, .iface "*errors.errorString" (.ptr (.agg [.lit (.string x.2)])))) W ∧ handlesMet Tryz.prog [("errors.errorType", Rows.laid_errors_errorType)] W) := by kernel_rfl

theorem var_at {W : World} {n : String} {g : Nat} {v : Value} (hg : Tryz.prog.globalNamed n = some g) (h : W.var? Tryz.prog n = some #[v]) : W.cell? ⟨g, 0, none⟩ = some v := by
  simpa using World.var?_cell hg h 0

theorem errs_of_laid {W : World} (h : laidMetH Tryz.prog laidAll W) : ∃ a : Nat → Addr, Errs W a ∧ ∀ i x, eightNames[i]? = some x → ∃ s, W.cell? (a i) = some (.string s) ∧ s.data.toList = x.2 := by
  rw [laidAll_parts] at h
  obtain ⟨⟨ps, hv, hnd, hrows⟩, hh⟩ := h
  obtain ⟨name, u, ty, e1, e2, e3, e4, e5⟩ := hh _ (List.mem_singleton.2 rfl)
  have en : name = [101, 114, 114, 111, 114] := (Option.some.inj e1).symm
  subst en
  obtain rfl := Option.some.inj (Tryz.rt.symm.trans e2)
  have hm : ty ∈ (List.range 211).filter fun t => Tryz.prog.rowNamed t [101, 114, 114, 111, 114] := List.mem_filter.2 ⟨List.mem_range.2 (by rw [← Tryz.size]; exact e3), e4⟩
  rw [Tryz.oneRow] at hm
  obtain rfl := List.mem_singleton.1 hm
  have hth : typeHandle Tryz.prog 28 = .pointer (some ⟨9, 28, none⟩) := by kernel_rfl
  rw [hth] at e5
  obtain ⟨a, ha, hne⟩ := laid_list Tryz.underlying28 Tryz.rowE Tryz.underlying179 Tryz.underlying199 rfl rfl Tryz.underlying9 Tryz.cellsE Tryz.cellsS eightNames ps
    (fun x hx => by
      simp only [eightNames, List.mem_cons, List.not_mem_nil, or_false] at hx
      rcases hx with rfl | rfl | rfl | rfl | rfl | rfl | rfl | rfl
      · exact ⟨_, Tryz.g0, by kernel_rfl⟩
      · exact ⟨_, Tryz.g1, by kernel_rfl⟩
      · exact ⟨_, Tryz.g2, by kernel_rfl⟩
      · exact ⟨_, Tryz.g3, by kernel_rfl⟩
      · exact ⟨_, Tryz.g4, by kernel_rfl⟩
      · exact ⟨_, Tryz.g5, by kernel_rfl⟩
      · exact ⟨_, Tryz.g6, by kernel_rfl⟩
      · exact ⟨_, Tryz.g7, by kernel_rfl⟩) hv hnd hrows
  refine ⟨a, ⟨var_at Tryz.g0 (ha 0 _ rfl).1, var_at Tryz.g1 (ha 1 _ rfl).1, var_at Tryz.g2 (ha 2 _ rfl).1, var_at Tryz.g3 (ha 3 _ rfl).1, var_at Tryz.g4 (ha 4 _ rfl).1, var_at Tryz.g5 (ha 5 _ rfl).1, var_at Tryz.g6 (ha 6 _ rfl).1, var_at Tryz.g7 (ha 7 _ rfl).1, var_at Tryz.et e5, ?_, ?_⟩, fun i x hx => (ha i x hx).2.1⟩
  · intro i hi
    have hl : eightNames.length = 8 := rfl
    exact (ha i eightNames[i] (List.getElem?_eq_getElem (by omega))).2.2.1
  · intro i j hi hj hij
    exact hne i j hi hj hij

/-- The door's own heap meets the condition. -/
theorem door_met (os : Os) (args : Array Value) : laidMetH Tryz.prog laidAll ((World.doorLaid Tryz.prog 168 os).forCall (fun _ _ => 0) ⟨#[], args, []⟩).memory :=
  laidMetH_of_parts3 (fuel := 8) (laidMet_of_run' 8 (by kernel_rfl) (by kernel_rfl)) (by kernel_rfl) (by kernel_rfl)
end Go.Proofs.YtofflboheiflaaaGreatDoor

/- A parameter of type []int opened. -/
namespace Go.Proofs.YtofflboheiflaaaGreatDoor
open Go.ChangeShapes Go.WideShapes Go.ChangeAt Go.RowKit Go.Joins Go.Deep

theorem Tryz.laidOut : laidOutB Tryz.prog = true := by kernel_rfl
theorem Tryz.cellsInt : Tryz.prog.cellsOf 3 = 1 := by kernel_rfl
theorem Tryz.cellsInts : Tryz.prog.cellsOf 22 = 1 := by kernel_rfl

set_option maxRecDepth 100000 in
/-- What a parameter of type []int gives: its slice, its numbers. -/
theorem open_nums {H : Type} {enc : TypeId × Value → H} {W : World} {base : Nat} {v : Value} {d : DataW H} {p : List MemPlace} (hv : Value.okWide Tryz.prog W .any base 22 v)
    (h : DataW.Trod enc Tryz.prog W 0 (fun _ => true) true 22 v d p) :
    ∃ (ad : Option Addr) (n cap : Nat) (z : Nat → Int), v = .slice ad n cap ∧ n ≤ maxLen ∧ NumsAt W (.slice ad n cap) n z := by
  obtain ⟨ad, n, cap, rfl⟩ := okWide_slice Tryz.underlying22 hv
  obtain ⟨fuel, hf⟩ := h
  rcases open_ints Tryz.underlying22 Tryz.underlying3 Tryz.cellsInt hf with ⟨hc, _⟩ | ⟨a, len, cap', zs, hc, _, hl, hm, hz, _, hcell, _⟩
  · simp [Value.cells] at hc
    obtain ⟨rfl, rfl, rfl⟩ := hc
    exact ⟨none, 0, 0, fun _ => 0, rfl, Nat.zero_le _, Or.inl ⟨none, 0, rfl, rfl⟩⟩
  · simp [Value.cells] at hc
    obtain ⟨rfl, rfl, rfl⟩ := hc
    simp only [if_true] at hz
    rcases Nat.eq_zero_or_pos n with rfl | hpos
    · exact ⟨some a, 0, cap, fun _ => 0, rfl, Nat.zero_le _, Or.inl ⟨some a, cap, rfl, rfl⟩⟩
    · obtain ⟨b, o, spot⟩ := a
      have hspot : spot = none := by simpa [Addr.add] using World.cell?_spot (hcell 0 (by omega))
      subst hspot
      refine ⟨_, n, cap, fun i => zs.getD i 0, rfl, by omega, Or.inr ⟨b, o, cap, rfl, hpos, fun i hi => ?_⟩⟩
      have := hcell i (by omega)
      rw [Go.Proofs.YtofflboheiflaaaGreatDoor.add_plain] at this
      exact this
end Go.Proofs.YtofflboheiflaaaGreatDoor
