/- A fraction against a logarithm: the law's compare. -/
import Derived.Test.YtgaamcmjonngjaaDoorPackC
import Derived.Test.YtgaamcmjonngjaaDoorPackA
import Derived.Test.YtgaamcmjonngjaaDoorWeights
import Derived.Test.YtgaamcmjonngjaaDoorBig
import Derived.Test.YtgaamcmjonngjaaDoorProg
import Derived.BigQuiet
import Derived.Shelf.SlGeneric
import Derived.Shelf.Small.Wraps
import Derived.Shelf.Slices.Turned
import Derived.Shelf.Slices.Clone
import Derived.Ground.NamesProg
import Derived.Shelf.SlSortCmp.Insertion
import Derived.Ground.SlsfProg
import Derived.Ground.Names2Prog
import Derived.Test.YtgaamcmjonngjaaDoorValidWalk
import Derived.Sort.LotA
import Derived.Deep.QuietTactic
namespace Go.Proofs.YtgaamcmjonngjaaDoor
open Go.RowKit

theorem Scale_back_lv {M L : Nat} {F : Int → Int} {d1 : Int} {v1 : Value} (a : Nat → Addr) (w : World) (hE : Errs w a) (h1 : LV w M F L d1 v1) (hL : L ≤ 10000) :
    Calls Tryd.prog 47 #[.agg #[.int .i64 d1, v1], .agg #[.int .i64 (-1), .int .i64 1]] w fun e w' => ∃ dn v, e = .returned (.tuple #[.agg #[.int .i64 dn, v], .nilIface]) ∧ LV w' M (fun x => -F x) L dn v ∧ Below w.heap.size w w' := by
  obtain ⟨e2, t2, rfl, l2, n2, o2, w2'⟩ := h1
  obtain ⟨np, nc, nl⟩ := negL_parts t2
  refine (Scale_back (e2 : Int) v1 t2.length (pOf t2) (cOf t2) a w hE (listAt_log l2) o2 (by omega)).mono ?_
  rintro e w' ⟨v, rfl, hv, hb⟩
  refine ⟨_, v, rfl, ⟨e2, negL t2, rfl, ?_, by omega, ?_, fun x => ?_⟩, hb⟩
  · unfold ListAt; rw [np, nc, nl]; exact hv
  · rw [np, nc, nl]; exact okLog_neg o2
  · rw [negL_at, Int.mul_neg, w2' x, Int.mul_neg]
/-- What Sign tells, by two products. -/
def SgnIs (U D : Nat) (z : Int) : Prop := (D < U → z = 1) ∧ (U = D → z = 0) ∧ (U < D → z = -1)
theorem Sign_lv1 {M L : Nat} {F : Int → Int} {d1 : Int} {v1 : Value} {U D : Nat} (a : Nat → Addr) (w : World) (hE : Errs w a) (h1 : LV w M F L d1 v1) (hL : L ≤ 10000) (hM : 1 ≤ M) (hU : 0 < U) (hD : 0 < D) (hm : ∀ q : Nat, Pr q → F (q : Int) = (mult q U : Int) - (mult q D : Int)) :
    Calls Tryd.prog 49 #[.agg #[.int .i64 d1, v1]] w fun e w' => ((∃ z, e = .returned (.tuple #[.int .i64 z, .nilIface]) ∧ SgnIs U D z) ∨ ∃ ad, e = .returned (.tuple #[.int .i64 0, .iface 227 (.pointer (some ad))])) ∧ Below w.heap.size w w' := by
  obtain ⟨d, t, rfl, l, n, o, hv⟩ := h1
  obtain ⟨s1, s2, s3⟩ := by_sides2 o hv hU hD hm
  have hc := by_cmp s1 (by omega) s2 s3 (Nat.pow_pos hU)
  have hd := (OkLog.canon (d := d) o).pos
  have hz : SgnIs U D (cmpOf (sideUp (pOf t) (cOf t) 1 t.length) (sideDown (pOf t) (cOf t) 1 t.length)) := ⟨fun h => hc.1 (Nat.pow_lt_pow_left h (by omega)), fun h => hc.2.1 (by rw [h]), fun h => hc.2.2 (Nat.pow_lt_pow_left h (by omega))⟩
  by_cases hfit : cost (pOf t) (cOf t) t.length ≤ 40000
  · refine (Sign_log d v1 t.length (pOf t) (cOf t) a true true (by simpa using o) (by simpa using hfit) w hE (listAt_log l) (by omega)).mono ?_
    rintro e w' ⟨rfl, hb⟩
    exact ⟨Or.inl ⟨_, rfl, hz⟩, hb⟩
  · refine (Sign_log d v1 t.length (pOf t) (cOf t) a true false (by simpa using o) (by simpa using hfit) w hE (listAt_log l) (by omega)).mono ?_
    rintro e w' ⟨rfl, hb⟩
    exact ⟨Or.inr ⟨_, rfl⟩, hb⟩
theorem two_pr : Pr 2 := ⟨by omega, fun d hd hdd => by have := Nat.mul_le_mul hd hd; omega⟩
/-- The logarithm of 2, as it is written in the law. -/
def twF (x : Int) : Int := if x = 2 then 1 else 0
theorem two_lv {w : World} {b : Nat} (h0 : w.cell? ⟨b, 0, none⟩ = some (.int .i64 2)) (h1 : w.cell? ⟨b, 1, none⟩ = some (.int .i64 1)) : LV w 1 twF 1 1 (.slice (some ⟨b, 0, none⟩) 1 1) := by
  refine ⟨1, [(2, 1)], rfl, Or.inr ⟨b, 1, rfl, fun i hi => ?_⟩, Nat.le_refl _, ⟨by decide, by decide, fun i hi => ?_, by simp [gcdTo, cOf]⟩, fun x => ?_⟩
  · obtain rfl : i = 0 := by simpa using hi
    exact ⟨h0, h1⟩
  · obtain rfl : i = 0 := by simpa using hi
    exact ⟨by simp [lastP, pOf], by simp [pOf], by simp [cOf], by simp [cOf], by simp [cOf], by simp [pOf], by simpa [pOf] using two_pr⟩
  · unfold twF
    simp only [atL]
    by_cases hx : x = 2
    · subst hx; simp
    · have : ¬ (2 : Int) = x := fun e => hx e.symm
      simp [hx, this]
/-- What compare answers. -/
def CmpIs (U D : Nat) (z : Int) : Prop := z = 2 ∨ SgnIs U D z
end Go.Proofs.YtgaamcmjonngjaaDoor

/- dist.Entropy at any weights. -/
namespace Go.Proofs.YtgaamcmjonngjaaDoor
open Go.RowKit Go.Maps

theorem new_one {w w1 : World} {x : Value} {t : TypeId} (hb : Below (w.alloc (.cells #[x] t)).heap.size (w.alloc (.cells #[x] t)) w1) : w1.cell? ⟨w.heap.size, 0, none⟩ = some x := by
  have c0 : (w.alloc (.cells #[x] t)).cell? ⟨w.heap.size, 0, none⟩ = some x := by rw [World.cell?_alloc_at _ _ _ _ rfl]; rfl
  exact (cell_past c0 hb).2

set_option maxRecDepth 100000 in
theorem Entropy_parts (den : Int) (mb B b o cap n : Nat) (z : Nat → Int) (w : World) (hown : w.ownsMap Tryd.prog 3 (plainElem (H := Unit) Tryd.prog 3) mb 0 (mapOf [])) (hB : w.cell? ⟨B, 0, none⟩ = some (.slice (some ⟨b, o, none⟩) n cap)) (h : RowAt w b o n z) (hz : ∀ i, i < n → 0 ≤ z i) (hs : sumN z n ≤ 4096) (hn : n ≤ 256) :
    Calls Tryd.prog 45 #[putV den mb, .pointer (some ⟨B, 0, none⟩)] w fun e w' => e = .returned (.tuple #[]) ∧ ∃ l nn, Puts w w' mb (fun x => sumN (entV z (sumN z n).toNat x) n) (2 * n) [] 0 l nn := by
  have hp := putEntropy_some den mb 0 b o cap n z [] w hown List.Pairwise.nil (fun e he => by cases he) (fun x => by simp [atL]) (by omega) h hz hs hn
  clear hown h hz hs
  unfold putV at hp ⊢
  go_enter Tryd.func45, Tryd.ntmps45
  go_wp2_with fail
  refine hp.mono ?_
  clear hp
  rintro e w1 ⟨rfl, l, nn, hpt⟩
  have HP := Hid.mk' hpt
  clear hpt
  go_wp2_with fail
  go_end0
  exact ⟨rfl, l, nn, HP.out⟩

theorem ent_bound {z : Nat → Int} {n N : Nat} (hz : ∀ i, i < n → 0 ≤ z i ∧ z i ≤ 4096) (hN : N ≤ 4096) (hn : n ≤ 256) (x : Int) : -1000000000 ≤ sumN (entV z N x) n ∧ sumN (entV z N x) n ≤ 1000000000 := by
  have h3 := sumN_bound (f := entV z N x) (B := 200000) (n := n) (fun i hi => entV_le x (hz i hi) hN)
  have : (n : Int) * 200000 ≤ 51200000 := by omega
  omega

set_option maxRecDepth 100000 in
set_option maxHeartbeats 1000000 in
theorem Entropy_ok (a : Nat → Addr) (b o cap n N : Nat) (z : Nat → Int) (w : World) (hE : Errs w a) (h : RowAt w b o n z) (h0 : weightsErr z n = 0) (hN : sumN z n = N) (hz : ∀ i, i < n → 0 ≤ z i) (hn : n ≤ 16) (hN1 : 1 ≤ N) (hN6 : N ≤ 4096) (h0n : 0 < n) :
    Calls Tryd.prog 14 #[.slice (some ⟨b, o, none⟩) n cap] w fun e w' => ∃ dn v, e = .returned (.tuple #[.agg #[.int .i64 dn, v], .nilIface]) ∧ LogBy w.heap.size N (fun x => sumN (entV z N x) n) w' dn v ∧ Below w.heap.size w w' := by
  have hzi : ∀ i, i < n → 0 ≤ z i ∧ z i ≤ 4096 := fun i hi => ⟨hz i hi, by have := sumN_ge hz hi; omega⟩
  have hle : ∀ k, k ≤ n → 0 ≤ sumN z k ∧ sumN z k ≤ 4096 := fun k hk => ⟨sumN_nonneg (fun i hi => hz i (by omega)), by have := sumN_mono hz hk; omega⟩
  obtain ⟨W0, hW0⟩ : ∃ W0, W0 = (w.alloc (.cells #[.slice (some ⟨b, o, none⟩) n cap] 22)).alloc (.cells #[.int .i64 0, .slice none 0 0] 36) := ⟨_, rfl⟩
  have hb0 : Below w.heap.size w W0 := by rw [hW0]; exact below_chain (new_below _ _) (new_below _ _)
  have hbox : W0.cell? ⟨w.heap.size, 0, none⟩ = some (.slice (some ⟨b, o, none⟩) n cap) := by rw [hW0]; exact new_one (new_below _ _)
  have hres : ∀ W, Below W0.heap.size W0 W → W.cell? ⟨w.heap.size + 1, 0, none⟩ = some (.int .i64 0) ∧ W.cell? ⟨w.heap.size + 1, 1, none⟩ = some (.slice none 0 0) ∧ W.frozen? ⟨w.heap.size + 1, 0, none⟩ = false ∧ W.frozen? ⟨w.heap.size + 1, 1, none⟩ = false := fun W hb => by
    rw [hW0] at hb
    have := res_past hb
    simpa using this
  have hv := Valid_weights a (.slice (some ⟨b, o, none⟩) n cap) n z W0 (hE.below hb0) (Or.inr ⟨b, o, cap, rfl, h0n, h.later hb0⟩) (by omega)
  rw [h0] at hv
  have ht := total_some b o cap n z W0 (h.later hb0) (fun k hk => by have := hle k hk; omega) (fun i hi => by have := hzi i hi; omega) (by omega)
  rw [hN] at ht
  have hso := sumOver_any 45 #[.pointer (some ⟨w.heap.size, 0, none⟩)] N (2 * n) (fun x => sumN (entV z N x) n) W0 (enters_of Tryd.func45 (by kernel_rfl) rfl) hN1 hN6 (by omega) (fun x => ent_bound hzi hN6 (by omega) x)
    (fun W mb hb ho => by
      have := Entropy_parts N mb w.heap.size b o cap n z W ho (cell_past hbox hb).2 ((h.later hb0).later hb) hz (by omega) (by omega)
      rw [hN, Int.toNat_natCast] at this
      exact this)
  have HB0 := Hid.mk' hb0
  have HRES := Hid.mk' hres
  have HW0 := Hid.mk' hW0
  have hlt : w.heap.size + 1 < W0.heap.size := by rw [hW0]; simp
  have HLT := Hid.mk' hlt
  clear hE h hb0 hres hW0 hzi hle hz hN h0 hlt
  go_enter Tryd.func14, Tryd.ntmps14
  go_upto_region 1 with fail
  rw [← HW0.out]
  go_wp2_with fail
  refine hv.mono ?_
  clear hv
  rintro e w1 ⟨rfl, hw1⟩
  rw [hw1]
  clear hw1
  rw [errV_zero]
  go_wp2_with (first
    | (go_at_call 44; refine ht.mono ?_; rintro e w2 ⟨rfl, hw2⟩; rw [hw2]; clear hw2)
    | (go_at_call 43; refine hso.mono ?_; rintro e w3 ⟨dn, v, rfl, hlb, hb3⟩; obtain ⟨c0, c1, q0, q1⟩ := HRES.out w3 hb3; have HBW := Hid.mk' (below_chain HB0.out hb3); have HLB := Hid.mk' hlb; obtain ⟨ad, n', c', rfl⟩ := hlb.form; clear hlb))
  refine bodyPost_ret (v := .tuple #[.agg #[.int .i64 dn, .slice ad n' c'], .nilIface]) (by simp [results, Tryd.results14, go_sem, c0, c1]) rfl ⟨_, .slice ad n' c', rfl, (HLB.out.set HLT.out _ _).lower (by have := HLT.out; omega), ?_⟩
  exact (HBW.out.setCell (by simp) _).setCell (by simp) _

set_option maxRecDepth 100000 in
set_option maxHeartbeats 1000000 in
theorem Entropy_bad (a : Nat → Addr) (v : Value) (n : Nat) (z : Nat → Int) (w : World) (hE : Errs w a) (h : NumsAt w v n z) (hn : n ≤ 400) (h0 : weightsErr z n ≠ 0) :
    Calls Tryd.prog 14 #[v] w fun e w' => e = .returned (.tuple #[.agg #[.int .i64 0, .slice none 0 0], errV a (weightsErr z n)]) ∧ Below w.heap.size w w' := by
  obtain ⟨ad, cap, rfl⟩ := h.form
  obtain ⟨W0, hW0⟩ : ∃ W0, W0 = (w.alloc (.cells #[.slice ad n cap] 22)).alloc (.cells #[.int .i64 0, .slice none 0 0] 36) := ⟨_, rfl⟩
  have hb0 : Below w.heap.size w W0 := by rw [hW0]; exact below_chain (new_below _ _) (new_below _ _)
  have hbox : W0.cell? ⟨w.heap.size, 0, none⟩ = some (.slice ad n cap) := by rw [hW0]; exact new_one (new_below _ _)
  have hres : W0.cell? ⟨w.heap.size + 1, 0, none⟩ = some (.int .i64 0) ∧ W0.cell? ⟨w.heap.size + 1, 1, none⟩ = some (.slice none 0 0) ∧ W0.frozen? ⟨w.heap.size + 1, 0, none⟩ = false ∧ W0.frozen? ⟨w.heap.size + 1, 1, none⟩ = false := by
    rw [hW0]
    simp
  have hv := Valid_weights a (.slice ad n cap) n z W0 (hE.below hb0) (h.later hb0) (by omega)
  rw [errV_pos a h0] at hv ⊢
  generalize a (weightsErr z n - 1) = ea at hv ⊢
  obtain ⟨c0, c1, q0, q1⟩ := hres
  have HB0 := Hid.mk' hb0
  have HW0 := Hid.mk' hW0
  clear hE h hb0 hW0 h0
  go_enter Tryd.func14, Tryd.ntmps14
  go_upto_region 1 with fail
  rw [← HW0.out]
  go_wp2_with (go_at_call 42; refine hv.mono ?_; rintro e w1 ⟨rfl, hw1⟩; rw [hw1]; clear hw1)
  refine bodyPost_ret (v := .tuple #[.agg #[.int .i64 0, .slice none 0 0], .iface 227 (.pointer (some ea))]) (by simp [results, Tryd.results14, go_sem, c0, c1]) rfl ⟨rfl, ?_⟩
  exact (HB0.out.setCell (by simp) _).setCell (by simp) _
end Go.Proofs.YtgaamcmjonngjaaDoor

/- Which numbers are right: the program's and the document's look. -/
namespace Go.Proofs.YtgaamcmjonngjaaDoor
open Go.RowKit

/-- Is it no number? Is one of n none? -/
def noB (x : Int) : Bool := decide (x < 0) || decide (4096 < x)
def noN (z : Nat → Int) : Nat → Bool
  | 0 => false
  | n + 1 => noN z n || noB (z n)
theorem noB_no {x : Int} (h : noB x = false) : 0 ≤ x ∧ x ≤ 4096 := by
  simp [noB] at h; exact h
theorem noB_yes {x : Int} (h : noB x = true) : x < 0 ∨ 4096 < x := by
  simp [noB] at h; exact h
theorem noN_at {z : Nat → Int} : ∀ {n k : Nat}, noB (z k) = true → k < n → noN z n = true
  | 0, k, _, h => by omega
  | n + 1, k, hk, h => by
    show (noN z n || _) = true
    rcases Nat.lt_or_ge k n with h' | h'
    · rw [noN_at hk h', Bool.true_or]
    · obtain rfl : k = n := by omega
      rw [hk, Bool.or_true]
theorem noN_none {z : Nat → Int} : ∀ {n : Nat}, noN z n = false → ∀ k, k < n → 0 ≤ z k ∧ z k ≤ 4096
  | 0, _, k, h => by omega
  | n + 1, hn, k, h => by
    have h1 : (noN z n || noB (z n)) = false := hn
    rw [Bool.or_eq_false_iff] at h1
    rcases Nat.lt_or_ge k n with h' | h'
    · exact noN_none h1.1 k h'
    · obtain rfl : k = n := by omega
      exact noB_no h1.2
theorem noN_of {z : Nat → Int} : ∀ {n : Nat}, (∀ k, k < n → 0 ≤ z k ∧ z k ≤ 4096) → noN z n = false
  | 0, _ => rfl
  | n + 1, h => by
    show (noN z n || noB (z n)) = false
    rw [noN_of (fun k hk => h k (by omega))]
    have := h n (by omega)
    simp [noB]; omega
theorem sum_right {z : Nat → Int} : ∀ {n : Nat}, (∀ k, k < n → 0 ≤ z k ∧ z k ≤ 4096) → 0 ≤ sumN z n ∧ sumN z n ≤ (n : Int) * 4096
  | 0, _ => by simp [sumN]
  | n + 1, h => by
    have h1 := sum_right (z := z) (n := n) (fun k hk => h k (by omega))
    have h2 := h n (by omega)
    show 0 ≤ sumN z n + z n ∧ sumN z n + z n ≤ _
    rw [show ((n + 1 : Nat) : Int) * 4096 = (n : Int) * 4096 + 4096 by omega]
    omega

theorem isNoNumber_any (x : Int) (w : World) : Calls Tryd.prog 37 #[.int .i64 x] w fun e w' => e = .returned (.bool (noB x)) ∧ w' = w := by
  by_cases h1 : x < 0
  · rw [show noB x = true from by simp [noB, h1]]
    go_enter Tryd.func37, Tryd.ntmps37
    go_wp2_with fail
    go_ret
    exact ⟨rfl, rfl⟩
  · by_cases h2 : 4096 < x
    · rw [show noB x = true from by simp [noB, h2]]
      go_enter Tryd.func37, Tryd.ntmps37
      go_wp2_with fail
      go_ret
      exact ⟨rfl, rfl⟩
    · rw [show noB x = false from by simp [noB]; omega]
      go_enter Tryd.func37, Tryd.ntmps37
      go_wp2_with fail
      go_ret
      exact ⟨rfl, rfl⟩

set_option maxRecDepth 100000 in
set_option maxHeartbeats 1000000 in
theorem IndexFunc_num (v : Value) (n : Nat) (z : Nat → Int) (w : World) (h : NumsAt w v n z) (hn : n ≤ 1000000) :
    Calls Tryd.prog 72 #[v, .func (.func 37) #[] #[]] w fun e w' => (∃ x : Int, e = .returned (.int .i64 x) ∧ ((0 ≤ x ↔ noN z n = true) ∧ -1 ≤ x ∧ x ≤ 1000000)) ∧ w' = w := by
  obtain ⟨ad, cap, rfl⟩ := h.form
  have HT := Hid.mk' h
  clear h
  go_enter Tryd.func72, Tryd.ntmps72
  go_wp2_with fail
  go_loop [8] (fun t => ∃ k : Nat, k ≤ n ∧ t = .int .i64 k ∧ Hid (noN z k = false)) (fun t => n - (intOf t).toNat)
  case atStart => exact ⟨0, Nat.zero_le _, rfl, rfl⟩
  case round =>
    obtain ⟨k, hk, rfl, HS⟩ := hrel
    rcases Nat.lt_or_ge k n with h1 | h1
    · have hkI : (k : Int) < (n : Int) := by omega
      have hk0 : (0 : Int) ≤ (k : Int) := by omega
      obtain ⟨b, o, rfl, hc⟩ : ∃ b o, ad = some ⟨b, o, none⟩ ∧ w.cell? ⟨b, o + k, none⟩ = some (.int .i64 (z k)) := by
        rcases HT.out with ⟨_, _, h1', h2'⟩ | ⟨b, o, c, h1', _, h2⟩
        · omega
        · simp only [Value.slice.injEq, true_and] at h1'
          exact ⟨b, o, h1'.1, h2 k h1⟩
      have hlg := isNoNumber_any (z k) w
      have HX : Hid (noB (z k) = true → noN z n = true) := fun hl => noN_at hl h1
      have HL : Hid (noN z (k + 1) = noB (z k)) := by show (noN z k || _) = _; rw [HS.out, Bool.false_or]
      generalize z k = zk at *
      cases h5 : noB zk with
      | true =>
        rw [h5] at hlg
        have HX' := Hid.mk' (HX.out h5)
        clear h5
        go_wp2_with fail
        refine hlg.mono ?_
        clear hlg
        rintro e w2 ⟨rfl, hw2⟩
        go_wp2_with fail
        go_ret
        exact ⟨⟨_, rfl, ⟨fun _ => HX'.out, fun _ => hk0⟩, by omega, by omega⟩, rfl⟩
      | false =>
        rw [h5] at hlg
        have HL' : Hid (noN z (k + 1) = false) := by show _ = _; rw [HL.out]; exact h5
        clear h5
        go_wp2_with fail
        refine hlg.mono ?_
        clear hlg
        rintro e w2 ⟨rfl, hw2⟩
        go_wp2_with fail
        exact ⟨⟨k + 1, h1, by go_num, HL'⟩, by simp [intOf]; omega⟩
    · obtain rfl : n = k := by omega
      go_wp2_with fail
      go_ret
      exact ⟨⟨_, rfl, ⟨(fun h => by omega), (fun h => by rw [HS.out] at h; cases h)⟩, by omega, by omega⟩, rfl⟩
set_option maxRecDepth 100000 in
theorem ContainsFunc_num (v : Value) (n : Nat) (z : Nat → Int) (w : World) (h : NumsAt w v n z) (hn : n ≤ 1000000) :
    Calls Tryd.prog 36 #[v, .func (.func 37) #[] #[]] w fun e w' => e = .returned (.bool (noN z n)) ∧ w' = w := by
  have hI := IndexFunc_num v n z w h hn
  obtain ⟨ad, cap, rfl⟩ := h.form
  clear h
  go_enter Tryd.func36, Tryd.ntmps36
  go_wp2_with fail
  refine hI.mono ?_
  clear hI
  rintro e w2 ⟨⟨x, rfl, hx, hx1, hx2⟩, hw2⟩
  have HX := Hid.mk' hx
  clear hx
  cases hl : noN z n with
  | true =>
    have h0 : 0 ≤ x := HX.out.2 hl
    have HL := Hid.mk' hl
    clear hl
    go_wp2_with fail
    go_ret
    exact ⟨by rw [HL.out]; rfl, rfl⟩
  | false =>
    have h0 : decide (0 ≤ x) = false := decide_eq_false fun h => by rw [HX.out.1 h] at hl; cases hl
    have HL := Hid.mk' hl
    clear hl
    go_wp2_with fail
    go_ret
    exact ⟨by rw [HL.out]; rfl, rfl⟩

end Go.Proofs.YtgaamcmjonngjaaDoor

/- The law's copies of lists. -/
namespace Go.Proofs.YtgaamcmjonngjaaDoor
open Go.RowKit

theorem append_zeroI (w : World) (ty : TypeId) (ad : Option Addr) (cap : Nat) : (Builtin.append_ #[22, 22] ty #[.slice none 0 0, .slice ad 0 cap]).run Tryd.prog w = .ok (.slice none 0 0) w := by
  obtain ⟨i, hi, hi2⟩ := Option.map_eq_some_iff.1 Tryd.infoInt
  refine run_append_nothing w _ _ ty 3 i Tryd.underlying22 hi none 0 0 (Nat.le_refl _) _ ?_
  cases ad with
  | none => exact Src.ofNil w Tryd.underlying22 cap
  | some a => exact Src.ofSlice w Tryd.underlying22 a 0 cap [] (by simp) (fun j u h => by simp at h) (fun u h => by simp at h)
theorem wpList_append_zeroI {w : World} {ops : Array Oper} {rest : List Oper} {o : Oper} {a : Act} {Q : Exit → Act → World → Prop} (hgd : o.guard = none) (s x : Operand)
    (ho : o.op = .call { callee := .builtin .append, args := #[s, x], argTypes := #[22, 22] })
    (ad : Option Addr) (cap : Nat) (hs : a.eval s = .slice none 0 0) (hx : a.eval x = .slice ad 0 cap)
    (h : wpList Tryd.prog ops Q rest (a.put o.dst (.slice none 0 0)) w) : wpList Tryd.prog ops Q (o :: rest) a w := by
  refine wpList_plain hgd fun K hK => ?_
  have hrun := append_zeroI w o.type ad cap
  unfold Oper.wp
  simp [execOp, ho, resolve, invoke, builtin, hs, hx, hrun, Result.andThen]
  exact hK _ _ h

theorem numsAt_own {w : World} {base : Nat} {v : Value} {n : Nat} {z : Nat → Int} (h : w.ownsRow base 3 1 v n (numCells z n)) : NumsAt w v n z := by
  rcases h.2 with ⟨hv, h0⟩ | ⟨g, cap, cur, hv, _⟩
  · exact Or.inl ⟨none, 0, hv, h0⟩
  · rcases Nat.eq_zero_or_pos n with h0 | h0
    · exact Or.inl ⟨_, _, by rw [hv, h0], h0⟩
    · subst hv
      exact Or.inr ⟨g, 0, cap, rfl, h0, rowAt_of_row h⟩
set_option maxRecDepth 100000 in
set_option maxHeartbeats 1000000 in
theorem ints_row (v : Value) (n : Nat) (z : Nat → Int) (w : World) (h : NumsAt w v n z) (hn : n ≤ 100000) :
    Calls Tryd.prog 11 #[v] w fun e w' => ∃ v', e = .returned v' ∧ w'.ownsRow w.heap.size 3 1 v' n (numCells z n) ∧ Below w.heap.size w w' := by
  rcases h with ⟨ad, cap, rfl, rfl⟩ | ⟨b, o, cap, rfl, h0, hr⟩
  · go_enter Tryd.func11, Tryd.ntmps11
    go_wp2_with (at_builtin; go_must (refine wpList_append_zeroI rfl _ _ rfl ad cap rfl rfl ?_))
    go_ret
    exact ⟨_, rfl, ⟨rfl, Or.inl ⟨rfl, rfl⟩⟩, Below.refl _ _⟩
  · obtain ⟨i, hi, hi2⟩ := Option.map_eq_some_iff.1 Tryd.infoInt
    obtain ⟨hz, hsz, hby⟩ : i.zero = some (.int .i64 0) ∧ i.size = 1 ∧ i.bytes = 8 := by simpa using hi2
    have HR := Hid.mk' hr
    have HI : Hid (Tryd.prog.info? 3 = some i) := hi
    have HZ : Hid (i.zero = some (.int .i64 0)) := hz
    have HS : Hid (i.size = 1) := hsz
    have HY : Hid (i.bytes = 8) := hby
    have HC : Hid (∀ u, u ∈ numCells z n → u.oneCell' = true) := fun u hu => by obtain ⟨x, rfl⟩ := numCells_ints z n u hu; rfl
    have HL : Hid ((numCells z n).length = n * 1) := by show _ = _; rw [numCells_length, Nat.mul_one]
    clear hr hi2 hi hz hsz hby
    go_enter Tryd.func11, Tryd.ntmps11
    go_wp2_with (at_builtin; go_must (refine wpList_append_lies _ rfl _ _ _ rfl w.heap.size 3 i _ 1 8 Tryd.underlying22 HI.out HZ.out HS.out HY.out rfl (by omega) (.slice none 0 0) 0 [] rfl ⟨rfl, Or.inl ⟨rfl, rfl⟩⟩ ⟨b, o, none⟩ n cap (numCells z n) rfl HL.out (fun j u hu => numCells_news HR.out j u hu) HC.out h0 (by unfold maxLen; omega) (by omega) (by simp) _ rfl ?_; intro g cap' w1 hown hgrow hat hlt; have HOWN := Hid.mk' hown; have HG := Hid.mk' hgrow; clear hown hgrow hat))
    go_ret
    exact ⟨_, rfl, by simpa using HOWN.out, (Below.refl _ _).grown HG.out (Nat.le_refl _) (fun k hk => by cases hk)⟩
theorem ints_any (v : Value) (n : Nat) (z : Nat → Int) (w : World) (h : NumsAt w v n z) (hn : n ≤ 100000) :
    Calls Tryd.prog 11 #[v] w fun e w' => ∃ v', e = .returned v' ∧ NumsAt w' v' n z ∧ Below w.heap.size w w' := by
  refine (ints_row v n z w h hn).mono ?_
  rintro e w' ⟨v', rfl, h1, h2⟩
  exact ⟨v', rfl, numsAt_own h1, h2⟩
end Go.Proofs.YtgaamcmjonngjaaDoor

/- Nothing of the library is laid here. -/

/- Tables in memory; all of a table's weights as one list. -/
namespace Go.Proofs.YtgaamcmjonngjaaDoor
open Go.RowKit

def TabAt (w : World) (v : Value) (R : Nat) (vs : Nat → Value) (ns : Nat → Nat) (zs : Nat → Nat → Int) : Prop := (∃ ad cap, v = .slice ad 0 cap ∧ R = 0) ∨ ∃ b o cap, v = .slice (some ⟨b, o, none⟩) R cap ∧ 0 < R ∧ ∀ i, i < R → w.cell? ⟨b, o + i, none⟩ = some (vs i) ∧ NumsAt w (vs i) (ns i) (zs i)
theorem TabAt.later {w w' : World} {v : Value} {R : Nat} {vs : Nat → Value} {ns : Nat → Nat} {zs : Nat → Nat → Int} (h : TabAt w v R vs ns zs) (hb : Below w.heap.size w w') : TabAt w' v R vs ns zs := by
  rcases h with h | ⟨b, o, cap, hv, hn, hr⟩
  · exact Or.inl h
  · exact Or.inr ⟨b, o, cap, hv, hn, fun i hi => ⟨by rw [hb.cell (cell_lt (hr i hi).1)]; exact (hr i hi).1, (hr i hi).2.later hb⟩⟩
theorem TabAt.form {w : World} {v : Value} {R : Nat} {vs : Nat → Value} {ns : Nat → Nat} {zs : Nat → Nat → Int} (h : TabAt w v R vs ns zs) : ∃ ad cap, v = .slice ad R cap := by
  rcases h with ⟨ad, cap, rfl, rfl⟩ | ⟨b, o, cap, rfl, _⟩
  · exact ⟨_, _, rfl⟩
  · exact ⟨_, _, rfl⟩
def rowL (z : Nat → Int) (n : Nat) : List Int := (List.range n).map z
/-- All weights of the first k rows. -/
def flatL (ns : Nat → Nat) (zs : Nat → Nat → Int) : Nat → List Int
  | 0 => []
  | k + 1 => flatL ns zs k ++ rowL (zs k) (ns k)
def cellL (l : List Int) : List Value := l.map fun x => .int .i64 x
theorem cellL_length (l : List Int) : (cellL l).length = l.length := by simp [cellL]
theorem cellL_append (l r : List Int) : cellL (l ++ r) = cellL l ++ cellL r := by simp [cellL]
theorem rowL_length (z : Nat → Int) (n : Nat) : (rowL z n).length = n := by simp [rowL]
theorem cellL_row (z : Nat → Int) : ∀ n, cellL (rowL z n) = numCells z n
  | 0 => rfl
  | n + 1 => by
    have ih := cellL_row z n
    unfold cellL rowL at ih ⊢
    rw [List.range_succ, List.map_append, List.map_append, ih]
    rfl
def sumT (ns : Nat → Nat) : Nat → Nat
  | 0 => 0
  | k + 1 => sumT ns k + ns k
theorem flatL_length (ns : Nat → Nat) (zs : Nat → Nat → Int) : ∀ k, (flatL ns zs k).length = sumT ns k
  | 0 => rfl
  | k + 1 => by
    show (flatL ns zs k ++ rowL (zs k) (ns k)).length = sumT ns k + ns k
    rw [List.length_append, flatL_length ns zs k, rowL_length]
theorem sumT_mono (ns : Nat → Nat) {k n : Nat} (h : k ≤ n) : sumT ns k ≤ sumT ns n := by
  induction n with
  | zero => obtain rfl : k = 0 := by omega
            exact Nat.le_refl _
  | succ n ih =>
    rcases Nat.lt_or_ge k (n + 1) with h' | h'
    · have := ih (by omega); show sumT ns k ≤ sumT ns n + ns n; omega
    · obtain rfl : k = n + 1 := by omega
      exact Nat.le_refl _
/-- A list as a row of numbers. -/
def atF (l : List Int) (i : Nat) : Int := l.getD i 0
theorem numCells_list : ∀ l : List Int, numCells (atF l) l.length = cellL l := fun l => by
  rw [← cellL_row]
  congr 1
  refine List.ext_getElem (by simp [rowL]) (fun i h1 h2 => ?_)
  simp [rowL, atF, List.getD, List.getElem?_eq_getElem h2]
theorem numsAt_row {w : World} {base : Nat} {v : Value} {l : List Int} (h : w.ownsRow base 3 1 v l.length (cellL l)) : NumsAt w v l.length (atF l) := by
  rcases h.2 with ⟨hv, h0⟩ | ⟨g, cap, cur, hv, _⟩
  · exact Or.inl ⟨none, 0, hv, h0⟩
  · rcases Nat.eq_zero_or_pos l.length with h0 | h0
    · exact Or.inl ⟨_, _, by rw [hv, h0], h0⟩
    · refine Or.inr ⟨g, 0, cap, hv, h0, ?_⟩
      subst hv
      rw [← numCells_list] at h
      exact rowAt_of_row h

theorem append_nothing (w : World) (ty : TypeId) (ao : Option Addr) (l c : Nat) (hl : l ≤ c) (ad : Option Addr) (cap : Nat) : (Builtin.append_ #[22, 22] ty #[.slice ao l c, .slice ad 0 cap]).run Tryd.prog w = .ok (.slice ao l c) w := by
  obtain ⟨i, hi, hi2⟩ := Option.map_eq_some_iff.1 Tryd.infoInt
  refine run_append_nothing w _ _ ty 3 i Tryd.underlying22 hi ao l c hl _ ?_
  cases ad with
  | none => exact Src.ofNil w Tryd.underlying22 cap
  | some a => exact Src.ofSlice w Tryd.underlying22 a 0 cap [] (by simp) (fun j u h => by simp at h) (fun u h => by simp at h)
theorem wpList_append_nothing {w : World} {ops : Array Oper} {rest : List Oper} {o : Oper} {a : Act} {Q : Exit → Act → World → Prop} (hgd : o.guard = none) (s x : Operand)
    (ho : o.op = .call { callee := .builtin .append, args := #[s, x], argTypes := #[22, 22] })
    (ao : Option Addr) (l c : Nat) (hl : l ≤ c) (ad : Option Addr) (cap : Nat) (hs : a.eval s = .slice ao l c) (hx : a.eval x = .slice ad 0 cap)
    (h : wpList Tryd.prog ops Q rest (a.put o.dst (.slice ao l c)) w) : wpList Tryd.prog ops Q (o :: rest) a w := by
  refine wpList_plain hgd fun K hK => ?_
  have hrun := append_nothing w o.type ao l c hl ad cap
  unfold Oper.wp
  simp [execOp, ho, resolve, invoke, builtin, hs, hx, hrun, Result.andThen]
  exact hK _ _ h
theorem row_shape {w : World} {base : Nat} {t : TypeId} {v : Value} {n : Nat} {xs : List Value} (h : w.ownsRow base t 1 v n xs) : ∃ ao c, v = .slice ao n c ∧ n ≤ c := by
  rcases h.2 with ⟨rfl, rfl⟩ | ⟨g, cap, cur, rfl, _, _, hc, _⟩
  · exact ⟨none, 0, rfl, Nat.le_refl _⟩
  · exact ⟨_, _, rfl, hc⟩
theorem below_grow {w wr w3 : World} {v : Value} {e : TypeId} {size n : Nat} {xs : List Value} (hB : Below w.heap.size w wr) (hR : wr.ownsRow w.heap.size e size v n xs) (hg : wr.grownBy w3 v.ownBlock) : Below w.heap.size w w3 :=
  hB.grown hg hB.size (fun k e => (hR.lt k e).1)

set_option maxRecDepth 100000 in
set_option maxHeartbeats 2000000 in
theorem Flat_any (v : Value) (R : Nat) (vs : Nat → Value) (ns : Nat → Nat) (zs : Nat → Nat → Int) (w : World) (h : TabAt w v R vs ns zs) (hR : R ≤ 1000) (hs : sumT ns R ≤ 2000000) :
    Calls Tryd.prog 20 #[v] w fun e w' => ∃ v', e = .returned v' ∧ w'.ownsRow w.heap.size 3 1 v' (flatL ns zs R).length (cellL (flatL ns zs R)) ∧ Below w.heap.size w w' := by
  rcases h with ⟨ad, cap, rfl, rfl⟩ | ⟨b, o, cap, rfl, h0, hr⟩
  · go_enter Tryd.func20, Tryd.ntmps20
    go_wp2_with fail
    refine wp_loop_rounds 1 ?_
    rw [rounds_succ]
    go_wp2_with fail
    go_ret
    exact ⟨_, rfl, ⟨rfl, Or.inl ⟨rfl, rfl⟩⟩, Below.refl _ _⟩
  · obtain ⟨i0, hi, hz0, hz1, hz2⟩ := info_parts Tryd.infoInt
    have HINF : Hid (Tryd.prog.info? 3 = some i0 ∧ i0.zero = some (.int .i64 0) ∧ i0.size = 1 ∧ i0.bytes = 8) := ⟨hi, hz0, hz1, hz2⟩
    have HR := Hid.mk' hr
    clear hi hz0 hz1 hz2 hr
    go_enter Tryd.func20, Tryd.ntmps20
    go_wp2_with fail
    go_loopw [3, 4] (fun u i wr => ∃ k : Nat, k ≤ R ∧ i = .int .i64 k ∧ Hid (wr.ownsRow w.heap.size 3 1 u (flatL ns zs k).length (cellL (flatL ns zs k))) ∧ Hid (Below w.heap.size w wr)) (fun _ i _ => R - (intOf i).toNat)
    case atStart => exact ⟨0, Nat.zero_le _, rfl, ⟨rfl, Or.inl ⟨rfl, rfl⟩⟩, Below.refl _ _⟩
    case round =>
      obtain ⟨k, hk, rfl, HO, HB⟩ := hrel
      rcases Nat.lt_or_ge k R with h1 | h1
      · have hc := (HR.out k h1).1
        have hc' : wr.cell? ⟨b, o + k, none⟩ = some (vs k) := by rw [HB.out.cell (cell_lt hc)]; exact hc
        have hkn : (k : Int) < (R : Int) := by omega
        have hm1 := sumT_mono ns (Nat.le_of_lt h1)
        have hm2 : sumT ns k + ns k ≤ sumT ns R := sumT_mono ns h1
        have hfb : (flatL ns zs k).length ≤ 2000000 ∧ (flatL ns zs k).length + ns k ≤ 2000000 := by rw [flatL_length]; omega
        clear hm1 hm2
        rcases (HR.out k h1).2.later HB.out with ⟨ad1, cap1, hv1, hn1⟩ | ⟨b1, o1, cap1, hv1, hn1, hr1⟩
        · rw [hv1] at hc'
          obtain ⟨ao, cc, hu, hlc⟩ := row_shape HO.out
          have HU := Hid.mk' hu
          rw [hu] at HO ⊢
          have HE : Hid (flatL ns zs (k + 1) = flatL ns zs k) := by show flatL ns zs k ++ rowL (zs k) (ns k) = _; rw [hn1]; simp [rowL]
          clear hc hu
          go_wp2_with (at_builtin; go_must (refine wpList_append_nothing rfl _ _ rfl ao _ cc hlc ad1 cap1 rfl rfl ?_))
          exact ⟨⟨k + 1, h1, by go_num, by rw [HE.out]; exact HO, HB⟩, by simp [intOf]; omega⟩
        · rw [hv1] at hc'
          have HR1 := Hid.mk' hr1
          have HC : Hid (∀ u, u ∈ numCells (zs k) (ns k) → u.oneCell' = true) := fun u hu => by obtain ⟨x, rfl⟩ := numCells_ints (zs k) (ns k) u hu; rfl
          have HL : Hid ((numCells (zs k) (ns k)).length = ns k * 1) := by show _ = _; rw [numCells_length, Nat.mul_one]
          have HE : Hid (cellL (flatL ns zs (k + 1)) = cellL (flatL ns zs k) ++ numCells (zs k) (ns k) ∧ (flatL ns zs (k + 1)).length = (flatL ns zs k).length + ns k) := by
            refine ⟨?_, ?_⟩
            · show cellL (flatL ns zs k ++ rowL (zs k) (ns k)) = _
              rw [cellL_append, cellL_row]
            · show (flatL ns zs k ++ rowL (zs k) (ns k)).length = _
              rw [List.length_append, rowL_length]
          have hzB := HB.out.size
          clear hc hr1
          go_wp2_with (at_builtin; go_must (refine wpList_append_lies _ rfl _ _ _ rfl w.heap.size 3 i0 _ 1 8 Tryd.underlying22 HINF.out.1 HINF.out.2.1 HINF.out.2.2.1 HINF.out.2.2.2 rfl (by omega) u3 _ _ rfl HO.out ⟨b1, o1, none⟩ (ns k) cap1 (numCells (zs k) (ns k)) rfl HL.out (fun j u hu => numCells_news HR1.out j u hu) HC.out hn1 (by unfold maxLen; omega) (by omega) (by omega) _ rfl ?_; intro g' cap2 w3 hown3 hgrow3 hat3 hlt3; have HO3 := Hid.mk' hown3; have HG3 := Hid.mk' hgrow3; clear hown3 hgrow3 hat3))
          refine ⟨⟨k + 1, h1, by go_num, ?_, below_grow HB.out HO.out HG3.out⟩, by simp [intOf]; omega⟩
          rw [HE.out.1, HE.out.2]
          exact HO3
      · obtain rfl : k = R := by omega
        go_wp2_with fail
        go_ret
        exact ⟨_, rfl, HO.out, HB.out⟩

set_option maxRecDepth 100000 in
set_option maxHeartbeats 1000000 in
theorem few_any (v : Value) (R : Nat) (vs : Nat → Value) (ns : Nat → Nat) (zs : Nat → Nat → Int) (w : World) (h : TabAt w v R vs ns zs) (hm : R ≤ maxLen) (hs : sumT ns R ≤ 2000000) (r : Bool) (hr : r = true ↔ R ≤ 70 ∧ sumT ns R ≤ 600) :
    Calls Tryd.prog 16 #[v] w fun e w' => e = .returned (.bool r) ∧ Below w.heap.size w w' := by
  unfold maxLen at hm
  by_cases hR : R ≤ 70
  · have hF := Flat_any v R vs ns zs w h (by omega) hs
    obtain ⟨ad, cap, rfl⟩ := h.form
    have HRR : Hid (r = decide ((sumT ns R : Int) ≤ 600)) := by
      by_cases hh : sumT ns R ≤ 600
      · rw [hr.2 ⟨hR, hh⟩, decide_eq_true (by omega)]; exact rfl
      · have : r = false := by cases r with | false => rfl | true => exact absurd (hr.1 rfl).2 hh
        rw [this, decide_eq_false (by omega)]; exact rfl
    have HFL := Hid.mk' (flatL_length ns zs R)
    clear h hr
    go_enter Tryd.func16, Tryd.ntmps16
    go_wp2_with (go_at_call 20; refine hF.mono ?_; rintro e w1 ⟨v1, rfl, hrow, hb1⟩; obtain ⟨ao, cc, hu, hlc⟩ := row_shape hrow; rw [HFL.out] at hu; subst hu; have HB1 := Hid.mk' hb1; clear hrow hb1 hlc)
    go_ret
    exact ⟨by rw [HRR.out]; rfl, HB1.out⟩
  · have hrf : r = false := by cases r with | false => rfl | true => exact absurd (hr.1 rfl).1 hR
    subst hrf
    obtain ⟨ad, cap, rfl⟩ := h.form
    have hd : decide ((R : Int) ≤ 70) = false := decide_eq_false (by omega)
    clear h hr
    go_enter Tryd.func16, Tryd.ntmps16
    go_wp2_with fail
    go_ret
    exact ⟨rfl, Below.refl _ _⟩

/-- Is a row longer than 16? Is one not as long as the first? -/
def longB (ns : Nat → Nat) : Nat → Bool
  | 0 => false
  | k + 1 => longB ns k || decide (16 < ns k)
def unevenB (ns : Nat → Nat) : Nat → Bool
  | 0 => false
  | k + 1 => unevenB ns k || !decide (ns k = ns 0)
theorem longB_mono {ns : Nat → Nat} {k n : Nat} (hk : k < n) (h : 16 < ns k) : longB ns n = true := by
  induction n with
  | zero => omega
  | succ n ih =>
    show (longB ns n || decide (16 < ns n)) = true
    rcases Nat.lt_or_ge k n with h' | h'
    · rw [ih h']; rfl
    · obtain rfl : k = n := by omega
      rw [decide_eq_true h, Bool.or_true]
theorem unevenB_mono {ns : Nat → Nat} {k n : Nat} (hk : k < n) (h : ns k ≠ ns 0) : unevenB ns n = true := by
  induction n with
  | zero => omega
  | succ n ih =>
    show (unevenB ns n || !decide (ns n = ns 0)) = true
    rcases Nat.lt_or_ge k n with h' | h'
    · rw [ih h']; rfl
    · obtain rfl : k = n := by omega
      rw [decide_eq_false h]; simp
/-- The number of a table's error, as the document says it. -/
def tabErr (R : Nat) (ns : Nat → Nat) (zs : Nat → Nat → Int) : Nat := if 16 < R then 2 else if longB ns R = true then 2 else if unevenB ns R = true then 3 else listErr (atF (flatL ns zs R)) (flatL ns zs R).length
end Go.Proofs.YtgaamcmjonngjaaDoor

/- Lists put in order, the greatest first; which is above which. -/
namespace Go.Proofs.YtgaamcmjonngjaaDoor

/-- A number put in, behind all that are not less. -/
def insD (x : Int) : List Int → List Int
  | [] => [x]
  | y :: l => if x ≤ y then y :: insD x l else x :: y :: l
theorem insD_perm (x : Int) : ∀ l, (insD x l).Perm (x :: l)
  | [] => List.Perm.refl _
  | y :: l => by
    unfold insD
    by_cases h : x ≤ y
    · rw [if_pos h]
      exact ((insD_perm x l).cons y).trans (List.Perm.swap _ _ _)
    · rw [if_neg h]
theorem insD_down (x : Int) : ∀ l : List Int, l.Pairwise (fun a b => b ≤ a) → (insD x l).Pairwise (fun a b => b ≤ a)
  | [], _ => by simp [insD]
  | y :: l, h => by
    rw [List.pairwise_cons] at h
    unfold insD
    by_cases hx : x ≤ y
    · rw [if_pos hx, List.pairwise_cons]
      refine ⟨fun c hc => ?_, insD_down x l h.2⟩
      rcases List.mem_cons.1 ((insD_perm x l).mem_iff.1 hc) with rfl | h2
      · exact hx
      · exact h.1 c h2
    · rw [if_neg hx, List.pairwise_cons]
      refine ⟨fun c hc => ?_, List.pairwise_cons.2 h⟩
      rcases List.mem_cons.1 hc with rfl | h2
      · omega
      · have := h.1 c h2; omega
/-- Where it is put. -/
theorem insD_at (x : Int) : ∀ (l : List Int) (k : Nat), k ≤ l.length → (∀ i, i < k → x ≤ l.getD i 0) → (k = l.length ∨ ¬ x ≤ l.getD k 0) → insD x l = l.take k ++ x :: l.drop k
  | [], k, hk, _, _ => by obtain rfl : k = 0 := by simpa using hk
                          rfl
  | y :: l, 0, _, _, h => by
    rcases h with h | h
    · simp at h
    · have h2 : ¬ x ≤ y := by simpa using h
      show (if x ≤ y then _ else _) = _
      rw [if_neg h2]; rfl
  | y :: l, k + 1, hk, h1, h => by
    have h2 : x ≤ y := by simpa using h1 0 (by omega)
    show (if x ≤ y then _ else _) = _
    rw [if_pos h2, insD_at x l k (by simpa using hk) (fun i hi => by simpa using h1 (i + 1) (by omega)) (by simpa using h)]
    rfl
def fallL (z : Nat → Int) : Nat → List Int
  | 0 => []
  | k + 1 => insD (z k) (fallL z k)
theorem fallL_perm (z : Nat → Int) : ∀ n, (fallL z n).Perm (rowL z n)
  | 0 => List.Perm.refl _
  | n + 1 => by
    refine (insD_perm _ _).trans ?_
    have h : rowL z (n + 1) = rowL z n ++ [z n] := by simp [rowL, List.range_succ]
    rw [h]
    exact ((fallL_perm z n).cons (z n)).trans (List.perm_append_singleton _ _).symm
theorem fallL_length (z : Nat → Int) (n : Nat) : (fallL z n).length = n := by rw [(fallL_perm z n).length_eq, rowL_length]
theorem fallL_down (z : Nat → Int) : ∀ n, (fallL z n).Pairwise (fun a b => b ≤ a)
  | 0 => List.Pairwise.nil
  | n + 1 => insD_down _ _ (fallL_down z n)
theorem atF_down {l : List Int} (h : l.Pairwise (fun a b => b ≤ a)) {i j : Nat} (hij : i ≤ j) (hj : j < l.length) : atF l j ≤ atF l i := by
  rcases Nat.eq_or_lt_of_le hij with rfl | h1
  · exact Int.le_refl _
  · have := List.pairwise_iff_getElem.1 h i j (by omega) hj h1
    simpa [atF, List.getD, hj, show i < l.length by omega] using this
theorem atF_mem {z : Nat → Int} {n : Nat} {j : Nat} (hj : j < n) : ∃ i, i < n ∧ atF (fallL z n) j = z i := by
  have hl := fallL_length z n
  have h1 : atF (fallL z n) j ∈ fallL z n := by
    unfold atF
    rw [List.getD_eq_getElem?_getD, List.getElem?_eq_getElem (by omega)]
    exact List.getElem_mem _
  have h2 := (fallL_perm z n).mem_iff.1 h1
  simp only [rowL, List.mem_map, List.mem_range] at h2
  obtain ⟨i, hi, e⟩ := h2
  exact ⟨i, hi, e.symm⟩
theorem fall_sorted (z : Nat → Int) (n : Nat) (D : List Nat) (hp : D.Perm (List.range n)) (hs : ∀ i j, i < j → j < n → z (D.getD j 0) ≤ z (D.getD i 0)) : D.map z = fallL z n := by
  have hl : D.length = n := by rw [hp.length_eq, List.length_range]
  refine List.Perm.eq_of_pairwise (le := fun a b => b ≤ a) (fun a b _ _ h1 h2 => by omega) ?_ (fallL_down z n) ((hp.map z).trans (fallL_perm z n).symm)
  rw [List.pairwise_iff_getElem]
  intro i j hi hj hij
  simp only [List.length_map] at hi hj
  have := hs i j hij (by omega)
  simpa [List.getD, hi, hj] using this
theorem fall_at {z : Nat → Int} {n : Nat} {D : List Nat} (h : D.map z = fallL z n) {j : Nat} (hj : j < n) : z (D.getD j 0) = atF (fallL z n) j := by
  have hl : D.length = n := by have := congrArg List.length h; rwa [List.length_map, fallL_length] at this
  rw [← h]
  unfold atF
  simp [List.getD, hl, hj]
theorem sumN_perm {l r : List Int} (h : l.Perm r) : l.sum = r.sum := by
  induction h with
  | nil => rfl
  | cons x _ ih => simp [ih]
  | swap x y l => simp; omega
  | trans _ _ h1 h2 => rw [h1, h2]
theorem sum_rowL (z : Nat → Int) : ∀ n, (rowL z n).sum = sumN z n
  | 0 => rfl
  | n + 1 => by
    have h : rowL z (n + 1) = rowL z n ++ [z n] := by simp [rowL, List.range_succ]
    rw [h, List.sum_append, sum_rowL z n]
    simp [sumN]
theorem rowL_atF (l : List Int) : rowL (atF l) l.length = l := by
  refine List.ext_getElem (by simp [rowL]) (fun i h1 h2 => ?_)
  simp [rowL, atF, List.getD, List.getElem?_eq_getElem h2]
theorem fall_sum (z : Nat → Int) (n : Nat) : sumN (atF (fallL z n)) n = sumN z n := by
  have h := sum_rowL (atF (fallL z n)) n
  have h2 := rowL_atF (fallL z n)
  rw [fallL_length] at h2
  rw [h2, sumN_perm (fallL_perm z n), sum_rowL] at h
  exact h.symm
/-- What one has more than another one, the greatest first; does it ever lack? -/
def surF (p q : Nat → Int) (n : Nat) (k : Nat) : Int := atF (fallL p n) k - atF (fallL q n) k
def dipN (d : Nat → Int) : Nat → Bool
  | 0 => false
  | k + 1 => dipN d k || decide (sumN d (k + 1) < 0)
theorem dipN_none {d : Nat → Int} : ∀ {n : Nat}, dipN d n = false → ∀ k, k ≤ n → 0 ≤ sumN d k
  | 0, _, k, hk => by obtain rfl : k = 0 := by omega
                      exact Int.le_refl _
  | n + 1, h, k, hk => by
    have h1 : (dipN d n || decide (sumN d (n + 1) < 0)) = false := h
    rw [Bool.or_eq_false_iff] at h1
    rcases Nat.lt_or_ge k (n + 1) with h' | h'
    · exact dipN_none h1.1 k (by omega)
    · obtain rfl : k = n + 1 := by omega
      have := h1.2; simp at this; exact this
theorem dipN_at {d : Nat → Int} : ∀ {n k : Nat}, sumN d k < 0 → k ≤ n → dipN d n = true
  | 0, k, h, hk => by obtain rfl : k = 0 := by omega
                      simp [sumN] at h
  | n + 1, k, h, hk => by
    show (dipN d n || _) = true
    rcases Nat.lt_or_ge k (n + 1) with h' | h'
    · rw [dipN_at h (by omega), Bool.true_or]
    · obtain rfl : k = n + 1 := by omega
      rw [decide_eq_true h, Bool.or_true]
theorem dipN_of {d : Nat → Int} {n : Nat} (h : ∀ k, k ≤ n → 0 ≤ sumN d k) : dipN d n = false := by
  cases hb : dipN d n with
  | false => rfl
  | true =>
    exfalso
    induction n with
    | zero => cases hb
    | succ n ih =>
      have h1 : (dipN d n || decide (sumN d (n + 1) < 0)) = true := hb
      rw [Bool.or_eq_true] at h1
      rcases h1 with h1 | h1
      · exact ih (fun k hk => h k (by omega)) h1
      · have := h (n + 1) (Nat.le_refl _); simp at h1; omega
theorem sumN_sub (a b : Nat → Int) : ∀ n, sumN (fun k => a k - b k) n = sumN a n - sumN b n
  | 0 => rfl
  | n + 1 => by
    show sumN (fun k => a k - b k) n + (a n - b n) = sumN a n + a n - (sumN b n + b n)
    rw [sumN_sub a b n]; omega
theorem sur_sum (p q : Nat → Int) (n k : Nat) : sumN (surF p q n) k = sumN (atF (fallL p n)) k - sumN (atF (fallL q n)) k := sumN_sub _ _ _
/-- What is wrong with two lists. -/
def prE (n : Nat) (p : Nat → Int) (m : Nat) (q : Nat → Int) : Nat :=
  if 16 < n ∨ 16 < m then 2 else if n = 0 ∨ n ≠ m ∨ noN p n = true ∨ noN q m = true ∨ sumN p n ≠ sumN q m then 3 else 0
theorem prE_ok {n m : Nat} {p q : Nat → Int} (h : prE n p m q = 0) : n ≤ 16 ∧ 0 < n ∧ n = m ∧ (∀ k, k < n → 0 ≤ p k ∧ p k ≤ 4096) ∧ (∀ k, k < n → 0 ≤ q k ∧ q k ≤ 4096) ∧ sumN p n = sumN q n := by
  unfold prE at h
  by_cases h1 : 16 < n ∨ 16 < m
  · rw [if_pos h1] at h; cases h
  · rw [if_neg h1] at h
    by_cases h2 : n = 0 ∨ n ≠ m ∨ noN p n = true ∨ noN q m = true ∨ sumN p n ≠ sumN q m
    · rw [if_pos h2] at h; cases h
    · simp only [not_or, Bool.not_eq_true, Decidable.not_not, ne_eq] at h2
      obtain ⟨a, rfl, c, d, e⟩ := h2
      exact ⟨by omega, by omega, rfl, noN_none c, noN_none d, e⟩
theorem prE_le (n m : Nat) (p q : Nat → Int) : prE n p m q ≤ 8 := by
  unfold prE
  split
  · omega
  · split <;> omega
theorem fall_right {z : Nat → Int} {n : Nat} (h : ∀ k, k < n → 0 ≤ z k ∧ z k ≤ 4096) {j : Nat} (hj : j < n) : 0 ≤ atF (fallL z n) j ∧ atF (fallL z n) j ≤ 4096 := by
  obtain ⟨i, hi, e⟩ := atF_mem (z := z) hj
  rw [e]; exact h i hi
end Go.Proofs.YtgaamcmjonngjaaDoor

/- A row of numbers that is made and filled. -/
namespace Go.Proofs.YtgaamcmjonngjaaDoor
open Go.RowKit

/-- The row that is filled. -/
structure Fills (w wr : World) (g T : Nat) (f : Nat → Int) : Prop where
  row : RowAt wr g 0 T f
  fz : ∀ i, i < T → wr.frozen? ⟨g, 0 + i, none⟩ = false
  below : Below w.heap.size w wr
  hg : w.heap.size ≤ g
theorem Fills.set {w wr : World} {g T : Nat} {f : Nat → Int} (h : Fills w wr g T f) {j : Nat} (hj : j < T) (x : Int) {f' : Nat → Int} (hf : ∀ i, i < T → f' i = if i = j then x else f i) : Fills w (wr.setCell ⟨g, j, none⟩ (.int .i64 x)) g T f' := by
  refine ⟨fun i hi => ?_, fun i hi => ?_, h.below.setCell h.hg _, h.hg⟩
  · rw [hf i hi]
    by_cases hij : i = j
    · subst hij
      rw [if_pos rfl, Nat.zero_add]
      exact World.cell?_setCell_same _ _ _ (by have := h.row i hi; rwa [Nat.zero_add] at this)
    · rw [if_neg hij, World.cell?_setCell_other _ _ _ _ (fun e => hij (by have := congrArg Addr.off e; simp at this; omega))]
      exact h.row i hi
  · rw [World.frozen?_setCell]
    exact h.fz i hi
theorem Fills.drew {w wr : World} {g T : Nat} {f : Nat → Int} (h : Fills w wr g T f) : Fills w wr.drew g T f := ⟨h.row, h.fz, h.below.drew, h.hg⟩
theorem fills_made {w w2 : World} {g n : Nat} {t : TypeId} {xs : List Value} (h : w2.ownsRow w.heap.size t 1 (.slice (some ⟨g, 0, none⟩) n n) n xs) (hx : ∀ i, i < n → xs[i]? = some (.int .i64 0)) (hg : w.grownBy w2 none) : Fills w w2 g n (fun _ => 0) := by
  obtain ⟨hl, hr⟩ := h
  rcases hr with ⟨hx, _⟩ | ⟨g', cap', cur, hv, hb, hh, _, _, hs, ht⟩
  · cases hx
  · obtain ⟨rfl, rfl⟩ : g = g' ∧ n = cap' := by simpa using hv
    refine ⟨fun i hi => ?_, fun i hi => ?_, (Below.refl _ _).grown hg (Nat.le_refl _) (fun k hk => by cases hk), hb⟩
    · rw [← hx i hi, ← ht, List.getElem?_take_of_lt (by omega)]
      simp [World.cell?, hh]
    · simp [World.frozen?, hh]
theorem made_zero (n i : Nat) (hi : i < n) : (madeCells (Value.int IntKind.i64 0).cells (n * 1)).toList[i]? = some (.int .i64 0) := by
  simp [madeCells, hi, Nat.mod_one, Value.cells]
end Go.Proofs.YtgaamcmjonngjaaDoor

/- The library contracts of slices.Clone, cmp.Compare and the insertion sort by a function laid at the numbers of this translation. -/
namespace Go.Proofs
open Go.Shelf
def Tryd.cloneA_ren : Go.Shelf.Ren := ⟨fun | 15 => 38 | n => n, fun | 22 => 22 | 3 => 3 | 4 => 4 | n => n, fun | n => n⟩
theorem Tryd.cloneA : Go.Proofs.Lays2.n15 Tryd.prog Tryd.cloneA_ren := {
  mixed := by kernel_rfl
  f15 := Tryd.func38.trans (congrArg some (by kernel_rfl))
  t3 := Tryd.underlying3
  a3 := Tryd.isAgg3
  z3 := Tryd.sizeOf3
  v3 := Tryd.zeroValue3
  t4 := Tryd.underlying4
  a4 := Tryd.isAgg4
  z4 := Tryd.sizeOf4
  v4 := Tryd.zeroValue4
  t22 := Tryd.underlying22
  a22 := Tryd.isAgg22
  z22 := Tryd.sizeOf22
  v22 := Tryd.zeroValue22
  i3 := by kernel_rfl }
def Tryd.compareA_ren : Go.Shelf.Ren := ⟨fun | 122 => 62 | 215 => 98 | n => n, fun | 3 => 3 | 4 => 4 | n => n, fun | n => n⟩
theorem Tryd.compareA : Go.Proofs.Lays.n122 Tryd.prog Tryd.compareA_ren := {
  mixed := by kernel_rfl
  f122 := Tryd.func62.trans (congrArg some (by kernel_rfl))
  f215 := Tryd.func98.trans (congrArg some (by kernel_rfl))
  t3 := Tryd.underlying3
  a3 := Tryd.isAgg3
  z3 := Tryd.sizeOf3
  v3 := Tryd.zeroValue3
  t4 := Tryd.underlying4
  a4 := Tryd.isAgg4
  z4 := Tryd.sizeOf4
  v4 := Tryd.zeroValue4 }
def Tryd.insertA_ren : Go.Shelf.Ren := ⟨fun | 20 => 139 | n => n, fun | 24 => 3 | 22 => 22 | 3 => 3 | 25 => 115 | 4 => 4 | 0 => 0 | n => n, fun | n => n⟩
theorem Tryd.insertA : Go.Proofs.SlLaysF.n20 Tryd.prog Tryd.insertA_ren := {
  mixed := by kernel_rfl
  f20 := ⟨Tryd.f139.name, by decide, Tryd.func139.trans (congrArg some (by kernel_rfl))⟩
  t0 := Tryd.underlying0
  a0 := Tryd.isAgg0
  z0 := Tryd.sizeOf0
  v0 := Tryd.zeroValue0
  t3 := Tryd.underlying3
  a3 := Tryd.isAgg3
  z3 := Tryd.sizeOf3
  v3 := Tryd.zeroValue3
  t4 := Tryd.underlying4
  a4 := Tryd.isAgg4
  z4 := Tryd.sizeOf4
  v4 := Tryd.zeroValue4
  t22 := Tryd.underlying22
  a22 := Tryd.isAgg22
  z22 := Tryd.sizeOf22
  v22 := Tryd.zeroValue22
  a24 := Tryd.isAgg3
  z24 := Tryd.sizeOf3
  t25 := Tryd.underlying115
  a25 := Tryd.isAgg115
  z25 := Tryd.sizeOf115
  v25 := Tryd.zeroValue115 }
end Go.Proofs

/- order.falling: the places of a list, put in order by a stable sort. -/
namespace Go.Proofs.YtgaamcmjonngjaaDoor
open Go.RowKit Go.Shelf Go.Sort

theorem compare_anyO (x y : Int) (w : World) : Calls Tryd.prog 62 #[.int .i64 x, .int .i64 y] w fun e w' => e = .returned (.int .i64 (Lib.compareInt x y)) ∧ w' = w := Any.cmp_Compare_int Tryd.compareA x y w
set_option maxRecDepth 100000 in
theorem byNumber (B b o n cap i k : Nat) (z : Nat → Int) (w : World) (hB : w.cell? ⟨B, 0, none⟩ = some (.slice (some ⟨b, o, none⟩) n cap)) (hr : RowAt w b o n z) (hi : i < n) (hk : k < n) :
    Calls Tryd.prog 104 #[.int .i64 i, .int .i64 k, .pointer (some ⟨B, 0, none⟩)] w fun e w' => e = .returned (.int .i64 (Lib.compareInt (z k) (z i))) ∧ ∃ q, w' = w.drewN q := by
  have h1 := hr i hi
  have h2 := hr k hk
  have hi1 : (i : Int) < (n : Int) := by omega
  have hk1 : (k : Int) < (n : Int) := by omega
  have hi0 : (0 : Int) ≤ (i : Int) := by omega
  have hk0 : (0 : Int) ≤ (k : Int) := by omega
  clear hr
  generalize z i = x at *
  generalize z k = y at *
  go_enter Tryd.func104, Tryd.ntmps104
  go_wp2_with (go_quiet ((go_at_call 62; exact Calls.quiet_of_same (compare_anyO _ _ _))))
  go_ret
  exact ⟨rfl, _, rfl⟩
/-- A place in memory; places behind the last are not met. -/
def placeV (n : Nat) (x : Nat) : Value := .int .i64 ((x % n : Nat) : Int)
def placeC (n : Nat) (z : Nat → Int) (x y : Nat) : Int := Lib.compareInt (z (y % n)) (z (x % n))
theorem placeV_at {n x : Nat} (h : x < n) : placeV n x = .int .i64 (x : Int) := by unfold placeV; rw [Nat.mod_eq_of_lt h]
theorem sort_cell {w : World} {enc : Nat → Value} {g m : Nat} {dk : Array Nat} {os : Array Obj} {p : Addr} {v : Value} (hp : p.block ≠ g) (h : w.cell? p = some v) : (sortWorld enc w g 0 m dk os).cell? p = some v := by
  unfold sortWorld
  have hl := cell_lt h
  rw [Sort.cell?_grow _ _ _ (by simp [Sort.putRow, Sort.mapBlock, Sort.ahead]; exact hl), Sort.cell?_putRow_other _ _ _ _ _ _ (Or.inl hp)]
  exact h
theorem cmpReads (B b o n cap g : Nat) (z : Nat → Int) (w : World) (hn0 : 0 < n) (hB : w.cell? ⟨B, 0, none⟩ = some (.slice (some ⟨b, o, none⟩) n cap)) (hr : RowAt w b o n z) (hBg : B ≠ g) (hbg : b ≠ g) :
    CmpReads Tryd.prog 104 #[.pointer (some ⟨B, 0, none⟩)] (placeV n) (placeC n z) g 0 n w := by
  intro m os dk _ x y
  exact byNumber B b o n cap (x % n) (y % n) z _ (sort_cell hBg hB) (fun i hi => sort_cell hbg (hr i hi)) (Nat.mod_lt _ hn0) (Nat.mod_lt _ hn0)
set_option maxRecDepth 100000 in
theorem stable_any (B b o n cap g : Nat) (z : Nat → Int) (w : World) (hn0 : 0 < n) (hn : n ≤ 16) (hB : w.cell? ⟨B, 0, none⟩ = some (.slice (some ⟨b, o, none⟩) n cap)) (hr : RowAt w b o n z) (hBg : B ≠ g) (hbg : b ≠ g)
    (hg : RowAt w g 0 n (fun j => (j : Int))) (hf : ∀ j, j < n → w.frozen? ⟨g, 0 + j, none⟩ = false) :
    Calls Tryd.prog 117 #[.slice (some ⟨g, 0, none⟩) n n, .func (.func 104) #[] #[.pointer (some ⟨B, 0, none⟩)]] w fun e w' => e = .returned (.tuple #[]) ∧ ∃ m, w' = (Sort.putRow (placeV n) w g 0 (Sort.insertionSort (ltOf (placeC n z)) (List.range n).toArray 0 n)).drewN m := by
  have hH : Sort.Holds (placeV n) w g 0 (List.range n).toArray := fun j hj => by
    have hj' : j < n := by simpa using hj
    refine ⟨?_, hf j hj'⟩
    rw [getElem!_pos (List.range n).toArray j hj]
    simp only [List.getElem_toArray, List.getElem_range]
    rw [placeV_at hj']; exact hg j hj'
  have hins := Any.insertionSortCmpFunc_one Tryd.insertA (placeV n) (fun _ => rfl) (placeC n z) 104 #[.pointer (some ⟨B, 0, none⟩)] g 0 n 0 n (List.range n).toArray w (enters_of Tryd.func104 (by kernel_rfl) rfl) (by simpa using cmpReads B b o n cap g z w hn0 hB hr hBg hbg) hH (Nat.zero_le _) (by simp) (by simp; omega)
  rw [show (List.range n).toArray.size = n by simp] at hins
  clear hH hB hr hg hf
  have hst : Calls Tryd.prog 133 #[.slice (some ⟨g, 0, none⟩) n n, .int .i64 n, .func (.func 104) #[] #[.pointer (some ⟨B, 0, none⟩)]] w fun e w' => e = .returned (.tuple #[]) ∧ ∃ m, w' = (Sort.putRow (placeV n) w g 0 (Sort.insertionSort (ltOf (placeC n z)) (List.range n).toArray 0 n)).drewN m := by
    generalize Sort.putRow (placeV n) w g 0 (Sort.insertionSort (ltOf (placeC n z)) (List.range n).toArray 0 n) = W at *
    have hn20 : (n : Int) < 20 := by omega
    go_enter Tryd.func133, Tryd.ntmps133
    go_wp2_with fail
    refine wp_loop_rounds 1 ?_
    rw [rounds_succ]
    go_wp2_with fail
    refine hins.mono ?_
    clear hins
    rintro e w1 ⟨rfl, m, rfl⟩
    go_wp2_with fail
    refine wp_loop_rounds 1 ?_
    rw [rounds_succ]
    go_wp2_with fail
    exact bodyPost_end (results_none Tryd.results133 _ _ _) rfl ⟨rfl, m, rfl⟩
  clear hins
  generalize Sort.putRow (placeV n) w g 0 (Sort.insertionSort (ltOf (placeC n z)) (List.range n).toArray 0 n) = W at *
  go_enter Tryd.func117, Tryd.ntmps117
  go_wp2_with fail
  refine hst.mono ?_
  clear hst
  rintro e w1 ⟨rfl, m, rfl⟩
  go_wp2_with fail
  exact bodyPost_end (results_none Tryd.results117 _ _ _) rfl ⟨rfl, m, rfl⟩
theorem placeC_lt (n : Nat) (z : Nat → Int) : ltOf (placeC n z) = fun x y => decide (z (y % n) < z (x % n)) := by
  funext x y
  unfold ltOf placeC Lib.compareInt
  by_cases h : z (y % n) < z (x % n)
  · simp [h]
  · simp only [h, if_false]
    split <;> simp
theorem placeC_swo (n : Nat) (z : Nat → Int) : SWO (ltOf (placeC n z)) := by
  rw [placeC_lt]
  exact ⟨fun x => by simp, fun x y z h1 h2 => by simp at *; omega, fun x y z h1 h2 => by simp at *; omega⟩
/-- What the sort leaves. -/
theorem sorted_places (n : Nat) (z : Nat → Int) : ∃ D : List Nat, (Sort.insertionSort (ltOf (placeC n z)) (List.range n).toArray 0 n).toList = D ∧ D.Perm (List.range n) ∧ D.map z = fallL z n := by
  have h := insertionSort_holds (lt := ltOf (placeC n z)) (placeC_swo n z) (List.range n).toArray 0 n (Nat.zero_le _) (by simp)
  generalize Sort.insertionSort (ltOf (placeC n z)) (List.range n).toArray 0 n = A at *
  obtain ⟨⟨hs, _, hp⟩, hd⟩ := h
  have hs' : A.size = n := by simpa using hs
  have hperm : A.toList.Perm (List.range n) := by
    have e1 : A.extract 0 n = A := by rw [← hs']; simp
    have e2 : (List.range n).toArray.extract 0 n = (List.range n).toArray := by simp
    rw [e1, e2] at hp
    exact hp
  refine ⟨A.toList, rfl, hperm, fall_sorted z n _ hperm (fun i j hij hj => ?_)⟩
  have h1 := hd i j (Nat.zero_le _) hij hj
  rw [placeC_lt] at h1
  have g : ∀ k, k < n → A[k]! = A.toList.getD k 0 ∧ A.toList.getD k 0 < n := fun k hk => by
    have e : A[k]! = A.toList.getD k 0 := by
      rw [getElem!_pos A k (by omega)]
      simp [List.getD, hs', hk]
    refine ⟨e, ?_⟩
    have hm : A.toList.getD k 0 ∈ A.toList := by
      rw [List.getD_eq_getElem?_getD, List.getElem?_eq_getElem (by simpa using (by omega : k < A.size))]
      exact List.getElem_mem _
    exact List.mem_range.1 (hperm.mem_iff.1 hm)
  obtain ⟨a1, a2⟩ := g i (by omega)
  obtain ⟨b1, b2⟩ := g j hj
  have h2 : decide (z (A.toList.getD i 0 % n) < z (A.toList.getD j 0 % n)) = false := by rw [a1, b1] at h1; exact h1
  rw [Nat.mod_eq_of_lt a2, Nat.mod_eq_of_lt b2] at h2
  simpa using h2
theorem below_putRow {B g : Nat} {w W : World} {enc : Nat → Value} {D : Array Nat} (h : Below B w W) (hg : B ≤ g) : Below B w (Sort.putRow enc W g 0 D) :=
  ⟨h.os, h.tape, h.output, by simpa using h.size, fun k hk => by
    rw [← h.block k hk]
    simp only [Sort.putRow, Sort.mapBlock, Array.getElem?_modify]
    rw [if_neg (by omega)]⟩
set_option maxRecDepth 100000 in
set_option maxHeartbeats 1000000 in
theorem inOrder_fall (B b o n cap : Nat) (z : Nat → Int) (w : World) (hn0 : 0 < n) (hn : n ≤ 16) (hB : w.cell? ⟨B, 0, none⟩ = some (.slice (some ⟨b, o, none⟩) n cap)) (hr : RowAt w b o n z) :
    Calls Tryd.prog 91 #[.int .i64 n, .func (.func 104) #[] #[.pointer (some ⟨B, 0, none⟩)]] w fun e w' => ∃ g, ∃ D : List Nat, e = .returned (.slice (some ⟨g, 0, none⟩) n n) ∧ D.Perm (List.range n) ∧ D.map z = fallL z n ∧ RowAt w' g 0 n (fun j => (D.getD j 0 : Nat)) ∧ Below w.heap.size w w' := by
  obtain ⟨i0, hii, hz0, hz1, hz2⟩ := info_parts Tryd.infoInt
  have HINF : Hid (Tryd.prog.info? 3 = some i0 ∧ i0.zero = some (.int .i64 0) ∧ i0.size = 1 ∧ i0.bytes = 8) := ⟨hii, hz0, hz1, hz2⟩
  clear hii hz0 hz1 hz2
  have HBc := Hid.mk' hB
  have HR := Hid.mk' hr
  have hBw : B < w.heap.size := cell_lt hB
  have hbw : b < w.heap.size := by have := cell_lt (hr 0 hn0); exact this
  clear hr hB
  go_enter Tryd.func91, Tryd.ntmps91
  go_wp2_with (at_make; go_must (refine wpList_make_full _ rfl _ _ _ rfl w.heap.size 3 i0 _ 1 Tryd.underlying22 HINF.out.1 HINF.out.2.1 HINF.out.2.2.1 .i64 .i64 _ _ n rfl rfl rfl rfl (by rw [HINF.out.2.2.2]; omega) (by unfold maxLen; omega) (Nat.le_refl _) ?_; intro w3 hown3 hgrow3; have HF3 := Hid.mk' (fills_made hown3 (made_zero n) hgrow3); clear hown3 hgrow3))
  go_loopw [11] (fun t wr => ∃ k : Nat, k ≤ n ∧ t = .int .i64 k ∧ Hid (Fills w wr w.heap.size n (fun j => if j < k then (j : Int) else 0))) (fun t _ => n - (intOf t).toNat)
  case atStart => exact ⟨0, Nat.zero_le _, rfl, by simpa using HF3⟩
  case round =>
    clear HF3
    obtain ⟨k, hk, rfl, HF⟩ := hrel
    rcases Nat.lt_or_ge k n with h1 | h1
    · have hkn : (k : Int) < (n : Int) := by omega
      have hk0 : (0 : Int) ≤ (k : Int) := by omega
      have hcF := HF.out.row k h1
      have hfz := HF.out.fz k h1
      rw [Nat.zero_add] at hcF hfz
      rw [if_neg (by omega)] at hcF
      have HS := Hid.mk' (HF.out.set h1 (k : Int) (f' := fun j => if j < k + 1 then (j : Int) else 0) (fun c hc => by
        by_cases h5 : c = k
        · rw [if_pos (by omega), if_pos h5, h5]
        · rw [if_neg h5]
          by_cases h6 : c < k
          · rw [if_pos (by omega), if_pos h6]
          · rw [if_neg (by omega), if_neg h6]))
      go_wp2_with fail
      exact ⟨⟨k + 1, h1, by go_num, HS⟩, by simp [intOf]; omega⟩
    · obtain rfl : k = n := by omega
      have hrow : RowAt wr w.heap.size 0 k (fun j => (j : Int)) := fun j hj => by have := HF.out.row j hj; rwa [if_pos hj] at this
      have hBc : wr.cell? ⟨B, 0, none⟩ = some (.slice (some ⟨b, o, none⟩) k cap) := by rw [HF.out.below.cell hBw]; exact HBc.out
      have hrw : RowAt wr b o k z := HR.out.later HF.out.below
      have hst := stable_any B b o k cap w.heap.size z wr hn0 hn hBc hrw (by omega) (by omega) hrow HF.out.fz
      obtain ⟨D, hD, hperm, hmap⟩ := sorted_places k z
      have hlen : D.length = k := by rw [hperm.length_eq, List.length_range]
      have hH : Sort.Holds (placeV k) wr w.heap.size 0 (List.range k).toArray := fun j hj => by
        have hj' : j < k := by simpa using hj
        refine ⟨?_, HF.out.fz j hj'⟩
        rw [getElem!_pos (List.range k).toArray j hj]
        simp only [List.getElem_toArray, List.getElem_range]
        rw [placeV_at hj']; exact hrow j hj'
      obtain ⟨A, hA⟩ : ∃ A, A = Sort.insertionSort (ltOf (placeC k z)) (List.range k).toArray 0 k := ⟨_, rfl⟩
      rw [← hA] at hst hD
      have hDl : A.size = k := by rw [← Array.length_toList, hD, hlen]
      have hres : ∀ m, RowAt ((Sort.putRow (placeV k) wr w.heap.size 0 A).drewN m) w.heap.size 0 k (fun j => (D.getD j 0 : Nat)) := fun m j hj => by
        rw [World.cell?_drewN, Sort.cell?_putRow (placeV k) wr w.heap.size 0 _ A hH (by simp [hDl]) j (by omega)]
        have e1 : A[j]! = D.getD j 0 := by
          have e0 : A[j]! = A.toList.getD j 0 := by
            rw [getElem!_pos A j (by omega)]
            simp [List.getD, hDl, hj]
          rw [e0, hD]
        have e2 : D.getD j 0 < k := by
          have hm : D.getD j 0 ∈ D := by
            rw [List.getD_eq_getElem?_getD, List.getElem?_eq_getElem (by omega)]
            exact List.getElem_mem _
          exact List.mem_range.1 (hperm.mem_iff.1 hm)
        rw [e1, placeV_at e2]
      have hbel : ∀ m, Below w.heap.size w ((Sort.putRow (placeV k) wr w.heap.size 0 A).drewN m) := fun m => below_drewN (below_putRow HF.out.below (Nat.le_refl _)) m
      have HRES := Hid.mk' hres
      have HBEL := Hid.mk' hbel
      have HPM := Hid.mk' (And.intro hperm hmap)
      clear hrow hBc hrw hlen hH hD hA hDl hres hbel hperm hmap
      generalize Sort.putRow (placeV k) wr w.heap.size 0 A = W at *
      go_wp2_with fail
      refine hst.mono ?_
      clear hst
      rintro e w5 ⟨rfl, m, rfl⟩
      go_wp2_with fail
      go_ret
      exact ⟨_, D, rfl, HPM.out.1, HPM.out.2, HRES.out m, HBEL.out m⟩
set_option maxRecDepth 100000 in
theorem falling_any (v : Value) (n : Nat) (z : Nat → Int) (w : World) (h : NumsAt w v n z) (hn0 : 0 < n) (hn : n ≤ 16) :
    Calls Tryd.prog 74 #[v] w fun e w' => ∃ g, ∃ D : List Nat, e = .returned (.slice (some ⟨g, 0, none⟩) n n) ∧ D.Perm (List.range n) ∧ D.map z = fallL z n ∧ RowAt w' g 0 n (fun j => (D.getD j 0 : Nat)) ∧ Below w.heap.size w w' := by
  rcases h with ⟨_, _, _, h0⟩ | ⟨b, o, cap, rfl, _, hr⟩
  · omega
  have hbW : Below w.heap.size w (w.alloc (.cells #[.slice (some ⟨b, o, none⟩) n cap] 22)) := (Below.refl _ _).alloc (Nat.le_refl _) _
  have hio := inOrder_fall w.heap.size b o n cap z (w.alloc (.cells #[.slice (some ⟨b, o, none⟩) n cap] 22)) hn0 hn (by rw [World.cell?_alloc_at _ _ _ _ rfl]; rfl) (hr.later hbW)
  have HB := Hid.mk' hbW
  clear hr hbW
  go_enter Tryd.func74, Tryd.ntmps74
  go_wp2_with fail
  refine hio.mono ?_
  clear hio
  rintro e w2 ⟨g, D, rfl, h1, h2, h3, h4⟩
  have HH := Hid.mk' (And.intro h1 (And.intro h2 (And.intro h3 (below_chain HB.out h4))))
  clear h1 h2 h3 h4
  go_wp2_with fail
  go_ret
  exact ⟨g, D, rfl, HH.out.1, HH.out.2.1, HH.out.2.2.1, HH.out.2.2.2⟩
end Go.Proofs.YtgaamcmjonngjaaDoor

/- The program's pairError, surplus and Above. -/
namespace Go.Proofs.YtgaamcmjonngjaaDoor
open Go.RowKit

theorem right_sums {z : Nat → Int} {n : Nat} (hn : n ≤ 16) (h : ∀ k, k < n → 0 ≤ z k ∧ z k ≤ 4096) : (∀ k, k ≤ n → -1000000 ≤ sumN z k ∧ sumN z k ≤ 1000000) ∧ ∀ i, i < n → -1000000 ≤ z i ∧ z i ≤ 1000000 := by
  refine ⟨fun k hk => ?_, fun i hi => by have := h i hi; omega⟩
  have := sum_right (z := z) (n := k) (fun i hi => h i (by omega))
  omega
theorem total_right (v : Value) (n : Nat) (z : Nat → Int) (w : World) (h : NumsAt w v n z) (h0 : 0 < n) (hn : n ≤ 16) (hz : ∀ k, k < n → 0 ≤ z k ∧ z k ≤ 4096) :
    Calls Tryd.prog 44 #[v] w fun e w' => e = .returned (.int .i64 (sumN z n)) ∧ w' = w := by
  rcases h with ⟨_, _, _, h1⟩ | ⟨b, o, cap, rfl, _, hr⟩
  · omega
  · exact total_some b o cap n z w hr (right_sums hn hz).1 (right_sums hn hz).2 (by omega)

set_option maxRecDepth 100000 in
set_option maxHeartbeats 2000000 in
theorem pairError_any (a : Nat → Addr) (pv qv : Value) (n m : Nat) (p q : Nat → Int) (w : World) (hE : Errs w a) (hp : NumsAt w pv n p) (hq : NumsAt w qv m q) (hn : n ≤ 100000) (hm : m ≤ 100000) :
    Calls Tryd.prog 40 #[pv, qv] w fun e w' => e = .returned (errV a (prE n p m q)) ∧ w' = w := by
  have hCp := ContainsFunc_num pv n p w hp (by omega)
  have hCq := ContainsFunc_num qv m q w hq (by omega)
  have HP := Hid.mk' hp
  have HQ := Hid.mk' hq
  have e1 := hE.c1
  have e2 := hE.c2
  obtain ⟨pad, pcap, rfl⟩ := hp.form
  obtain ⟨qad, qcap, rfl⟩ := hq.form
  clear hp hq hE
  by_cases h1 : 16 < n ∨ 16 < m
  · have HV : Hid (errV a (prE n p m q) = .iface 227 (.pointer (some (a 1)))) := by show _ = _; unfold prE; rw [if_pos h1]; rfl
    have hd : (16 : Int) < (n : Int) ∨ (¬ (16 : Int) < (n : Int) ∧ (16 : Int) < (m : Int)) := by omega
    clear hCp hCq h1
    rcases hd with h1 | ⟨h1, h2⟩
    all_goals
      go_enter Tryd.func40, Tryd.ntmps40
      go_wp2_with fail
      go_ret
      exact ⟨by rw [HV.out]; rfl, rfl⟩
  · have hn16 : ¬ (16 : Int) < (n : Int) := by omega
    have hm16 : ¬ (16 : Int) < (m : Int) := by omega
    have HV0 : Hid (prE n p m q = if n = 0 ∨ n ≠ m ∨ noN p n = true ∨ noN q m = true ∨ sumN p n ≠ sumN q m then 3 else 0) := by show _ = _; unfold prE; rw [if_neg h1]
    have hnn : n ≤ 16 ∧ m ≤ 16 := by omega
    clear h1
    have H3 : Hid ((n = 0 ∨ n ≠ m ∨ noN p n = true ∨ noN q m = true ∨ sumN p n ≠ sumN q m) → errV a (prE n p m q) = .iface 227 (.pointer (some (a 2)))) := fun h => by rw [HV0.out, if_pos h]; rfl
    by_cases c1 : n = 0
    · have HV := Hid.mk' (H3.out (Or.inl c1))
      have k1 : ((n : Int) == 0) = true := by simp; exact c1
      clear hCp hCq c1
      go_enter Tryd.func40, Tryd.ntmps40
      go_wp2_with fail
      go_ret
      exact ⟨by rw [HV.out]; rfl, rfl⟩
    · have k1 : ((n : Int) == 0) = false := by simp; exact c1
      by_cases c2 : n ≠ m
      · have HV := Hid.mk' (H3.out (Or.inr (Or.inl c2)))
        have k2 : ((n : Int) != (m : Int)) = true := by simp; omega
        clear hCp hCq c1 c2
        go_enter Tryd.func40, Tryd.ntmps40
        go_wp2_with fail
        go_ret
        exact ⟨by rw [HV.out]; rfl, rfl⟩
      · have k2 : ((n : Int) != (m : Int)) = false := by simp; omega
        cases hcp : noN p n with
        | true =>
          have HV := Hid.mk' (H3.out (Or.inr (Or.inr (Or.inl hcp))))
          rw [hcp] at hCp
          clear hCq c1 c2 hcp
          go_enter Tryd.func40, Tryd.ntmps40
          go_wp2_with fail
          refine hCp.mono ?_
          clear hCp
          rintro e w2 ⟨rfl, rfl⟩
          go_wp2_with fail
          go_ret
          exact ⟨by rw [HV.out]; rfl, rfl⟩
        | false =>
          cases hcq : noN q m with
          | true =>
            have HV := Hid.mk' (H3.out (Or.inr (Or.inr (Or.inr (Or.inl hcq)))))
            rw [hcp] at hCp
            rw [hcq] at hCq
            clear c1 c2 hcp hcq
            go_enter Tryd.func40, Tryd.ntmps40
            go_wp2_with fail
            refine hCp.mono ?_
            clear hCp
            rintro e w2 ⟨rfl, rfl⟩
            go_wp2_with fail
            refine hCq.mono ?_
            clear hCq
            rintro e w2 ⟨rfl, rfl⟩
            go_wp2_with fail
            go_ret
            exact ⟨by rw [HV.out]; rfl, rfl⟩
          | false =>
            have HTP := Hid.mk' (total_right _ n p w HP.out (by omega) hnn.1 (noN_none hcp))
            have HTQ := Hid.mk' (total_right _ m q w HQ.out (by omega) hnn.2 (noN_none hcq))
            by_cases c3 : sumN p n = sumN q m
            · have HV : Hid (errV a (prE n p m q) = .nilIface) := by
                show _ = _
                rw [HV0.out, if_neg (by rw [hcp, hcq]; simp; exact ⟨c1, by omega, c3⟩)]; rfl
              have k3 : (sumN p n != sumN q m) = false := by simp; exact c3
              rw [hcp] at hCp
              rw [hcq] at hCq
              clear c1 c2 hcp hcq c3
              go_enter Tryd.func40, Tryd.ntmps40
              go_wp2_with fail
              refine hCp.mono ?_
              clear hCp
              rintro e w2 ⟨rfl, rfl⟩
              go_wp2_with fail
              refine hCq.mono ?_
              clear hCq
              rintro e w2 ⟨rfl, rfl⟩
              go_wp2_with fail
              refine HTP.out.mono ?_
              rintro e w2 ⟨rfl, rfl⟩
              go_wp2_with fail
              refine HTQ.out.mono ?_
              rintro e w2 ⟨rfl, rfl⟩
              go_wp2_with fail
              go_ret
              exact ⟨by rw [HV.out]; rfl, rfl⟩
            · have HV := Hid.mk' (H3.out (Or.inr (Or.inr (Or.inr (Or.inr c3)))))
              have k3 : (sumN p n != sumN q m) = true := by simp; exact c3
              rw [hcp] at hCp
              rw [hcq] at hCq
              clear c1 c2 hcp hcq c3
              go_enter Tryd.func40, Tryd.ntmps40
              go_wp2_with fail
              refine hCp.mono ?_
              clear hCp
              rintro e w2 ⟨rfl, rfl⟩
              go_wp2_with fail
              refine hCq.mono ?_
              clear hCq
              rintro e w2 ⟨rfl, rfl⟩
              go_wp2_with fail
              refine HTP.out.mono ?_
              rintro e w2 ⟨rfl, rfl⟩
              go_wp2_with fail
              refine HTQ.out.mono ?_
              rintro e w2 ⟨rfl, rfl⟩
              go_wp2_with fail
              go_ret
              exact ⟨by rw [HV.out]; rfl, rfl⟩

theorem perm_lt {D : List Nat} {n j : Nat} (h : D.Perm (List.range n)) (hj : j < n) : D.getD j 0 < n := by
  have hl : D.length = n := by rw [h.length_eq, List.length_range]
  have hm : D.getD j 0 ∈ D := by
    rw [List.getD_eq_getElem?_getD, List.getElem?_eq_getElem (by omega)]
    exact List.getElem_mem _
  exact List.mem_range.1 (h.mem_iff.1 hm)

set_option maxRecDepth 100000 in
set_option maxHeartbeats 2000000 in
theorem surplus_any (pv qv : Value) (n : Nat) (p q : Nat → Int) (w : World) (hp : NumsAt w pv n p) (hq : NumsAt w qv n q) (h0 : 0 < n) (hn : n ≤ 16) (hpr : ∀ k, k < n → 0 ≤ p k ∧ p k ≤ 4096) (hqr : ∀ k, k < n → 0 ≤ q k ∧ q k ≤ 4096) :
    Calls Tryd.prog 41 #[pv, qv] w fun e w' => ∃ g, e = .returned (.slice (some ⟨g, 0, none⟩) n n) ∧ Fills w w' g n (surF p q n) := by
  obtain ⟨i0, hii, hz0, hz1, hz2⟩ := info_parts Tryd.infoInt
  have HINF : Hid (Tryd.prog.info? 3 = some i0 ∧ i0.zero = some (.int .i64 0) ∧ i0.size = 1 ∧ i0.bytes = 8) := ⟨hii, hz0, hz1, hz2⟩
  clear hii hz0 hz1 hz2
  have hF1 := falling_any pv n p w hp h0 hn
  have HF2 := Hid.mk' (fun (W : World) (hb : Below w.heap.size w W) => falling_any qv n q W (hq.later hb) h0 hn)
  rcases hp with ⟨_, _, _, h1⟩ | ⟨pb, po, pcap, rfl, _, hpr'⟩
  · omega
  rcases hq with ⟨_, _, _, h1⟩ | ⟨qb, qo, qcap, rfl, _, hqr'⟩
  · omega
  have HPR := Hid.mk' (fun (W : World) (hb : Below w.heap.size w W) => hpr'.later hb)
  have HQR := Hid.mk' (fun (W : World) (hb : Below w.heap.size w W) => hqr'.later hb)
  have HPZ := Hid.mk' hpr
  have HQZ := Hid.mk' hqr
  clear hpr' hqr' hpr hqr
  go_enter Tryd.func41, Tryd.ntmps41
  go_wp2_with fail
  refine hF1.mono ?_
  clear hF1
  rintro e w1 ⟨g1, D1, rfl, d1, d2, d3, d4⟩
  have HD1 := Hid.mk' (And.intro d1 d2)
  have HG1 := Hid.mk' d3
  have HB1 := Hid.mk' d4
  clear d1 d2 d3 d4
  go_wp2_with fail
  refine (HF2.out w1 HB1.out).mono ?_
  clear HF2
  rintro e w2 ⟨g2, D2, rfl, d1, d2, d3, d4⟩
  have HD2 := Hid.mk' (And.intro d1 d2)
  have HG2 := Hid.mk' d3
  have HG12 := Hid.mk' (HG1.out.later d4)
  have HB2 := Hid.mk' (below_chain HB1.out d4)
  clear d1 d2 d3 d4 HG1
  go_wp2_with (at_make; go_must (refine wpList_make_full _ rfl _ _ _ rfl w2.heap.size 3 i0 _ 1 Tryd.underlying22 HINF.out.1 HINF.out.2.1 HINF.out.2.2.1 .i64 .i64 _ _ n rfl rfl rfl rfl (by rw [HINF.out.2.2.2]; omega) (by unfold maxLen; omega) (Nat.le_refl _) ?_; intro w3 hown3 hgrow3; have HF3 := Hid.mk' (fills_made hown3 (made_zero n) hgrow3); clear hown3 hgrow3))
  go_loopw [18] (fun t wr => ∃ k : Nat, k ≤ n ∧ t = .int .i64 k ∧ Hid (Fills w2 wr w2.heap.size n (fun j => if j < k then surF p q n j else 0))) (fun t _ => n - (intOf t).toNat)
  case atStart => exact ⟨0, Nat.zero_le _, rfl, by simpa using HF3⟩
  case round =>
    clear HF3
    obtain ⟨k, hk, rfl, HF⟩ := hrel
    rcases Nat.lt_or_ge k n with h1 | h1
    · have hkn : (k : Int) < (n : Int) := by omega
      have hk0 : (0 : Int) ≤ (k : Int) := by omega
      have hcF := HF.out.row k h1
      have hfz := HF.out.fz k h1
      rw [Nat.zero_add] at hcF hfz
      rw [if_neg (by omega)] at hcF
      have hx1 : wr.cell? ⟨g1, k, none⟩ = some (.int .i64 ((D1.getD k 0 : Nat) : Int)) := by have := (HG12.out.later HF.out.below) k h1; rw [Nat.zero_add] at this; exact this
      have hx2 : wr.cell? ⟨g2, k, none⟩ = some (.int .i64 ((D2.getD k 0 : Nat) : Int)) := by have := (HG2.out.later HF.out.below) k h1; rw [Nat.zero_add] at this; exact this
      have hi1 := perm_lt HD1.out.1 h1
      have hi2 := perm_lt HD2.out.1 h1
      have hy1 := HPR.out wr (below_chain HB2.out HF.out.below) _ hi1
      have hy2 := HQR.out wr (below_chain HB2.out HF.out.below) _ hi2
      have hv1 := fall_at HD1.out.2 h1
      have hv2 := fall_at HD2.out.2 h1
      have b1 := HPZ.out _ hi1
      have b2 := HQZ.out _ hi2
      have HSU : Hid (surF p q n k = p (D1.getD k 0) - q (D2.getD k 0)) := by show _ = _; rw [hv1, hv2]; rfl
      have HS := Hid.mk' (HF.out.set h1 (p (D1.getD k 0) - q (D2.getD k 0)) (f' := fun j => if j < k + 1 then surF p q n j else 0) (fun c hc => by
        by_cases h5 : c = k
        · rw [if_pos (by omega), if_pos h5, h5, HSU.out]
        · rw [if_neg h5]
          by_cases h6 : c < k
          · rw [if_pos (by omega), if_pos h6]
          · rw [if_neg (by omega), if_neg h6]))
      have hi1I : ((D1.getD k 0 : Nat) : Int) < (n : Int) := by omega
      have hi2I : ((D2.getD k 0 : Nat) : Int) < (n : Int) := by omega
      clear hv1 hv2 HSU
      generalize D1.getD k 0 = j1 at *
      generalize D2.getD k 0 = j2 at *
      generalize p j1 = x1 at *
      generalize q j2 = x2 at *
      go_wp2_with fail
      go_region
      go_wp2_with fail
      exact ⟨⟨k + 1, h1, by go_num, by first | exact HS.out | exact HS.out.drew⟩, by simp [intOf]; omega⟩
    · obtain rfl : k = n := by omega
      have hkI : ¬ (k : Int) < (k : Int) := by omega
      go_wp2_with fail
      go_ret
      exact ⟨_, rfl, fun j hj => by have := HF.out.row j hj; rwa [if_pos hj] at this, HF.out.fz, below_chain HB2.out HF.out.below, HB2.out.size⟩

set_option maxRecDepth 100000 in
set_option maxHeartbeats 2000000 in
theorem Above_any (a : Nat → Addr) (pv qv : Value) (n m : Nat) (p q : Nat → Int) (w : World) (hE : Errs w a) (hp : NumsAt w pv n p) (hq : NumsAt w qv m q) (hn : n ≤ 100000) (hm : m ≤ 100000) :
    Calls Tryd.prog 13 #[pv, qv] w fun e w' => e = .returned (.tuple #[.bool (decide (prE n p m q = 0) && !dipN (surF p q n) n), errV a (prE n p m q)]) ∧ Below w.heap.size w w' := by
  have hPE := pairError_any a pv qv n m p q w hE hp hq hn hm
  by_cases h : prE n p m q = 0
  · obtain ⟨h16, h0, rfl, hpr, hqr, hsum⟩ := prE_ok h
    have hSu := surplus_any pv qv n p q w hp hq h0 h16 hpr hqr
    have HRNG := Hid.mk' (fun k (hk : k < n) => (show -4096 ≤ surF p q n k ∧ surF p q n k ≤ 4096 from by
      have h1 := fall_right hpr hk
      have h2 := fall_right hqr hk
      unfold surF; omega))
    have HSB : Hid (∀ k, k ≤ n → -1000000 ≤ sumN (surF p q n) k ∧ sumN (surF p q n) k ≤ 1000000) := fun k hk => by
      rw [sur_sum]
      have h1 := sum_right (z := atF (fallL p n)) (n := k) (fun i hi => fall_right hpr (by omega))
      have h2 := sum_right (z := atF (fallL q n)) (n := k) (fun i hi => fall_right hqr (by omega))
      omega
    obtain ⟨pad, pcap, rfl⟩ := hp.form
    obtain ⟨qad, qcap, rfl⟩ := hq.form
    rw [h, errV_zero] at hPE
    have HV : Hid (∀ b, (decide (prE n p n q = 0) && b) = b) := fun b => by rw [h]; simp
    have HEV : Hid (errV a (prE n p n q) = .nilIface) := by show _ = _; rw [h]; rfl
    generalize surF p q n = d at *
    clear hp hq hpr hqr hsum h hE
    go_enter Tryd.func13, Tryd.ntmps13
    go_wp2_with fail
    refine hPE.mono ?_
    clear hPE
    rintro e w1 ⟨rfl, rfl⟩
    go_wp2_with fail
    refine hSu.mono ?_
    clear hSu
    rintro e w2 ⟨g, rfl, hF⟩
    have HF := Hid.mk' hF
    clear hF
    go_wp2_with fail
    go_loopw [7, 20] (fun s t wr => ∃ k : Nat, k ≤ n ∧ s = .int .i64 (sumN d k) ∧ t = .int .i64 (k : Int) ∧ wr = w2 ∧ Hid (∀ j, j ≤ k → 0 ≤ sumN d j)) (fun _ t _ => n - (intOf t).toNat)
    case atStart => exact ⟨0, Nat.zero_le _, rfl, rfl, rfl, fun j hj => by obtain rfl : j = 0 := by omega
                                                                           exact Int.le_refl _⟩
    case round =>
      obtain ⟨k, hk, rfl, rfl, rfl, HK⟩ := hrel
      rcases Nat.lt_or_ge k n with h1 | h1
      · have hkI : (k : Int) < (n : Int) := by omega
        have hk0 : (0 : Int) ≤ (k : Int) := by omega
        have hc := HF.out.row k h1
        rw [Nat.zero_add] at hc
        have hr := HRNG.out k h1
        have hs := HSB.out k hk
        have HS1 : Hid (sumN d (k + 1) = sumN d k + d k) := rfl
        have HDIP : Hid (sumN d (k + 1) < 0 → dipN d n = true) := fun hh => dipN_at hh h1
        have HK0 := HK.out
        obtain ⟨s1, hs1⟩ : ∃ s1, s1 = sumN d (k + 1) := ⟨_, rfl⟩
        obtain ⟨s0, hs0⟩ : ∃ s0, s0 = sumN d k := ⟨_, rfl⟩
        obtain ⟨x, hx⟩ : ∃ x, x = d k := ⟨_, rfl⟩
        have HN : Hid (0 ≤ s1 → ∀ j, j ≤ k + 1 → 0 ≤ sumN d j) := fun hh j hj => by
          rcases Nat.lt_or_ge j (k + 1) with h' | h'
          · exact HK.out j (by omega)
          · obtain rfl : j = k + 1 := by omega
            rw [← hs1]; exact hh
        have HE1 := Hid.mk' hs1
        rw [← hs1] at HDIP
        rw [← hs1, ← hs0, ← hx] at HS1
        rw [← hs0] at hs
        rw [← hs0]
        rw [← hx] at hc hr
        obtain rfl := HS1.out
        clear hs0 hx hs1 HS1
        by_cases hneg : s0 + x < 0
        · have HD := Hid.mk' (HDIP.out hneg)
          go_wp2_with fail
          go_ret2
          exact ⟨by rw [HV.out, HEV.out, HD.out]; rfl, HF.out.below⟩
        · have HNN := Hid.mk' (HN.out (by omega))
          go_wp2_with fail
          exact ⟨⟨k + 1, h1, by rw [HE1.out], by go_num, trivial, HNN.out⟩, by simp [intOf]; omega⟩
      · obtain rfl : k = n := by omega
        have hkI : ¬ (k : Int) < (k : Int) := by omega
        have HD : Hid (dipN d k = false) := dipN_of HK.out
        clear HSB HRNG
        generalize sumN d k = sk at *
        go_wp2_with fail
        go_ret2
        exact ⟨by rw [HV.out, HEV.out, HD.out]; rfl, HF.out.below⟩
  · have h0 := h
    obtain ⟨e, he⟩ : ∃ e, errV a (prE n p m q) = e := ⟨_, rfl⟩
    obtain ⟨t, x, rfl⟩ : ∃ t x, e = .iface t x := by rw [← he, errV_pos a h]; exact ⟨_, _, rfl⟩
    rw [he] at hPE
    have HV : Hid ((decide (prE n p m q = 0) && !dipN (surF p q n) n) = false) := by show _ = _; rw [decide_eq_false h]; rfl
    have HE2 := Hid.mk' he
    obtain ⟨pad, pcap, rfl⟩ := hp.form
    obtain ⟨qad, qcap, rfl⟩ := hq.form
    clear hp hq h h0 he hE
    go_enter Tryd.func13, Tryd.ntmps13
    go_wp2_with fail
    refine hPE.mono ?_
    clear hPE
    rintro e w1 ⟨rfl, rfl⟩
    go_wp2_with fail
    go_ret2
    exact ⟨by rw [HV.out, HE2.out]; rfl, Below.refl _ _⟩
end Go.Proofs.YtgaamcmjonngjaaDoor

/- Square tables: the program's tableError. -/
namespace Go.Proofs.YtgaamcmjonngjaaDoor
open Go.RowKit

/-- Is there one of n? -/
def anyO (p : Nat → Bool) : Nat → Bool
  | 0 => false
  | n + 1 => anyO p n || p n
theorem anyO_at {p : Nat → Bool} : ∀ {n k : Nat}, p k = true → k < n → anyO p n = true
  | 0, k, _, h => by omega
  | n + 1, k, hk, h => by
    show (anyO p n || _) = true
    rcases Nat.lt_or_ge k n with h' | h'
    · rw [anyO_at hk h', Bool.true_or]
    · obtain rfl : k = n := by omega
      rw [hk, Bool.or_true]
theorem anyO_no {p : Nat → Bool} : ∀ {n : Nat}, anyO p n = false → ∀ k, k < n → p k = false
  | 0, _, k, h => by omega
  | n + 1, hn, k, h => by
    have h1 : (anyO p n || p n) = false := hn
    rw [Bool.or_eq_false_iff] at h1
    rcases Nat.lt_or_ge k n with h' | h'
    · exact anyO_no h1.1 k h'
    · obtain rfl : k = n := by omega
      exact h1.2
theorem anyO_none {p : Nat → Bool} : ∀ {n : Nat}, (∀ k, k < n → p k = false) → anyO p n = false
  | 0, _ => rfl
  | n + 1, h => by show (anyO p n || p n) = false; rw [anyO_none (fun k hk => h k (by omega)), h n (by omega)]; rfl
/-- What a column sums to. -/
def colN (zs : Nat → Nat → Int) (i : Nat) (R : Nat) : Int := sumN (fun r => zs r i) R
def rwB (R : Nat) (ns : Nat → Nat) (zs : Nat → Nat → Int) (i : Nat) : Bool := decide (ns i ≠ R) || noN (zs i) (ns i)
def smB (R : Nat) (zs : Nat → Nat → Int) (i : Nat) : Bool := decide (sumN (zs i) R ≠ sumN (zs 0) R) || decide (colN zs i R ≠ sumN (zs 0) R)
/-- What is wrong with a table. -/
def sqE (R : Nat) (ns : Nat → Nat) (zs : Nat → Nat → Int) : Nat :=
  if 8 < R then 2 else if R = 0 then 3 else if anyO (rwB R ns zs) R = true then 3 else if anyO (smB R zs) R = true then 3 else 0
/-- A right one. -/
structure SqOk (R : Nat) (ns : Nat → Nat) (zs : Nat → Nat → Int) : Prop where
  pos : 0 < R
  le : R ≤ 8
  len : ∀ i, i < R → ns i = R
  num : ∀ i, i < R → ∀ k, k < R → 0 ≤ zs i k ∧ zs i k ≤ 4096
  row : ∀ i, i < R → sumN (zs i) R = sumN (zs 0) R
  col : ∀ i, i < R → colN zs i R = sumN (zs 0) R
theorem rwB_no {R : Nat} {ns : Nat → Nat} {zs : Nat → Nat → Int} {i : Nat} (h : rwB R ns zs i = false) : ns i = R ∧ ∀ k, k < R → 0 ≤ zs i k ∧ zs i k ≤ 4096 := by
  unfold rwB at h
  rw [Bool.or_eq_false_iff] at h
  have e : ns i = R := by have := h.1; simpa using this
  exact ⟨e, fun k hk => noN_none h.2 k (by omega)⟩
theorem smB_no {R : Nat} {zs : Nat → Nat → Int} {i : Nat} (h : smB R zs i = false) : sumN (zs i) R = sumN (zs 0) R ∧ colN zs i R = sumN (zs 0) R := by
  unfold smB at h
  rw [Bool.or_eq_false_iff] at h
  exact ⟨by have := h.1; simpa using this, by have := h.2; simpa using this⟩
theorem sqE_ok {R : Nat} {ns : Nat → Nat} {zs : Nat → Nat → Int} (h : sqE R ns zs = 0) : SqOk R ns zs := by
  unfold sqE at h
  by_cases h1 : 8 < R
  · rw [if_pos h1] at h; cases h
  · rw [if_neg h1] at h
    by_cases h2 : R = 0
    · rw [if_pos h2] at h; cases h
    · rw [if_neg h2] at h
      cases h3 : anyO (rwB R ns zs) R with
      | true => rw [h3, if_pos rfl] at h; cases h
      | false =>
        rw [h3, if_neg (by decide)] at h
        cases h4 : anyO (smB R zs) R with
        | true => rw [h4, if_pos rfl] at h; cases h
        | false =>
          exact ⟨by omega, by omega, fun i hi => (rwB_no (anyO_no h3 i hi)).1, fun i hi => (rwB_no (anyO_no h3 i hi)).2, fun i hi => (smB_no (anyO_no h4 i hi)).1, fun i hi => (smB_no (anyO_no h4 i hi)).2⟩
theorem sqE_le (R : Nat) (ns : Nat → Nat) (zs : Nat → Nat → Int) : sqE R ns zs ≤ 8 := by
  unfold sqE
  split
  · omega
  · split
    · omega
    · split
      · omega
      · split <;> omega
theorem TabAt.row {w : World} {ad : Option Addr} {R cap : Nat} {vs : Nat → Value} {ns : Nat → Nat} {zs : Nat → Nat → Int} (h : TabAt w (.slice ad R cap) R vs ns zs) {i : Nat} (hi : i < R) : ∃ b o, ad = some ⟨b, o, none⟩ ∧ w.cell? ⟨b, o + i, none⟩ = some (vs i) ∧ NumsAt w (vs i) (ns i) (zs i) := by
  rcases h with ⟨_, _, h1', h2'⟩ | ⟨b, o, c, h1', _, h2⟩
  · omega
  · simp only [Value.slice.injEq, true_and] at h1'
    exact ⟨b, o, h1'.1, h2 i hi⟩

set_option maxRecDepth 100000 in
set_option maxHeartbeats 2000000 in
theorem columnTotal_any (v : Value) (R : Nat) (vs : Nat → Value) (ns : Nat → Nat) (zs : Nat → Nat → Int) (w : World) (h : TabAt w v R vs ns zs) (hR : R ≤ 8) (hn : ∀ i, i < R → ns i = R) (hz : ∀ i, i < R → ∀ k, k < R → 0 ≤ zs i k ∧ zs i k ≤ 4096) (c : Nat) (hc : c < R) :
    Calls Tryd.prog 87 #[v, .int .i64 c] w fun e w' => e = .returned (.int .i64 (colN zs c R)) ∧ w' = w := by
  obtain ⟨ad, cap, rfl⟩ := h.form
  have HT := Hid.mk' h
  have HN := Hid.mk' hn
  have HZ := Hid.mk' hz
  have HSB : Hid (∀ k, k ≤ R → 0 ≤ sumN (fun r => zs r c) k ∧ sumN (fun r => zs r c) k ≤ (k : Int) * 4096) := fun k hk => sum_right (fun i hi => hz i (by omega) c hc)
  clear h hn hz
  go_enter Tryd.func87, Tryd.ntmps87
  go_wp2_with fail
  go_loop [5, 10] (fun s t => ∃ k : Nat, k ≤ R ∧ s = .int .i64 (sumN (fun r => zs r c) k) ∧ t = .int .i64 (k : Int)) (fun _ t => R - (intOf t).toNat)
  case atStart => exact ⟨0, Nat.zero_le _, rfl, rfl⟩
  case round =>
    obtain ⟨k, hk, rfl, rfl⟩ := hrel
    have hs := HSB.out k hk
    rcases Nat.lt_or_ge k R with h1 | h1
    · have hkI : (k : Int) < (R : Int) := by omega
      have hk0 : (0 : Int) ≤ (k : Int) := by omega
      obtain ⟨b, o, rfl, hcv, hnum⟩ := HT.out.row h1
      rw [HN.out k h1] at hnum
      have hx := HZ.out k h1 c hc
      have HS1 : Hid (sumN (fun r => zs r c) (k + 1) = sumN (fun r => zs r c) k + zs k c) := rfl
      rcases hnum with ⟨_, _, _, h0⟩ | ⟨rb, ro, rc, hv, _, hrow⟩
      · omega
      have hcx := hrow c hc
      rw [hv] at hcv
      have hcI : (c : Int) < (R : Int) := by omega
      have hc0 : (0 : Int) ≤ (c : Int) := by omega
      clear hv hrow
      generalize zs k c = x at *
      obtain ⟨s, hs'⟩ : ∃ s, s = sumN (fun r => zs r c) k := ⟨_, rfl⟩
      rw [← hs'] at hs HS1 ⊢
      clear hs'
      go_wp2_with fail
      exact ⟨⟨k + 1, h1, by rw [HS1.out], by go_num⟩, by simp [intOf]; omega⟩
    · obtain rfl : k = R := by omega
      have hkI : ¬ (k : Int) < (k : Int) := by omega
      go_wp2_with fail
      go_ret
      exact ⟨rfl, rfl⟩

set_option maxRecDepth 100000 in
set_option maxHeartbeats 4000000 in
theorem tableError_any (a : Nat → Addr) (v : Value) (R : Nat) (vs : Nat → Value) (ns : Nat → Nat) (zs : Nat → Nat → Int) (w : World) (hE : Errs w a) (h : TabAt w v R vs ns zs) (hR : R ≤ 1000) (hns : ∀ i, i < R → ns i ≤ 100000) :
    Calls Tryd.prog 50 #[v] w fun e w' => e = .returned (errV a (sqE R ns zs)) ∧ w' = w := by
  have e1 := hE.c1
  have e2 := hE.c2
  obtain ⟨ad, cap, rfl⟩ := h.form
  have HT := Hid.mk' h
  have HNS := Hid.mk' hns
  have hEV2 : errV a 2 = .iface 227 (.pointer (some (a 1))) := rfl
  have hEV3 : errV a 3 = .iface 227 (.pointer (some (a 2))) := rfl
  by_cases h1 : 8 < R
  · have HV : Hid (errV a (sqE R ns zs) = .iface 227 (.pointer (some (a 1)))) := by show _ = _; unfold sqE; rw [if_pos h1]; rfl
    have hI : (8 : Int) < (R : Int) := by omega
    clear h hns h1 hE hEV2 hEV3
    go_enter Tryd.func50, Tryd.ntmps50
    go_wp2_with fail
    go_ret
    exact ⟨by rw [HV.out]; rfl, rfl⟩
  · have hI : ¬ (8 : Int) < (R : Int) := by omega
    by_cases h2 : R = 0
    · have HV : Hid (errV a (sqE R ns zs) = .iface 227 (.pointer (some (a 2)))) := by show _ = _; unfold sqE; rw [if_neg h1, if_pos h2]; rfl
      have hI2 : ((R : Int) == 0) = true := by simp; exact h2
      clear h hns h1 h2 hE hEV2 hEV3
      go_enter Tryd.func50, Tryd.ntmps50
      go_wp2_with fail
      go_ret
      exact ⟨by rw [HV.out]; rfl, rfl⟩
    · have hI2 : ((R : Int) == 0) = false := by simp; exact h2
      have HS0 : Hid (sqE R ns zs = if anyO (rwB R ns zs) R = true then 3 else if anyO (smB R zs) R = true then 3 else 0) := by show _ = _; unfold sqE; rw [if_neg h1, if_neg h2]
      have hR8 : R ≤ 8 ∧ 0 < R := by omega
      clear h hns h1 h2 hE hEV2 hEV3
      go_enter Tryd.func50, Tryd.ntmps50
      go_wp2_with fail
      go_loop [18] (fun t => ∃ k : Nat, k ≤ R ∧ t = .int .i64 (k : Int) ∧ Hid (∀ j, j < k → rwB R ns zs j = false)) (fun t => R - (intOf t).toNat)
      case atStart => exact ⟨0, Nat.zero_le _, rfl, fun j hj => by omega⟩
      case round =>
        obtain ⟨k, hk, rfl, HK⟩ := hrel
        rcases Nat.lt_or_ge k R with h1 | h1
        · have hkI : (k : Int) < (R : Int) := by omega
          have hk0 : (0 : Int) ≤ (k : Int) := by omega
          obtain ⟨b, o, rfl, hcv, hnum⟩ := HT.out.row h1
          have hcf := ContainsFunc_num (vs k) (ns k) (zs k) w hnum (by have := HNS.out k h1; omega)
          obtain ⟨rad, rcap, hv⟩ := hnum.form
          rw [hv] at hcv hcf
          have HBAD : Hid (rwB R ns zs k = true → errV a (sqE R ns zs) = .iface 227 (.pointer (some (a 2)))) := fun hb => by rw [HS0.out, if_pos (anyO_at hb h1)]; rfl
          have HGO : Hid (rwB R ns zs k = false → ∀ j, j < k + 1 → rwB R ns zs j = false) := fun hb j hj => by
            rcases Nat.lt_or_ge j k with h' | h'
            · exact HK.out j h'
            · obtain rfl : j = k := by omega
              exact hb
          have HRW : Hid (rwB R ns zs k = (decide (ns k ≠ R) || noN (zs k) (ns k))) := rfl
          clear hnum hv
          generalize ns k = nk at *
          by_cases hlen : nk = R
          · have k2 : ((nk : Int) != (R : Int)) = false := by simp; omega
            cases hno : noN (zs k) nk with
            | true =>
              have HV := Hid.mk' (HBAD.out (by rw [HRW.out, hno, Bool.or_true]))
              rw [hno] at hcf
              clear hno hlen
              go_wp2_with fail
              refine hcf.mono ?_
              clear hcf
              rintro e w2 ⟨rfl, rfl⟩
              go_wp2_with fail
              go_ret
              exact ⟨by rw [HV.out]; rfl, rfl⟩
            | false =>
              have HN := Hid.mk' (HGO.out (by rw [HRW.out, hno]; simp; exact hlen))
              rw [hno] at hcf
              clear hno hlen
              go_wp2_with fail
              refine hcf.mono ?_
              clear hcf
              rintro e w2 ⟨rfl, hw2⟩
              rw [hw2]
              clear hw2
              go_wp2_with fail
              exact ⟨⟨k + 1, h1, by go_num, HN.out⟩, by simp [intOf]; omega⟩
          · have HV := Hid.mk' (HBAD.out (by rw [HRW.out]; simp; exact Or.inl hlen))
            have k2 : ((nk : Int) != (R : Int)) = true := by simp; omega
            clear hlen hcf
            go_wp2_with fail
            go_ret
            exact ⟨by rw [HV.out]; rfl, rfl⟩
        · obtain rfl : k = R := by omega
          have hkI : ¬ (k : Int) < (k : Int) := by omega
          have HS1 : Hid (sqE k ns zs = if anyO (smB k zs) k = true then 3 else 0) := by show _ = _; rw [HS0.out, anyO_none HK.out, if_neg (by decide)]
          have HLN := Hid.mk' (fun i (hi : i < k) => (rwB_no (HK.out i hi)).1)
          have HNM := Hid.mk' (fun i (hi : i < k) => (rwB_no (HK.out i hi)).2)
          have HCT := Hid.mk' (fun c (hc : c < k) => columnTotal_any (.slice ad k cap) k vs ns zs w HT.out hR8.1 HLN.out HNM.out c hc)
          have HTT := Hid.mk' (fun c (hc : c < k) => total_right (vs c) k (zs c) w (by have := (HT.out.row hc); obtain ⟨_, _, _, _, hx⟩ := this; rw [HLN.out c hc] at hx; exact hx) hR8.2 (by omega) (HNM.out c hc))
          obtain ⟨b, o, rfl, hcv, hnum⟩ := HT.out.row hR8.2
          have ht0 := HTT.out 0 hR8.2
          obtain ⟨rad, rcap, hv⟩ := hnum.form
          rw [HLN.out 0 hR8.2] at hv
          rw [hv] at hcv ht0
          rw [Nat.add_zero] at hcv
          have hk00 : (0 : Int) < (k : Int) := by omega
          clear HS0 HK HNS hnum hv
          go_wp2_with fail
          refine ht0.mono ?_
          clear ht0
          rintro e w2 ⟨rfl, hw2⟩
          rw [hw2]
          clear hw2 hcv
          obtain ⟨T, hT⟩ : ∃ T, T = sumN (zs 0) k := ⟨_, rfl⟩
          rw [← hT]
          have HTQ := Hid.mk' hT
          clear hT
          go_wp2_with fail
          go_loop [39] (fun t => ∃ j : Nat, j ≤ k ∧ t = .int .i64 (j : Int) ∧ Hid (∀ i, i < j → smB k zs i = false)) (fun t => k - (intOf t).toNat)
          case atStart => exact ⟨0, Nat.zero_le _, rfl, fun j hj => by omega⟩
          case round =>
            obtain ⟨j, hj, rfl, HJ⟩ := hrel
            rcases Nat.lt_or_ge j k with h2 | h2
            · have hjI : (j : Int) < (k : Int) := by omega
              have hj0 : (0 : Int) ≤ (j : Int) := by omega
              obtain ⟨b', o', e, hcv, hnum⟩ := HT.out.row h2
              obtain ⟨rfl, rfl⟩ : b = b' ∧ o = o' := by simpa using e
              have htj := HTT.out j h2
              have hcj := HCT.out j h2
              obtain ⟨rad, rcap, hv⟩ := hnum.form
              rw [HLN.out j h2] at hv
              rw [hv] at hcv htj
              have HBAD : Hid (smB k zs j = true → errV a (sqE k ns zs) = .iface 227 (.pointer (some (a 2)))) := fun hb => by rw [HS1.out, if_pos (anyO_at hb h2)]; rfl
              have HGO : Hid (smB k zs j = false → ∀ i, i < j + 1 → smB k zs i = false) := fun hb i hi => by
                rcases Nat.lt_or_ge i j with h' | h'
                · exact HJ.out i h'
                · obtain rfl : i = j := by omega
                  exact hb
              have HSM : Hid (smB k zs j = (decide (sumN (zs j) k ≠ T) || decide (colN zs j k ≠ T))) := by show _ = _; rw [HTQ.out]; rfl
              clear hnum hv e
              generalize sumN (zs j) k = x at *
              generalize colN zs j k = y at *
              by_cases hx : x = T
              · have k1 : (x != T) = false := by simp; exact hx
                by_cases hy : y = T
                · have HN := Hid.mk' (HGO.out (by rw [HSM.out]; simp; exact ⟨hx, hy⟩))
                  have k2 : (y != T) = false := by simp; exact hy
                  clear hx hy
                  go_wp2_with fail
                  refine htj.mono ?_
                  clear htj
                  rintro e w2 ⟨rfl, hw2⟩
                  rw [hw2]
                  clear hw2
                  go_wp2_with fail
                  refine hcj.mono ?_
                  clear hcj
                  rintro e w2 ⟨rfl, hw2⟩
                  rw [hw2]
                  clear hw2
                  go_wp2_with fail
                  exact ⟨⟨j + 1, h2, by go_num, HN.out⟩, by simp [intOf]; omega⟩
                · have HV := Hid.mk' (HBAD.out (by rw [HSM.out]; simp; exact Or.inr hy))
                  have k2 : (y != T) = true := by simp; exact hy
                  clear hx hy
                  go_wp2_with fail
                  refine htj.mono ?_
                  clear htj
                  rintro e w2 ⟨rfl, rfl⟩
                  go_wp2_with fail
                  refine hcj.mono ?_
                  clear hcj
                  rintro e w2 ⟨rfl, rfl⟩
                  go_wp2_with fail
                  go_ret
                  exact ⟨by rw [HV.out]; rfl, rfl⟩
              · have HV := Hid.mk' (HBAD.out (by rw [HSM.out]; simp; exact Or.inl hx))
                have k1 : (x != T) = true := by simp; exact hx
                clear hx hcj
                go_wp2_with fail
                refine htj.mono ?_
                clear htj
                rintro e w2 ⟨rfl, rfl⟩
                go_wp2_with fail
                go_ret
                exact ⟨by rw [HV.out]; rfl, rfl⟩
            · obtain rfl : j = k := by omega
              have hjI : ¬ (j : Int) < (j : Int) := by omega
              have HV : Hid (errV a (sqE j ns zs) = .nilIface) := by show _ = _; rw [HS1.out, anyO_none HJ.out, if_neg (by decide)]; rfl
              go_wp2_with fail
              go_ret
              exact ⟨by rw [HV.out]; rfl, rfl⟩
end Go.Proofs.YtgaamcmjonngjaaDoor

/- The H-theorem: what a table spreads is majorized. -/
namespace Go.Proofs.YtgaamcmjonngjaaDoor

theorem sumN_add (f g : Nat → Int) : ∀ n, sumN (fun k => f k + g k) n = sumN f n + sumN g n
  | 0 => rfl
  | n + 1 => by
    show sumN (fun k => f k + g k) n + (f n + g n) = (sumN f n + f n) + (sumN g n + g n)
    rw [sumN_add f g n]; omega
theorem sumN_mul (c : Int) (f : Nat → Int) : ∀ n, sumN (fun k => c * f k) n = c * sumN f n
  | 0 => by simp [sumN]
  | n + 1 => by show _ + _ = c * (_ + _); rw [sumN_mul c f n, Int.mul_add]
theorem sumN_mulr (c : Int) (f : Nat → Int) : ∀ n, sumN (fun k => f k * c) n = sumN f n * c
  | 0 => by simp [sumN]
  | n + 1 => by show _ + _ = (_ + _) * c; rw [sumN_mulr c f n, Int.add_mul]
theorem sumN_const (c : Int) : ∀ n : Nat, sumN (fun _ => c) n = (n : Int) * c
  | 0 => by simp [sumN]
  | n + 1 => by
    show sumN (fun _ => c) n + c = _
    rw [sumN_const c n, show ((n + 1 : Nat) : Int) = (n : Int) + 1 by omega, Int.add_mul, Int.one_mul]
theorem sumN_swap (f : Nat → Nat → Int) (n : Nat) : ∀ k, sumN (fun j => sumN (fun c => f j c) n) k = sumN (fun c => sumN (fun j => f j c) k) n
  | 0 => by
    show 0 = sumN (fun _ => 0) n
    rw [sumN_const]; simp
  | k + 1 => by
    show sumN (fun j => sumN (fun c => f j c) n) k + sumN (fun c => f k c) n = sumN (fun c => sumN (fun j => f j c) k + f k c) n
    rw [sumN_swap f n k, sumN_add]
theorem sum_map_list (f : Nat → Int) : ∀ D : List Nat, sumN (fun j => f (D.getD j 0)) D.length = (D.map f).sum := fun D => by
  have h := sum_rowL (fun j => f (D.getD j 0)) D.length
  rw [← h]
  congr 1
  refine List.ext_getElem (by simp [rowL]) (fun i h1 h2 => ?_)
  simp [rowL] at h1
  simp [rowL, List.getD, h1]
theorem sum_perm {D : List Nat} {n : Nat} (h : D.Perm (List.range n)) (f : Nat → Int) : sumN (fun j => f (D.getD j 0)) n = sumN f n := by
  have hl : D.length = n := by rw [h.length_eq, List.length_range]
  have h1 := sum_map_list f D
  rw [hl] at h1
  rw [h1, sumN_perm (h.map f)]
  exact sum_rowL f n
theorem fall_places (z : Nat → Int) (n : Nat) : ∃ D : List Nat, D.Perm (List.range n) ∧ D.map z = fallL z n := by
  obtain ⟨D, _, h1, h2⟩ := sorted_places n z
  exact ⟨D, h1, h2⟩
/-- A part of each of falling numbers is at most as much of the first ones. -/
theorem part_le {n k : Nat} {x W : Nat → Int} {S : Int} (hk : k ≤ n) (hx : ∀ j, j < n → 0 ≤ x j ∧ x j ≤ S) (hW : ∀ i j, i ≤ j → j < n → W j ≤ W i) (hs : sumN x n = (k : Int) * S) : sumN (fun j => x j * W j) n ≤ S * sumN W k := by
  rcases Nat.eq_zero_or_pos k with h0 | h0
  · subst h0
    have hz : ∀ j, j < n → x j = 0 := by
      have h1 : sumN x n = 0 := by rw [hs]; simp
      intro j hj
      have h2 := sumN_ge (z := x) (n := n) (fun i hi => (hx i hi).1) hj
      have h3 := (hx j hj).1
      omega
    rw [sumN_congr (z' := fun _ => 0) (fun j hj => by rw [hz j hj]; simp), sumN_const]
    simp [sumN]
  · obtain ⟨t, ht⟩ : ∃ t, t = W (k - 1) := ⟨_, rfl⟩
    have hind : ∀ m, m ≤ n → sumN (fun j => if j < k then S * W j + t * (x j - S) else t * x j) m = S * sumN W (min m k) + t * (sumN x m - S * (min m k : Nat)) := fun m => by
      induction m with
      | zero => intro _; simp [sumN]
      | succ m ih =>
        intro hm
        have := ih (by omega)
        show sumN _ m + (if m < k then S * W m + t * (x m - S) else t * x m) = _
        rw [this]
        by_cases hmk : m < k
        · rw [if_pos hmk, show min (m + 1) k = m + 1 by omega, show min m k = m by omega]
          show _ = S * (sumN W m + W m) + t * (sumN x m + x m - S * ((m + 1 : Nat) : Int))
          rw [show ((m + 1 : Nat) : Int) = (m : Int) + 1 by omega, Int.mul_add S, Int.mul_add S, Int.mul_one, Int.mul_sub t, Int.mul_sub t, Int.mul_sub t, Int.mul_add t, Int.mul_add t]
          omega
        · rw [if_neg hmk, show min (m + 1) k = k by omega, show min m k = k by omega]
          show _ = S * sumN W k + t * (sumN x m + x m - S * (k : Int))
          rw [Int.mul_sub t, Int.mul_sub t, Int.mul_add t]
          omega
    have h1 : sumN (fun j => x j * W j) n ≤ sumN (fun j => if j < k then S * W j + t * (x j - S) else t * x j) n := sumN_le fun j hj => by
      have a := hx j hj
      by_cases hjk : j < k
      · simp only [if_pos hjk]
        have b := hW j (k - 1) (by omega) (by omega)
        rw [← ht] at b
        have c : 0 ≤ (S - x j) * (W j - t) := Int.mul_nonneg (by omega) (by omega)
        rw [Int.sub_mul, Int.mul_sub, Int.mul_sub] at c
        rw [Int.mul_sub t, Int.mul_comm t (x j), Int.mul_comm t S]
        omega
      · simp only [if_neg hjk]
        have b := hW (k - 1) j (by omega) hj
        rw [← ht] at b
        have c : 0 ≤ x j * (t - W j) := Int.mul_nonneg a.1 (by omega)
        rw [Int.mul_sub, Int.mul_comm (x j) t] at c
        omega
    have h2 := hind n (Nat.le_refl _)
    rw [show min n k = k by omega, hs, Int.mul_comm (k : Int) S, Int.sub_self, Int.mul_zero, Int.add_zero] at h2
    omega
/-- What a table makes of weights. -/
def sprF (R : Nat) (zs : Nat → Nat → Int) (w : Nat → Int) (i : Nat) : Int := sumN (fun k => zs i k * w k) R
theorem spread_top {R : Nat} {ns : Nat → Nat} {zs : Nat → Nat → Int} {w : Nat → Int} (h : SqOk R ns zs) {k : Nat} (hk : k ≤ R) : sumN (atF (fallL (sprF R zs w) R)) k ≤ sumN (zs 0) R * sumN (atF (fallL w R)) k := by
  obtain ⟨D, hD, hDm⟩ := fall_places (sprF R zs w) R
  obtain ⟨E, hE, hEm⟩ := fall_places w R
  have e1 : sumN (atF (fallL (sprF R zs w) R)) k = sumN (fun j => sumN (fun c => zs (D.getD j 0) c * w c) R) k := sumN_congr fun j hj => by
    rw [← fall_at hDm (show j < R by omega)]; rfl
  have e2 := sumN_swap (fun j c => zs (D.getD j 0) c * w c) R k
  have e3 : sumN (fun c => sumN (fun j => zs (D.getD j 0) c * w c) k) R = sumN (fun c => sumN (fun j => zs (D.getD j 0) c) k * w c) R := sumN_congr fun c _ => sumN_mulr _ _ _
  have e4 := sum_perm hE (fun c => sumN (fun j => zs (D.getD j 0) c) k * w c)
  have e5 : sumN (fun j => sumN (fun i => zs (D.getD i 0) (E.getD j 0)) k * w (E.getD j 0)) R = sumN (fun j => sumN (fun i => zs (D.getD i 0) (E.getD j 0)) k * atF (fallL w R) j) R := sumN_congr fun j hj => by rw [fall_at hEm hj]
  have hx : ∀ j, j < R → 0 ≤ sumN (fun i => zs (D.getD i 0) (E.getD j 0)) k ∧ sumN (fun i => zs (D.getD i 0) (E.getD j 0)) k ≤ sumN (zs 0) R := fun j hj => by
    have hc := perm_lt hE hj
    have hp : ∀ i, i < R → 0 ≤ zs (D.getD i 0) (E.getD j 0) := fun i hi => (h.num _ (perm_lt hD hi) _ hc).1
    refine ⟨sumN_nonneg fun i hi => hp i (by omega), ?_⟩
    have h1 := sumN_mono (z := fun i => zs (D.getD i 0) (E.getD j 0)) (k := k) (n := R) hp hk
    have h2 := sum_perm hD (fun r => zs r (E.getD j 0))
    have h3 := h.col _ hc
    unfold colN at h3
    omega
  have hs : sumN (fun j => sumN (fun i => zs (D.getD i 0) (E.getD j 0)) k) R = (k : Int) * sumN (zs 0) R := by
    rw [sum_perm hE (fun c => sumN (fun i => zs (D.getD i 0) c) k), ← sumN_swap (fun i c => zs (D.getD i 0) c) R k, sumN_congr (z' := fun _ => sumN (zs 0) R) (fun i hi => ?_), sumN_const]
    exact h.row _ (perm_lt hD (show i < R by omega))
  have hfin := part_le hk hx (fun i j hij hj => atF_down (fallL_down w R) hij (by rw [fallL_length]; exact hj)) hs
  rw [e1, e2, e3, ← e4, e5]
  exact hfin
theorem fall_scale {S : Int} (hS : 0 ≤ S) (w : Nat → Int) (n : Nat) {j : Nat} (hj : j < n) : atF (fallL (fun i => w i * S) n) j = atF (fallL w n) j * S := by
  obtain ⟨D, hD, hDm⟩ := fall_places w n
  have hm : D.map (fun i => w i * S) = fallL (fun i => w i * S) n := fall_sorted _ n D hD fun i k hik hk => by
    have h1 := atF_down (fallL_down w n) (i := i) (j := k) (by omega) (by rw [fallL_length]; exact hk)
    rw [← fall_at hDm hk, ← fall_at hDm (show i < n by omega)] at h1
    exact Int.mul_le_mul_of_nonneg_right h1 hS
  rw [← fall_at hm hj, ← fall_at hDm hj]
/-- What is spread is majorized. -/
theorem spread_below {R : Nat} {ns : Nat → Nat} {zs : Nat → Nat → Int} {w : Nat → Int} (h : SqOk R ns zs) : dipN (surF (fun i => w i * sumN (zs 0) R) (sprF R zs w) R) R = false := by
  have hS : 0 ≤ sumN (zs 0) R := sumN_nonneg fun i hi => (h.num 0 h.pos i hi).1
  refine dipN_of fun k hk => ?_
  rw [sur_sum]
  have h1 := spread_top (w := w) h hk
  have h2 : sumN (atF (fallL (fun i => w i * sumN (zs 0) R) R)) k = sumN (zs 0) R * sumN (atF (fallL w R)) k := by
    rw [sumN_congr (z' := fun j => atF (fallL w R) j * sumN (zs 0) R) (fun j hj => fall_scale hS w R (by omega)), sumN_mulr, Int.mul_comm]
  omega
theorem sprF_bnd {R : Nat} {ns : Nat → Nat} {zs : Nat → Nat → Int} {w : Nat → Int} (h : SqOk R ns zs) (hw : ∀ k, k < R → 0 ≤ w k ∧ w k ≤ 4096) {i : Nat} (hi : i < R) : ∀ k, k ≤ R → 0 ≤ sumN (fun k => zs i k * w k) k ∧ sumN (fun k => zs i k * w k) k ≤ (k : Int) * 16777216
  | 0, _ => by simp [sumN]
  | k + 1, hk => by
    obtain ⟨h1, h2⟩ := sprF_bnd h hw hi k (by omega)
    have a := h.num i hi k (by omega)
    have b := hw k (by omega)
    have c : 0 ≤ zs i k * w k := Int.mul_nonneg a.1 b.1
    have d : zs i k * w k ≤ 4096 * 4096 := Int.mul_le_mul a.2 b.2 b.1 (by decide)
    show 0 ≤ sumN (fun k => zs i k * w k) k + zs i k * w k ∧ sumN (fun k => zs i k * w k) k + zs i k * w k ≤ _
    rw [show ((k + 1 : Nat) : Int) * 16777216 = (k : Int) * 16777216 + 16777216 by omega]
    omega
end Go.Proofs.YtgaamcmjonngjaaDoor
