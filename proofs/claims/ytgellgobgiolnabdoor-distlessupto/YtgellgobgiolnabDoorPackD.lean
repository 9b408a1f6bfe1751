/- dist.Given. -/
import Derived.Test.YtgellgobgiolnabDoorPackC
import Derived.Test.YtgellgobgiolnabDoorPackB
import Derived.Test.YtgellgobgiolnabDoorPackA
import Derived.OwnWalk
import Derived.Test.YtgellgobgiolnabDoorRows
import Derived.Test.YtgellgobgiolnabDoorErrs
import Derived.ChangeSame
import Derived.ChangeVars
import Derived.JoinedOf
import Derived.LaidLaws
import Derived.LaidHandle
import Derived.LaidMore
import Derived.Stop.Joined
import Derived.Test.YtgellgobgiolnabDoorInts
import Derived.Test.YtgellgobgiolnabDoorCards
import Derived.Test.YtgellgobgiolnabDoorTie
import Derived.SevenTiedAt
import Derived.ProofKit
import Derived.OpenShut
import Derived.ChangeOld
import Derived.Lib.SmallJoins
import Derived.Deep.Matrix
import Derived.Deep.DeepHandedRow
import Derived.Deep.DeepWitnessRowRef
namespace Go.Proofs.YtgellgobgiolnabDoor
open Go.RowKit Go.Maps

/-- What a row puts. -/
def givV (ns : Nat → Nat) (zs : Nat → Nat → Int) (x : Int) (i : Nat) : Int := sumN (entV (zs i) (sumN (zs i) (ns i)).toNat x) (ns i)
theorem givV_le {R N : Nat} {ns : Nat → Nat} {zs : Nat → Nat → Int} (h : OkT R ns zs N) (x : Int) {i : Nat} (hi : i < R) : -3200000 ≤ givV ns zs x i ∧ givV ns zs x i ≤ 3200000 := by
  have h1 := h.row hi
  have h2 := h.n6
  have h3 := sumN_bound (f := entV (zs i) (sumN (zs i) (ns i)).toNat x) (B := 200000) (n := ns i) (fun j hj => entV_le x (h.cell hi hj) (by omega))
  have h4 := h.even i hi
  have h5 := h.c16
  have : ((ns i : Nat) : Int) * 200000 ≤ 3200000 := by omega
  unfold givV
  omega

set_option maxRecDepth 100000 in
set_option maxHeartbeats 4000000 in
theorem Given_parts (den : Int) (mb B b o cap R N : Nat) (ns : Nat → Nat) (zs : Nat → Nat → Int) (w : World) (hown : w.ownsMap Tryd.prog 3 (plainElem (H := Unit) Tryd.prog 3) mb 0 (mapOf [])) (hB : w.cell? ⟨B, 0, none⟩ = some (.slice (some ⟨b, o, none⟩) R cap)) (hk : OkT R ns zs N)
    (hr : ∀ i, i < R → ∃ b1 o1 cap1, w.cell? ⟨b, o + i, none⟩ = some (.slice (some ⟨b1, o1, none⟩) (ns 0) cap1) ∧ RowAt w b1 o1 (ns 0) (zs i)) :
    Calls Tryd.prog 39 #[putV den mb, .pointer (some ⟨B, 0, none⟩)] w fun e w' => e = .returned (.tuple #[]) ∧ ∃ l nn, Puts w w' mb (fun x => sumN (givV ns zs x) R) (32 * R) [] 0 l nn := by
  have HP0 : Hid (Puts w w mb (fun x => sumN (givV ns zs x) 0) (32 * 0) [] 0 [] 0) := ⟨hown, List.Pairwise.nil, (fun x => by simp [sumN]), (fun e he => by cases he), by omega, by simp, grown_refl _ _⟩
  have HROW : Hid (∀ (wr : World), w.grownBy wr (some mb) → ∀ i, i < R → ∃ b1 o1 cap1, wr.cell? ⟨b, o + i, none⟩ = some (.slice (some ⟨b1, o1, none⟩) (ns 0) cap1) ∧ RowAt wr b1 o1 (ns 0) (zs i)) := fun wr hg i hi => by
    obtain ⟨b1, o1, cap1, h1, h2⟩ := hr i hi
    exact ⟨b1, o1, cap1, cell_side hown hg h1, h2.beside hown hg⟩
  have HK := Hid.mk' hk
  have hR16 := hk.r16
  clear hown hr hk
  unfold putV
  go_enter Tryd.func39, Tryd.ntmps39
  go_wp2_with fail
  go_loopw [4, 7] (fun _ i wr => ∃ (k nn : Nat) (l : List (Int × Int)), k ≤ R ∧ i = .int .i64 k ∧ Hid (Puts w wr mb (fun x => sumN (givV ns zs x) k) (32 * k) [] 0 l nn)) (fun _ i _ => R - (intOf i).toNat)
  case atStart => exact ⟨0, 0, [], Nat.zero_le _, rfl, HP0⟩
  case round =>
    clear HP0 hB
    obtain ⟨k, nn, l, hk, rfl, HP⟩ := hrel
    rcases Nat.lt_or_ge k R with h1 | h1
    · obtain ⟨b1, o1, cap1, hc, hr1⟩ := HROW.out wr HP.out.grow k h1
      have hkn : (k : Int) < (R : Int) := by omega
      have he := HK.out.even k h1
      have HBD : Hid (∀ x, -100000000 ≤ atL l x ∧ atL l x ≤ 100000000) := fun x => by
        rw [HP.out.val]
        have h3 := sumN_bound (f := givV ns zs x) (B := 3200000) (n := k) (fun i hi => givV_le HK.out x (by omega))
        have : (k : Int) * 3200000 ≤ 51200000 := by omega
        simp only [atL]
        omega
      have hp := putEntropy_some den mb nn b1 o1 cap1 (ns 0) (zs k) l wr HP.out.own HP.out.rise HP.out.keys (fun x => by have := HBD.out x; omega) (by have := HP.out.cnt; omega) hr1 (fun j hj => HK.out.nn k h1 j (by rw [he]; exact hj)) (by have h2 := (HK.out.part h1 (k := ns 0) (by omega)).2; exact h2) (by have := HK.out.c16; omega)
      have HV : Hid (∀ x, sumN (givV ns zs x) (k + 1) = sumN (givV ns zs x) k + sumN (entV (zs k) (sumN (zs k) (ns 0)).toNat x) (ns 0)) := fun x => by
        show sumN (givV ns zs x) k + givV ns zs x k = _
        unfold givV
        rw [he]
      have hc16 := HK.out.c16
      unfold putV at hp
      clear hr1 he
      go_wp2_with fail
      refine hp.mono ?_
      clear hp hc
      rintro e w2 ⟨rfl, l2, nn2, hp2⟩
      have HQ2 := Hid.mk' ((HP.out.trans hp2).congr (d := 32 * (k + 1)) (by omega) (g := fun x => sumN (givV ns zs x) (k + 1)) (fun x => (HV.out x).symm))
      clear hp2
      go_wp2_with fail
      exact ⟨⟨k + 1, nn2, l2, h1, by go_num, HQ2⟩, by simp [intOf]; omega⟩
    · obtain rfl : k = R := by omega
      go_wp2_with fail
      go_end0
      exact ⟨rfl, l, nn, HP.out⟩
theorem giv_bound {R N : Nat} {ns : Nat → Nat} {zs : Nat → Nat → Int} (h : OkT R ns zs N) (x : Int) : -1000000000 ≤ sumN (givV ns zs x) R ∧ sumN (givV ns zs x) R ≤ 1000000000 := by
  have h3 := sumN_bound (f := givV ns zs x) (B := 3200000) (n := R) (fun i hi => givV_le h x hi)
  have h4 := h.r16
  have : (R : Int) * 3200000 ≤ 51200000 := by omega
  omega

set_option maxRecDepth 100000 in
set_option maxHeartbeats 2000000 in
theorem Given_ok (a : Nat → Addr) (ad : Option Addr) (R cap N n : Nat) (vs : Nat → Value) (ns : Nat → Nat) (zs : Nat → Nat → Int) (L : List Int) (w : World) (hE : Errs w a) (h : TabAt w (.slice ad R cap) R vs ns zs) (hR : R ≤ 40) (hs : sumT ns R ≤ 400) (h0 : tabErr R ns zs = 0) (hk : OkT R ns zs N) (hL : L = flatL ns zs R) (hn : L.length = n) (hN : sumN (atF L) n = N) :
    Calls Tryd.prog 18 #[.slice ad R cap] w fun e w' => ∃ dn v', e = .returned (.tuple #[.agg #[.int .i64 dn, v'], .nilIface]) ∧ LogBy w.heap.size N (fun x => sumN (givV ns zs x) R) w' dn v' ∧ Below w.heap.size w w' := by
  obtain ⟨_, _, _, hok, hn256⟩ := tabErr_ok h0
  rw [← hL, hn] at hok hn256
  have hp := hok.posN
  have hN1 : 1 ≤ N ∧ N ≤ 4096 := ⟨hk.n1, hk.n6⟩
  obtain ⟨b, o, rfl, hrows⟩ := tab_rows h hk
  obtain ⟨W0, hW0⟩ : ∃ W0, W0 = (w.alloc (.cells #[.slice (some ⟨b, o, none⟩) R cap] 22)).alloc (.cells #[.int .i64 0, .slice none 0 0] 37) := ⟨_, rfl⟩
  have hb0 : Below w.heap.size w W0 := by rw [hW0]; exact below_chain (new_below _ _) (new_below _ _)
  have hz0 : W0.heap.size = w.heap.size + 1 + 1 := by rw [hW0]; simp
  have hbox : W0.cell? ⟨w.heap.size, 0, none⟩ = some (.slice (some ⟨b, o, none⟩) R cap) := by rw [hW0]; exact new_one (new_below _ _)
  have hres : ∀ W, Below W0.heap.size W0 W → W.cell? ⟨w.heap.size + 1, 0, none⟩ = some (.int .i64 0) ∧ W.cell? ⟨w.heap.size + 1, 1, none⟩ = some (.slice none 0 0) ∧ W.frozen? ⟨w.heap.size + 1, 0, none⟩ = false ∧ W.frozen? ⟨w.heap.size + 1, 1, none⟩ = false := fun W hb => by
    rw [hW0] at hb
    have := res_past hb
    simpa using this
  have ht := Table_any a _ R vs ns zs W0 (hE.below hb0) (h.later hb0) hR hs
  rw [h0, errV_zero] at ht
  have HCL : Hid (∀ W, Below W0.heap.size W0 W → Calls Tryd.prog 37 #[.slice (some ⟨b, o, none⟩) R cap] W fun e w' => ∃ g cp, e = .returned (.slice (some ⟨g, 0, none⟩) n cp) ∧ RowAt w' g 0 n (atF L) ∧ Below W.heap.size W w') := fun W hb => (cells_any _ R vs ns zs W ((h.later hb0).later hb) (by omega) (by omega)).mono (fun e w' hx => by
    obtain ⟨v', rfl, hrow, hb'⟩ := hx
    rw [← hL, hn] at hrow
    obtain ⟨g, cp, rfl, hr⟩ := row_some hrow hn hp
    exact ⟨g, cp, rfl, hr, hb'⟩)
  have HSO : Hid (∀ W, Below W0.heap.size W0 W → Calls Tryd.prog 33 #[.int .i64 N, .func (.func 39) #[] #[.pointer (some ⟨w.heap.size, 0, none⟩)]] W fun e w' => ∃ dn v, e = .returned (.tuple #[.agg #[.int .i64 dn, v], .nilIface]) ∧ LogBy W.heap.size N (fun x => sumN (givV ns zs x) R) w' dn v ∧ Below W.heap.size W w') := fun W hb =>
    sumOver_any 39 _ N (32 * R) (fun x => sumN (givV ns zs x) R) W (enters_of Tryd.func39 (by kernel_rfl) rfl) hN1.1 hN1.2 (by have := hk.r16; omega) (fun x => giv_bound hk x)
      (fun W' mb hb' ho => Given_parts N mb w.heap.size b o cap R N ns zs W' ho (cell_past hbox (below_chain hb hb')).2 hk (hrows W' (below_chain hb0 (below_chain hb hb'))))
  have HOK := Hid.mk' hok
  have HNN := Hid.mk' hN
  have HB0 := Hid.mk' hb0
  have HRES := Hid.mk' hres
  have HW0 := Hid.mk' hW0
  have HZ0 := Hid.mk' hz0
  have HBX := Hid.mk' hbox
  clear hE h hb0 hres hW0 hz0 h0 hok hL hn hN hs hrows hk
  go_enter Tryd.func18, Tryd.ntmps18
  go_upto_region 1 with fail
  rw [← HW0.out]
  go_wp2_with fail
  refine ht.mono ?_
  clear ht hbox
  rintro e w1 ⟨rfl, hb1⟩
  have HB1 := Hid.mk' hb1
  have hbx1 := (cell_past HBX.out hb1).2
  clear hb1
  go_wp2_with (first
    | (go_at_call 37; refine (HCL.out w1 HB1.out).mono ?_; rintro e w2 ⟨g, cp, rfl, hr2, hb2⟩; have htt := total_some g 0 cp n (atF L) w2 hr2 (fun k hk => by have := HOK.out.part hk; omega) (fun i hi => by have := HOK.out.lt hi; omega) (by omega); rw [HNN.out] at htt; have HTT := Hid.mk' htt; have HB2 := Hid.mk' (below_chain HB1.out hb2); clear htt hr2 hb2)
    | (go_at_call 34; refine HTT.out.mono ?_; rintro e w3 ⟨rfl, hw3⟩; rw [hw3]; clear hw3)
    | (go_at_call 33; refine (HSO.out w2 HB2.out).mono ?_; rintro e w4 ⟨dn, v4, rfl, hlb, hb4⟩; obtain ⟨c0, c1, q0, q1⟩ := HRES.out w4 (below_chain HB2.out hb4); have HBW := Hid.mk' (below_chain HB0.out (below_chain HB2.out hb4)); have HLB := Hid.mk' hlb; obtain ⟨ad4, n4, c4, rfl⟩ := hlb.form; clear hlb))
  have HLT : Hid (w.heap.size + 1 < w2.heap.size) := by have h1 := HZ0.out; have h2 := HB2.out.size; show _ < _; omega
  refine bodyPost_ret (v := .tuple #[.agg #[.int .i64 dn, .slice ad4 n4 c4], .nilIface]) (by simp [results, Tryd.results18, go_sem, c0, c1]) rfl ⟨_, .slice ad4 n4 c4, rfl, (HLB.out.set HLT.out _ _).lower (by have := HLT.out; omega), ?_⟩
  exact (HBW.out.setCell (by simp) _).setCell (by simp) _

set_option maxRecDepth 100000 in
set_option maxHeartbeats 1000000 in
theorem Given_bad (a : Nat → Addr) (v : Value) (R : Nat) (vs : Nat → Value) (ns : Nat → Nat) (zs : Nat → Nat → Int) (w : World) (hE : Errs w a) (h : TabAt w v R vs ns zs) (hR : R ≤ 40) (hs : sumT ns R ≤ 400) (h0 : tabErr R ns zs ≠ 0) :
    Calls Tryd.prog 18 #[v] w fun e w' => e = .returned (.tuple #[.agg #[.int .i64 0, .slice none 0 0], errV a (tabErr R ns zs)]) ∧ Below w.heap.size w w' := by
  obtain ⟨ad, cap, rfl⟩ := h.form
  obtain ⟨W0, hW0⟩ : ∃ W0, W0 = (w.alloc (.cells #[.slice ad R cap] 22)).alloc (.cells #[.int .i64 0, .slice none 0 0] 37) := ⟨_, rfl⟩
  have hb0 : Below w.heap.size w W0 := by rw [hW0]; exact below_chain (new_below _ _) (new_below _ _)
  have hbox : W0.cell? ⟨w.heap.size, 0, none⟩ = some (.slice ad R cap) := by rw [hW0]; exact new_one (new_below _ _)
  have hres : ∀ W, Below W0.heap.size W0 W → W.cell? ⟨w.heap.size + 1, 0, none⟩ = some (.int .i64 0) ∧ W.cell? ⟨w.heap.size + 1, 1, none⟩ = some (.slice none 0 0) ∧ W.frozen? ⟨w.heap.size + 1, 0, none⟩ = false ∧ W.frozen? ⟨w.heap.size + 1, 1, none⟩ = false := fun W hb => by
    rw [hW0] at hb
    have := res_past hb
    simpa using this
  have ht := Table_any a _ R vs ns zs W0 (hE.below hb0) (h.later hb0) hR hs
  rw [errV_pos a h0] at ht ⊢
  generalize a (tabErr R ns zs - 1) = ea at ht ⊢
  have HB0 := Hid.mk' hb0
  have HRES := Hid.mk' hres
  have HW0 := Hid.mk' hW0
  clear hE h hb0 hres hW0 h0
  go_enter Tryd.func18, Tryd.ntmps18
  go_upto_region 1 with fail
  rw [← HW0.out]
  go_wp2_with (go_at_call 26; refine ht.mono ?_; rintro e w1 ⟨rfl, hb1⟩; obtain ⟨c0, c1, q0, q1⟩ := HRES.out w1 hb1; have HB1 := Hid.mk' (below_chain HB0.out hb1); clear hb1)
  refine bodyPost_ret (v := .tuple #[.agg #[.int .i64 0, .slice none 0 0], .iface 156 (.pointer (some ea))]) (by simp [results, Tryd.results18, go_sem, c0, c1]) rfl ⟨rfl, ?_⟩
  exact (HB1.out.setCell (by simp) _).setCell (by simp) _
end Go.Proofs.YtgellgobgiolnabDoor

/- The sides of what rows tell of columns; entropies of a table, held against each other. -/
namespace Go.Proofs.YtgellgobgiolnabDoor
open Go.RowKit

/-- It speaks of primes alone. -/
def Supp (f : Int → Int) : Prop := ∀ x, f x ≠ 0 → 2 ≤ x ∧ x ≤ 4096 ∧ Pr x.toNat
theorem supp_term (c : Int) (m : Nat) (h : c ≠ 0 → 0 < m ∧ m ≤ 4096) : Supp fun x => c * multI x m := fun x hx => by
  dsimp only at hx
  have h1 : c ≠ 0 := fun e => hx (by rw [e]; simp)
  have h2 : multI x m ≠ 0 := fun e => hx (by rw [e]; simp)
  obtain ⟨a1, a2, a3⟩ := multI_support (h h1).1 h2
  have := (h h1).2
  exact ⟨a2, by omega, a1⟩
theorem Supp.add {f g : Int → Int} (hf : Supp f) (hg : Supp g) : Supp fun x => f x + g x := fun x hx => by
  by_cases h : f x = 0
  · exact hg x (fun e => hx (by dsimp only; rw [h, e]; rfl))
  · exact hf x h
theorem Supp.sub {f g : Int → Int} (hf : Supp f) (hg : Supp g) : Supp fun x => f x - g x := fun x hx => by
  by_cases h : f x = 0
  · exact hg x (fun e => hx (by dsimp only; rw [h, e]; rfl))
  · exact hf x h
theorem supp_sum {F : Nat → Int → Int} : ∀ {n : Nat}, (∀ i, i < n → Supp (F i)) → Supp fun x => sumN (fun i => F i x) n
  | 0, _ => fun x hx => absurd rfl hx
  | n + 1, h => (supp_sum fun i hi => h i (by omega)).add (h n (by omega))
theorem sumN_zero : ∀ n, sumN (fun _ => 0) n = 0
  | 0 => rfl
  | n + 1 => by simp only [sumN]; rw [sumN_zero n]; rfl
theorem sumN_plus (f g : Nat → Int) : ∀ n, sumN (fun i => f i + g i) n = sumN f n + sumN g n
  | 0 => rfl
  | n + 1 => by simp only [sumN]; rw [sumN_plus f g n]; omega
theorem sumN_less (f g : Nat → Int) : ∀ n, sumN (fun i => f i - g i) n = sumN f n - sumN g n
  | 0 => rfl
  | n + 1 => by simp only [sumN]; rw [sumN_less f g n]; omega
theorem sumN_times (k : Int) (f : Nat → Int) : ∀ n, sumN (fun i => f i * k) n = sumN f n * k
  | 0 => by simp [sumN]
  | n + 1 => by simp only [sumN]; rw [sumN_times k f n, Int.add_mul]
theorem sumN_swap (F : Nat → Nat → Int) (C : Nat) : ∀ R, sumN (fun i => sumN (fun j => F i j) C) R = sumN (fun j => sumN (fun i => F i j) R) C
  | 0 => by simp only [sumN]; rw [sumN_zero]
  | R + 1 => by
    simp only [sumN]
    rw [sumN_swap F C R, ← sumN_plus]
/-- The columns' entropy by places. -/
theorem ent_cols (zs : Nat → Nat → Int) (R C N : Nat) (x : Int) : sumN (entV (colV zs R) N x) C = sumN (fun i => sumN (fun j => zs i j * (multI x N - multI x (colV zs R j).toNat)) C) R := by
  rw [sumN_swap]
  refine sumN_congr fun j _ => ?_
  rw [sumN_times]
  unfold entV
  show colV zs R j * _ - colV zs R j * _ = colV zs R j * _
  rw [Int.mul_sub]
/-- What is known of the columns less what is told if the row is known is what rows tell. -/
theorem less_told {R N : Nat} {ns : Nat → Nat} {zs : Nat → Nat → Int} (h : OkT R ns zs N) (x : Int) : sumN (entV (colV zs R) N x) (ns 0) - sumN (givV ns zs x) R = sumN (fun i => sumN (mutV (zs i) (rowSum ns zs i) (colV zs R) N x) (ns 0)) R := by
  rw [ent_cols, ← sumN_less]
  refine sumN_congr fun i hi => ?_
  unfold givV
  rw [h.even i hi, ← sumN_less]
  refine sumN_congr fun j _ => ?_
  unfold entV mutV rowSum
  rw [h.even i hi]
  grind
theorem mult_prod1 {x : Nat} (hx : Pr x) {a b : Nat → Nat} : ∀ {n : Nat}, (∀ i, i < n → 0 < a i → 0 < b i) → mult x (prodA (fun i => b i ^ a i) n) = sumA (fun i => a i * mult x (b i)) n ∧ 0 < prodA (fun i => b i ^ a i) n
  | 0, _ => ⟨by simp only [prodA, sumA]; exact mult_one hx.1, by simp [prodA]⟩
  | n + 1, h => by
    obtain ⟨h1, h2⟩ := mult_prod1 hx (n := n) (fun i hi => h i (by omega))
    have h3 : mult x (b n ^ a n) = a n * mult x (b n) ∧ 0 < b n ^ a n := by
      rcases Nat.eq_zero_or_pos (a n) with h0 | h0
      · rw [h0, Nat.pow_zero, Nat.zero_mul]
        exact ⟨mult_one hx.1, by omega⟩
      · exact ⟨mult_power hx (h n (by omega) h0) _, Nat.pow_pos (h n (by omega) h0)⟩
    simp only [prodA, sumA]
    exact ⟨by rw [mult_mul hx _ _ h2 h3.2, h1, h3.1], Nat.mul_pos h2 h3.2⟩
theorem mult_prod2 {x : Nat} (hx : Pr x) {a b : Nat → Nat → Nat} {C : Nat} : ∀ {R : Nat}, (∀ i, i < R → ∀ j, j < C → 0 < a i j → 0 < b i j) → mult x (prodA (fun i => prodA (fun j => b i j ^ a i j) C) R) = sumA (fun i => sumA (fun j => a i j * mult x (b i j)) C) R ∧ 0 < prodA (fun i => prodA (fun j => b i j ^ a i j) C) R
  | 0, _ => ⟨by simp only [prodA, sumA]; exact mult_one hx.1, by simp [prodA]⟩
  | R + 1, h => by
    obtain ⟨h1, h2⟩ := mult_prod2 hx (R := R) (fun i hi => h i (by omega))
    obtain ⟨h3, h4⟩ := mult_prod1 hx (fun j hj => h R (by omega) j hj)
    simp only [prodA, sumA]
    exact ⟨by rw [mult_mul hx _ _ h2 h4, h1, h3], Nat.mul_pos h2 h4⟩
theorem sumN_nat2 {z : Nat → Int} {a : Nat → Nat} : ∀ {n : Nat}, (∀ i, i < n → z i = (a i : Int)) → sumN z n = (sumA a n : Int)
  | 0, _ => rfl
  | n + 1, h => by
    simp only [sumN, sumA]
    rw [sumN_nat2 (n := n) (fun i hi => h i (by omega)), h n (by omega)]
    simp
/-- The sides of what rows tell. -/
theorem told_sides {R N : Nat} {ns : Nat → Nat} {zs : Nat → Nat → Int} (h : OkT R ns zs N) :
    ∃ U D : Nat, 0 < U ∧ 0 < D ∧ D ≤ U ∧ ∀ x : Nat, Pr x → sumN (fun i => sumN (mutV (zs i) (rowSum ns zs i) (colV zs R) N (x : Int)) (ns 0)) R = (mult x U : Int) - (mult x D : Int) := by
  obtain ⟨a, ha⟩ : ∃ a : Nat → Nat → Nat, ∀ i, i < R → ∀ j, j < ns 0 → zs i j = (a i j : Int) := ⟨fun i j => (zs i j).toNat, fun i hi j hj => by have := h.nn i hi j (by rw [h.even i hi]; exact hj); dsimp only; omega⟩
  have hr : ∀ i, i < R → rowSum ns zs i = (sumA (a i) (ns 0) : Int) := fun i hi => by
    unfold rowSum
    rw [h.even i hi]
    exact sumN_nat2 (fun j hj => ha i hi j hj)
  have hc : ∀ j, j < ns 0 → colV zs R j = (sumA (fun i => a i j) R : Int) := fun j hj => sumN_nat2 (fun i hi => ha i hi j hj)
  have hN : N = sumA (fun i => sumA (a i) (ns 0)) R := by
    have h1 := h.tot
    have h2 : sumN (fun i => sumN (zs i) (ns i)) R = (sumA (fun i => sumA (a i) (ns 0)) R : Int) := sumN_nat2 (fun i hi => hr i hi)
    omega
  have hN0 : 0 < N := h.n1
  have hle : ∀ i, i < R → ∀ j, j < ns 0 → a i j ≤ sumA (a i) (ns 0) ∧ a i j ≤ sumA (fun k => a k j) R := fun i hi j hj => ⟨sumA_ge (a i) hj, sumA_ge (fun k => a k j) hi⟩
  have h2 : Pr 2 := ⟨by omega, fun d hd hdd => by have := Nat.mul_le_mul hd hd; omega⟩
  have p1 : ∀ i, i < R → ∀ j, j < ns 0 → 0 < a i j → 0 < a i j := fun _ _ _ _ h => h
  have p2 : ∀ i, i < R → ∀ j, j < ns 0 → 0 < a i j → 0 < sumA (a i) (ns 0) * sumA (fun k => a k j) R := fun i hi j hj h0 => by
    have := hle i hi j hj
    exact Nat.mul_pos (by omega) (by omega)
  have u2 := (mult_prod2 h2 (b := a) p1).2
  have d2 := (mult_prod2 h2 (a := a) (b := fun i j => sumA (a i) (ns 0) * sumA (fun k => a k j) R) p2).2
  refine ⟨N ^ N * prodA (fun i => prodA (fun j => a i j ^ a i j) (ns 0)) R, prodA (fun i => prodA (fun j => (sumA (a i) (ns 0) * sumA (fun k => a k j) R) ^ a i j) (ns 0)) R, Nat.mul_pos (Nat.pow_pos hN0) u2, d2, told_le a (ns 0) R N hN hN0, fun x hx => ?_⟩
  rw [mult_mul hx _ _ (Nat.pow_pos hN0) u2, mult_power hx hN0, (mult_prod2 hx (b := a) p1).1, (mult_prod2 hx (a := a) (b := fun i j => sumA (a i) (ns 0) * sumA (fun k => a k j) R) p2).1]
  have e : ∀ m, multI (x : Int) m = (mult x m : Int) := fun m => by rw [multI_pr (by simpa using hx)]; simp
  have key : sumN (fun i => sumN (mutV (zs i) (rowSum ns zs i) (colV zs R) N (x : Int)) (ns 0)) R = sumN (fun i => sumN (fun j => ((a i j * mult x (a i j) : Nat) : Int) + ((a i j : Nat) : Int) * (mult x N : Int) - ((a i j * mult x (sumA (a i) (ns 0) * sumA (fun k => a k j) R) : Nat) : Int)) (ns 0)) R := by
    refine sumN_congr fun i hi => sumN_congr fun j hj => ?_
    unfold mutV
    rw [ha i hi j hj, hr i hi, hc j hj]
    simp only [Int.toNat_natCast, e]
    rcases Nat.eq_zero_or_pos (a i j) with h0 | h0
    · rw [h0]; simp
    · have := hle i hi j hj
      rw [mult_mul hx _ _ (show 0 < sumA (a i) (ns 0) by omega) (show 0 < sumA (fun k => a k j) R by omega)]
      simp only [Int.natCast_mul, Int.natCast_add]
      grind
  rw [key]
  have split3 : ∀ i, sumN (fun j => ((a i j * mult x (a i j) : Nat) : Int) + ((a i j : Nat) : Int) * (mult x N : Int) - ((a i j * mult x (sumA (a i) (ns 0) * sumA (fun k => a k j) R) : Nat) : Int)) (ns 0) = ((sumA (fun j => a i j * mult x (a i j)) (ns 0) : Nat) : Int) + ((sumA (a i) (ns 0) : Nat) : Int) * (mult x N : Int) - ((sumA (fun j => a i j * mult x (sumA (a i) (ns 0) * sumA (fun k => a k j) R)) (ns 0) : Nat) : Int) := fun i => by
    rw [sumN_less, sumN_plus, sumN_times]
    rw [sumN_nat2 (z := fun j => ((a i j * mult x (a i j) : Nat) : Int)) (fun _ _ => rfl), sumN_nat2 (z := fun j => ((a i j : Nat) : Int)) (fun _ _ => rfl), sumN_nat2 (z := fun j => ((a i j * mult x (sumA (a i) (ns 0) * sumA (fun k => a k j) R) : Nat) : Int)) (fun _ _ => rfl)]
  rw [sumN_congr (fun i _ => split3 i), sumN_less, sumN_plus, sumN_times]
  rw [sumN_nat2 (z := fun i => ((sumA (fun j => a i j * mult x (a i j)) (ns 0) : Nat) : Int)) (fun _ _ => rfl), sumN_nat2 (z := fun i => ((sumA (a i) (ns 0) : Nat) : Int)) (fun _ _ => rfl), sumN_nat2 (z := fun i => ((sumA (fun j => a i j * mult x (sumA (a i) (ns 0) * sumA (fun k => a k j) R)) (ns 0) : Nat) : Int)) (fun _ _ => rfl), ← hN]
  simp only [Int.natCast_add, Int.natCast_mul]
  omega
theorem OkT.pos {R N : Nat} {ns : Nat → Nat} {zs : Nat → Nat → Int} (h : OkT R ns zs N) {i j : Nat} (hi : i < R) (hj : j < ns 0) : zs i j ≠ 0 → (0 < (zs i j).toNat ∧ (zs i j).toNat ≤ 4096) ∧ (0 < (rowSum ns zs i).toNat ∧ (rowSum ns zs i).toNat ≤ 4096) ∧ (0 < (colV zs R j).toNat ∧ (colV zs R j).toNat ≤ 4096) := fun h0 => by
  have h1 := h.cell hi (by rw [h.even i hi]; exact hj)
  have h2 := h.row hi
  have h3 := h.col (Nat.le_refl R) hj
  have h4 := sumN_ge (z := zs i) (n := ns i) (i := j) (fun k hk => h.nn i hi k hk) (by rw [h.even i hi]; exact hj)
  have h5 := sumN_ge (z := fun k => zs k j) (n := R) (i := i) (fun k hk => h.nn k hk j (by rw [h.even k hk]; exact hj)) hi
  have h6 := h.n6
  unfold rowSum
  have h7 : zs i j ≤ colV zs R j := h5
  omega
theorem ent_prim {R N : Nat} {ns : Nat → Nat} {zs : Nat → Nat → Int} (h : OkT R ns zs N) : Prim fun x => sumN (entV (colV zs R) N x) (ns 0) := by
  refine ⟨fun x => ent_bound (fun j hj => h.col (Nat.le_refl R) hj) h.n6 (by have := h.c16; omega) x, ?_⟩
  refine supp_sum (F := fun j x => entV (colV zs R) N x j) fun j hj => ?_
  have hc := h.col (Nat.le_refl R) hj
  exact (supp_term _ N (fun _ => ⟨h.n1, h.n6⟩)).sub (supp_term _ _ (fun h0 => by omega))
theorem giv_prim {R N : Nat} {ns : Nat → Nat} {zs : Nat → Nat → Int} (h : OkT R ns zs N) : Prim fun x => sumN (givV ns zs x) R := by
  refine ⟨fun x => giv_bound h x, ?_⟩
  refine supp_sum (F := fun i x => givV ns zs x i) fun i hi => ?_
  refine supp_sum (F := fun j x => entV (zs i) (sumN (zs i) (ns i)).toNat x j) fun j hj => ?_
  have hp := h.pos hi (j := j) (by rw [← h.even i hi]; exact hj)
  exact (supp_term _ _ (fun h0 => (hp h0).2.1)).sub (supp_term _ _ (fun h0 => (hp h0).1))
theorem mut_prim {R N : Nat} {ns : Nat → Nat} {zs : Nat → Nat → Int} (h : OkT R ns zs N) : Prim fun x => sumN (fun i => sumN (mutV (zs i) (rowSum ns zs i) (colV zs R) N x) (ns 0)) R := by
  refine ⟨fun x => ?_, ?_⟩
  · have h1 := sumN_bound (f := fun i => sumN (mutV (zs i) (rowSum ns zs i) (colV zs R) N x) (ns 0)) (B := 6400000) (n := R) (fun i hi => by
      have h2 := sumN_bound (f := mutV (zs i) (rowSum ns zs i) (colV zs R) N x) (B := 400000) (n := ns 0) (fun j hj => mutV_le x (h.cell hi (by rw [h.even i hi]; exact hj)) (by have := h.row hi; have := h.n6; unfold rowSum; omega) (h.col (Nat.le_refl R) hj) h.n6)
      have : (ns 0 : Int) * 400000 ≤ 6400000 := by have := h.c16; omega
      omega)
    have : (R : Int) * 6400000 ≤ 102400000 := by have := h.r16; omega
    omega
  · refine supp_sum (F := fun i x => sumN (mutV (zs i) (rowSum ns zs i) (colV zs R) N x) (ns 0)) fun i hi => ?_
    refine supp_sum (F := fun j x => mutV (zs i) (rowSum ns zs i) (colV zs R) N x j) fun j hj => ?_
    have hp := h.pos hi hj
    refine (((supp_term _ _ (fun h0 => (hp h0).1)).add (supp_term _ N (fun _ => ⟨h.n1, h.n6⟩))).add (supp_term _ _ (fun h0 => ?_))).add (supp_term _ _ (fun h0 => ?_))
    · exact (hp (by omega)).2.1
    · exact (hp (by omega)).2.2
end Go.Proofs.YtgellgobgiolnabDoor

/- logs.Scale by -1 over 1. -/
namespace Go.Proofs.YtgellgobgiolnabDoor
open Go.RowKit Go.Maps

set_option maxRecDepth 10000 in
set_option maxHeartbeats 1000000 in
theorem lowest_back (w : World) : Calls Tryd.prog 60 #[.int .i64 (-1), .int .i64 1] w fun e w' => e = .returned (.agg #[.int .i64 (-1), .int .i64 1]) ∧ Below w.heap.size w w' := by
  have hB0 : Below w.heap.size w (w.alloc (.cells #[.int .i64 0, .int .i64 0] 70)) := (Below.refl _ _).alloc (Nat.le_refl _) _
  have hg := GCD_any (-1) 1 (w.alloc (.cells #[.int .i64 0, .int .i64 0] 70)) (by omega) (by omega) (by omega) (by omega)
  rw [show ((Int.gcd (-1) 1 : Nat) : Int) = 1 from rfl] at hg
  have HB := Hid.mk' hB0
  clear hB0
  go_enter Tryd.func60, Tryd.ntmps60
  go_wp2_with fail
  refine hg.mono ?_
  clear hg
  rintro e w1 ⟨rfl, m, rfl⟩
  go_wp2_with fail
  go_region
  go_wp2_with fail
  refine bodyPost_ret (v := .agg #[.int .i64 (-1), .int .i64 1]) (by simp [results, Tryd.results60, go_sem]) rfl ⟨rfl, ?_⟩
  exact ((below_drewN HB.out _).setCell (by simp) _).setCell (by simp) _

theorem new_below2 (w : World) (X : Obj) : Below w.heap.size w (w.alloc X) := (Below.refl _ _).alloc (Nat.le_refl _) _
theorem ownsRow_later {w w' : World} {B e size n : Nat} {v : Value} {xs : List Value} (h : w.ownsRow B e size v n xs) (hb : Below w.heap.size w w') : w'.ownsRow B e size v n xs := by
  obtain ⟨hl, hr⟩ := h
  rcases hr with h | ⟨g, cap, cur, hv, hg, hh, r⟩
  · exact ⟨hl, Or.inl h⟩
  · exact ⟨hl, Or.inr ⟨g, cap, cur, hv, hg, by rw [hb.block g (heap_lt hh)]; exact hh, r⟩⟩
/-- What scaled's second loop keeps: the row lies at N, the answer's box at Bx. -/
structure InScale (w wr : World) (N Bx : Nat) (d : Int) (n : Nat) (p c : Nat → Int) (k : Nat) : Prop where
  below : Below N w wr
  lt : N < Bx
  o0 : wr.cell? ⟨Bx, 0, none⟩ = some (.int .i64 d)
  o1 : wr.cell? ⟨Bx, 1, none⟩ = some (.slice (some ⟨N, 0, none⟩) k n)
  f0 : wr.frozen? ⟨Bx, 0, none⟩ = false
  fz : wr.frozen? ⟨Bx, 1, none⟩ = false
  row : wr.ownsRow N 47 2 (.slice (some ⟨N, 0, none⟩) k n) k (termCells p (fun i => -c i) k)
theorem InScale.later {w wr wn : World} {N Bx : Nat} {d : Int} {n : Nat} {p c : Nat → Int} {k : Nat} (h : InScale w wr N Bx d n p c k) (hb : Below wr.heap.size wr wn) : InScale w wn N Bx d n p c k :=
  ⟨h.below.trans (hb.mono (by have := cell_lt h.o0; have := h.lt; simp only at *; omega)), h.lt, (cell_past h.o0 hb).2, (cell_past h.o1 hb).2, (frozen_past h.o0 h.f0 hb).2, (frozen_past h.o1 h.fz hb).2, ownsRow_later h.row hb⟩
theorem InScale.pushed {w wr w3 : World} {N Bx : Nat} {d : Int} {n : Nat} {p c : Nat → Int} {k : Nat} (h : InScale w wr N Bx d n p c k) (hg : wr.grownBy w3 (some N)) (hrow : w3.ownsRow N 47 2 (.slice (some ⟨N, 0, none⟩) (k + 1) n) (k + 1) (termCells p (fun i => -c i) k ++ [.int .i64 (p k), .int .i64 (-c k)])) :
    w3.cell? ⟨Bx, 1, none⟩ = some (.slice (some ⟨N, 0, none⟩) k n) ∧ w3.frozen? ⟨Bx, 1, none⟩ = false ∧ InScale w (w3.setCell ⟨Bx, 1, none⟩ (.slice (some ⟨N, 0, none⟩) (k + 1) n)) N Bx d n p c (k + 1) := by
  have hlt := cell_lt h.o0
  have hNB := h.lt
  simp only at hlt
  have c0 := cell_beside hg h.o0 (by omega)
  have c1 := cell_beside hg h.o1 (by omega)
  have hblk := hg.block Bx hlt (by simp; omega)
  have f0 : w3.frozen? ⟨Bx, 0, none⟩ = false := by rw [← h.f0]; simp [World.frozen?, hblk]
  have f1 : w3.frozen? ⟨Bx, 1, none⟩ = false := by rw [← h.fz]; simp [World.frozen?, hblk]
  refine ⟨c1, f1, ⟨(h.below.grown hg (by omega) (fun j e => by cases e; exact Nat.le_refl _)).setCell (by simp; omega) _, h.lt, ?_, World.cell?_setCell_same _ _ _ c1, by simpa using f0, by simpa using f1, ?_⟩⟩
  · rw [World.cell?_setCell_other _ _ _ _ (by simp)]; exact c0
  · obtain ⟨hl, hr⟩ := hrow
    refine ⟨hl, ?_⟩
    rcases hr with hr | ⟨gg, cap, cur, hv, hg1, hh, rest⟩
    · exact Or.inl hr
    · refine Or.inr ⟨gg, cap, cur, hv, hg1, ?_, rest⟩
      have : gg = N := by simp at hv; exact hv.1.symm
      rw [Below.heap_setCell _ _ _ _ (by show gg ≠ Bx; omega)]
      exact hh
theorem inScale_start {W W3 : World} {d : Int} {n : Nat} {p c : Nat → Int} (ho : W3.ownsRow W.heap.size 47 2 (.slice (some ⟨W.heap.size, 0, none⟩) 0 n) 0 []) (hg : W.grownBy W3 none) : InScale W (W3.alloc (.cells #[.int .i64 d, .slice (some ⟨W.heap.size, 0, none⟩) 0 n] 37)) W.heap.size W3.heap.size d n p c 0 := by
  have hlt : W.heap.size < W3.heap.size := by
    rcases ho.2 with ⟨h, _⟩ | ⟨g, cap, cur, hv, _, hh, _⟩
    · cases h
    · have : W.heap.size = g := by simp at hv; exact hv.1
      rw [this]; exact heap_lt hh
  refine ⟨((Below.refl _ _).grown hg (Nat.le_refl _) (fun j e => by cases e)).alloc (by omega) _, hlt, by rw [World.cell?_alloc_at _ _ _ _ rfl]; rfl, by rw [World.cell?_alloc_at _ _ _ _ rfl]; rfl, frozen_new rfl, frozen_new rfl, ownsRow_later ho (new_below2 _ _)⟩

theorem ownAt_slice {w : World} {v : Value} {n : Nat} {p c : Nat → Int} (h : OwnAt w v n p c) : ∃ ad m cap, v = .slice ad m cap := by
  rcases h with ⟨rfl, _⟩ | ⟨g, cap, rfl, _⟩
  · exact ⟨_, _, _, rfl⟩
  · exact ⟨_, _, _, rfl⟩
theorem OwnAt.set {w : World} {v : Value} {n : Nat} {p c : Nat → Int} {B : Nat} {ad : Option Addr} {l cap : Nat} {x y : Value} (h : OwnAt w v n p c) (hn : 0 < n) (hx : w.cell? ⟨B, 1, none⟩ = some (.slice ad l cap)) : OwnAt ((w.setCell ⟨B, 0, none⟩ x).setCell ⟨B, 1, none⟩ y) v n p c := by
  rcases h with h | ⟨g, cap', rfl, ht⟩
  · exact Or.inl h
  · have hne : B ≠ g := fun e => by
      have h1 := (ht 0 hn).2
      rw [← e] at h1
      simp only [Nat.zero_mul, Nat.zero_add] at h1
      rw [hx] at h1
      cases h1
    refine Or.inr ⟨g, cap', rfl, fun i hi => ⟨?_, ?_⟩⟩
    · rw [World.cell?_setCell_far _ _ _ _ hne, World.cell?_setCell_far _ _ _ _ hne]; exact (ht i hi).1
    · rw [World.cell?_setCell_far _ _ _ _ hne, World.cell?_setCell_far _ _ _ _ hne]; exact (ht i hi).2
theorem gcd_one_any (c : Int) : ((Int.gcd 1 c : Nat) : Int) = 1 := by simp [Int.gcd]
theorem gcd_back_any (c : Int) : ((Int.gcd (-1) c : Nat) : Int) = 1 := by simp [Int.gcd]

set_option maxRecDepth 100000 in
set_option maxHeartbeats 2000000 in
theorem scaled_back (d : Int) (ad : Option Addr) (n cap : Nat) (p c : Nat → Int) (w : World) (hl : LogAt w (.slice ad n cap) n p c) (hok : OkLog d n p c) (hn0 : 0 < n) (hn : n ≤ 10000) :
    Calls Tryd.prog 59 #[.agg #[.int .i64 d, .slice ad n cap], .agg #[.int .i64 (-1), .int .i64 1]] w fun e w' => ∃ v, e = .returned (.tuple #[.agg #[.int .i64 d, v], .nilIface]) ∧ OwnAt w' v n p (fun i => -c i) ∧ Below w.heap.size w w' := by
  have hb0 : Below w.heap.size w (((w.alloc (.cells #[.int .i64 d, .slice ad n cap] 37)).alloc (.cells #[.int .i64 (-1), .int .i64 1] 70)).alloc (.cells #[.int .i64 0, .slice none 0 0] 37)) := (((Below.refl _ _).alloc (Nat.le_refl _) _).alloc (by simp) _).alloc (by simp; omega) _
  have k0 : (((w.alloc (.cells #[.int .i64 d, .slice ad n cap] 37)).alloc (.cells #[.int .i64 (-1), .int .i64 1] 70)).alloc (.cells #[.int .i64 0, .slice none 0 0] 37)).cell? ⟨w.heap.size, 0, none⟩ = some (.int .i64 d) := by rw [World.cell?_alloc_lt _ _ ⟨w.heap.size, 0, none⟩ (by simp; omega), World.cell?_alloc_lt _ _ ⟨w.heap.size, 0, none⟩ (by simp), World.cell?_alloc_at _ _ _ _ rfl]; rfl
  have k1 : (((w.alloc (.cells #[.int .i64 d, .slice ad n cap] 37)).alloc (.cells #[.int .i64 (-1), .int .i64 1] 70)).alloc (.cells #[.int .i64 0, .slice none 0 0] 37)).cell? ⟨w.heap.size, 1, none⟩ = some (.slice ad n cap) := by rw [World.cell?_alloc_lt _ _ ⟨w.heap.size, 1, none⟩ (by simp; omega), World.cell?_alloc_lt _ _ ⟨w.heap.size, 1, none⟩ (by simp), World.cell?_alloc_at _ _ _ _ rfl]; rfl
  have k2 : (((w.alloc (.cells #[.int .i64 d, .slice ad n cap] 37)).alloc (.cells #[.int .i64 (-1), .int .i64 1] 70)).alloc (.cells #[.int .i64 0, .slice none 0 0] 37)).cell? ⟨w.heap.size + 1, 0, none⟩ = some (.int .i64 (-1)) := by rw [World.cell?_alloc_lt _ _ ⟨w.heap.size + 1, 0, none⟩ (by simp), World.cell?_alloc_at _ _ _ _ (by simp)]; rfl
  have k3 : (((w.alloc (.cells #[.int .i64 d, .slice ad n cap] 37)).alloc (.cells #[.int .i64 (-1), .int .i64 1] 70)).alloc (.cells #[.int .i64 0, .slice none 0 0] 37)).cell? ⟨w.heap.size + 1, 1, none⟩ = some (.int .i64 1) := by rw [World.cell?_alloc_lt _ _ ⟨w.heap.size + 1, 1, none⟩ (by simp), World.cell?_alloc_at _ _ _ _ (by simp)]; rfl
  have k4 : (((w.alloc (.cells #[.int .i64 d, .slice ad n cap] 37)).alloc (.cells #[.int .i64 (-1), .int .i64 1] 70)).alloc (.cells #[.int .i64 0, .slice none 0 0] 37)).cell? ⟨w.heap.size + 1 + 1, 0, none⟩ = some (.int .i64 0) := by rw [World.cell?_alloc_at _ _ _ _ (by simp)]; rfl
  have k5 : (((w.alloc (.cells #[.int .i64 d, .slice ad n cap] 37)).alloc (.cells #[.int .i64 (-1), .int .i64 1] 70)).alloc (.cells #[.int .i64 0, .slice none 0 0] 37)).cell? ⟨w.heap.size + 1 + 1, 1, none⟩ = some (.slice none 0 0) := by rw [World.cell?_alloc_at _ _ _ _ (by simp)]; rfl
  have k6 : ∀ j, (((w.alloc (.cells #[.int .i64 d, .slice ad n cap] 37)).alloc (.cells #[.int .i64 (-1), .int .i64 1] 70)).alloc (.cells #[.int .i64 0, .slice none 0 0] 37)).frozen? ⟨w.heap.size + 1 + 1, j, none⟩ = false := fun j => frozen_new (by simp)
  have hz0 : w.heap.size + 1 + 1 + 1 = (((w.alloc (.cells #[.int .i64 d, .slice ad n cap] 37)).alloc (.cells #[.int .i64 (-1), .int .i64 1] 70)).alloc (.cells #[.int .i64 0, .slice none 0 0] 37)).heap.size := by simp
  generalize hW : (((w.alloc (.cells #[.int .i64 d, .slice ad n cap] 37)).alloc (.cells #[.int .i64 (-1), .int .i64 1] 70)).alloc (.cells #[.int .i64 0, .slice none 0 0] 37)) = W0 at hb0 k0 k1 k2 k3 k4 k5 k6 hz0
  have hd1 : 1 ≤ d := hok.1
  have hd6 : d ≤ 1000000 := hok.2.1
  have hg := GCD_any (-1) d W0 (by omega) (by omega) (by omega) (by omega)
  rw [gcd_back_any] at hg
  have HW := Hid.mk' hW
  have HB0 := Hid.mk' hb0
  have HL := Hid.mk' (hl.later hb0)
  have HOK := Hid.mk' hok
  have HC : Hid (∀ W, Below W0.heap.size W0 W → (W.cell? ⟨w.heap.size, 0, none⟩ = some (.int .i64 d) ∧ W.cell? ⟨w.heap.size, 1, none⟩ = some (.slice ad n cap)) ∧ (W.cell? ⟨w.heap.size + 1, 0, none⟩ = some (.int .i64 (-1)) ∧ W.cell? ⟨w.heap.size + 1, 1, none⟩ = some (.int .i64 1)) ∧ (W.cell? ⟨w.heap.size + 1 + 1, 0, none⟩ = some (.int .i64 0) ∧ W.cell? ⟨w.heap.size + 1 + 1, 1, none⟩ = some (.slice none 0 0)) ∧ W.frozen? ⟨w.heap.size + 1 + 1, 0, none⟩ = false ∧ W.frozen? ⟨w.heap.size + 1 + 1, 1, none⟩ = false) := fun W hb => ⟨⟨(cell_past k0 hb).2, (cell_past k1 hb).2⟩, ⟨(cell_past k2 hb).2, (cell_past k3 hb).2⟩, ⟨(cell_past k4 hb).2, (cell_past k5 hb).2⟩, (frozen_past k4 (k6 0) hb).2, (frozen_past k5 (k6 1) hb).2⟩
  clear hl hok hb0 hW k4 k5 k6
  go_enter Tryd.func59, Tryd.ntmps59
  go_wp2_with fail
  rw [HW.out]
  refine hg.mono ?_
  clear hg k0 k1 k2 k3
  rintro e w1 ⟨rfl, m1, hw1⟩
  have hb1 : Below W0.heap.size W0 w1 := by rw [hw1]; exact below_drewN (Below.refl _ _) _
  clear hw1
  obtain ⟨⟨k0, k1⟩, ⟨k2, k3⟩, _⟩ := HC.out w1 hb1
  have HB1 := Hid.mk' hb1
  clear hb1
  go_wp2_with fail
  clear k0 k1 k2 k3
  go_loopw [7, 27] (fun s i wr => ∃ k : Nat, k ≤ n ∧ s = .int .i64 1 ∧ i = .int .i64 k ∧ Hid (Below W0.heap.size W0 wr)) (fun _ i _ => n - (intOf i).toNat)
  case atStart => exact ⟨0, by omega, rfl, rfl, HB1⟩
  case round =>
    clear HB1
    obtain ⟨k, hk, rfl, rfl, HB⟩ := hrel
    have hk0 : (0 : Int) ≤ (k : Int) := by omega
    by_cases hlt : k < n
    · have hkI : (k : Int) < (n : Int) := by omega
      obtain ⟨b, o, rfl, y0, y1⟩ := (HL.out.later HB.out).cellsAt hlt
      obtain ⟨_, _, hc0, hc1, _⟩ := (HOK.out.2.2.1 k hlt).2
      have hgc := GCD_any 1 (c k) (wr.alloc (.cells #[.int .i64 (p k), .int .i64 (c k)] 47)) (by omega) (by omega) (by omega) (by omega)
      rw [gcd_one_any] at hgc
      have hbA := HB.out.alloc HB.out.size (.cells #[.int .i64 (p k), .int .i64 (c k)] 47)
      have HBA := Hid.mk' hbA
      clear hbA
      go_wp2_with fail
      refine hgc.mono ?_
      clear hgc
      rintro e w2 ⟨rfl, m2, hw2⟩
      have hb2 : Below W0.heap.size W0 w2 := by rw [hw2]; exact below_drewN HBA.out _
      go_wp2_with fail
      exact ⟨⟨k + 1, by omega, rfl, by go_num, below_drewN HBA.out _⟩, by simp [intOf]; omega⟩
    · obtain rfl : k = n := by omega
      obtain ⟨⟨k0, k1⟩, ⟨k2, k3⟩, ⟨k4, k5⟩, _⟩ := HC.out wr HB.out
      go_wp2_with fail
      go_quiet (fail)
      go_wp2_with fail
      have hbq : Below W0.heap.size W0 (wr.drewN nq) := below_drewN HB.out _
      generalize wr.drewN nq = W2 at hbq ⊢
      refine (size_any (-1) W2 (by omega) (by omega)).mono ?_
      rintro e w5 ⟨rfl, hw5⟩
      rw [hw5]
      clear hw5 k0 k1 k2 k3 k4 k5
      rw [show (((-1 : Int)).natAbs : Int) = 1 from rfl]
      obtain ⟨⟨k0, k1⟩, ⟨k2, k3⟩, ⟨k4, k5⟩, _⟩ := HC.out W2 hbq
      obtain ⟨i0, hi, hz0', hz1, hz2⟩ := info_parts Tryd.infoTerm
      have HINF : Hid (Tryd.prog.info? 47 = some i0 ∧ i0.zero = some (.agg #[.int .i64 0, .int .i64 0]) ∧ i0.size = 2 ∧ i0.bytes = 16) := ⟨hi, hz0', hz1, hz2⟩
      clear hi hz0' hz1 hz2
      have HBQ := Hid.mk' hbq
      have HZ : Hid (∀ w6, W2.grownBy w6 none → Below W0.heap.size W0 w6) := fun w6 hg => hbq.grown hg hbq.size (fun j e => by cases e)
      clear hbq
      go_wp2_with (at_make; go_must (refine wpList_make_own _ rfl _ _ _ rfl W2.heap.size 47 i0 _ 2 Tryd.underlying35 HINF.out.1 HINF.out.2.1 HINF.out.2.2.1 _ _ _ k rfl rfl rfl (by rw [HINF.out.2.2.2]; omega) (by unfold maxLen; omega) (Nat.le_refl _) ?_; intro w6 hown hgrow; have HIS := Hid.mk' (inScale_start (d := d) (p := p) (c := c) hown hgrow); have z1 := fun X => (HC.out (w6.alloc X) ((HZ.out w6 hgrow).alloc (HZ.out w6 hgrow).size X)).1.2; clear hown hgrow))
      clear z1 k0 k1 k2 k3 k4 k5
      go_loopw [65] (fun i wr => ∃ j : Nat, j ≤ k ∧ i = .int .i64 j ∧ Hid (InScale W2 wr W2.heap.size w6.heap.size d k p c j)) (fun i _ => k - (intOf i).toNat)
      case atStart => exact ⟨0, by omega, rfl, HIS⟩
      case round =>
        clear HIS
        obtain ⟨j, hj, rfl, HO⟩ := hrel
        have hj0 : (0 : Int) ≤ (j : Int) := by omega
        have hbW := below_chain HBQ.out HO.out.below
        have HBW := Hid.mk' hbW
        by_cases hjk : j < k
        · have hjI : (j : Int) < (k : Int) := by omega
          obtain ⟨b, o, rfl, y0, y1⟩ := (HL.out.later hbW).cellsAt hjk
          obtain ⟨_, _, hc0, hc1, _⟩ := (HOK.out.2.2.1 j hjk).2
          have hcn : ((c j).natAbs : Int) ≤ 1099511627776 := by omega
          have x1 : ∀ X, (wr.alloc X).cell? ⟨w6.heap.size, 1, none⟩ = some (.slice (some ⟨W2.heap.size, 0, none⟩) j k) := fun X => (cell_past HO.out.o1 (new_below2 _ X)).2
          have x2 : ∀ X Y, ((wr.alloc X).alloc Y).cell? ⟨w6.heap.size, 1, none⟩ = some (.slice (some ⟨W2.heap.size, 0, none⟩) j k) := fun X Y => (cell_past (x1 X) (new_below2 _ Y)).2
          have HLAT : Hid (∀ X Y, InScale W2 ((wr.alloc X).alloc Y) W2.heap.size w6.heap.size d k p c j) := fun X Y => (HO.out.later (new_below2 _ X)).later (new_below2 _ Y)
          have hsz := fun W => size_any (c j) W (by omega) (by omega)
          clear hbW
          go_wp2_with (first
            | (go_at_call 56; refine (hsz _).mono ?_; rintro e w8 ⟨rfl, hw8⟩; rw [hw8]; clear hw8)
            | (at_builtin; go_must (refine wpList_append_fits _ rfl _ _ _ rfl W2.heap.size 47 i0 2 Tryd.underlying35 HINF.out.1 HINF.out.2.2.1 W2.heap.size j k _ rfl (HLAT.out _ _).row ⟨wr.heap.size + 1, 0, none⟩ 1 1 [.int .i64 (p j), .int .i64 (-c j)] rfl rfl (fun q u h => by have := two_new (wr.alloc (.cells #[.int .i64 (p j), .int .i64 (c j)] 47)) (.int .i64 (p j)) (.int .i64 (-c j)) 47 q u h; simpa using this) (by simp [Value.oneCell']) (by omega) ?_; intro w7 hown hgrow; obtain ⟨q1, q2, HPU⟩ := (HLAT.out _ _).pushed hgrow hown; have HP := Hid.mk' HPU; clear hown hgrow HPU)))
          exact ⟨⟨j + 1, by omega, by go_num, HP⟩, by simp [intOf]; omega⟩
        · obtain rfl : j = k := by omega
          have y0 := HO.out.o0
          have y1 := HO.out.o1
          obtain ⟨_, _, ⟨k4, k5⟩, f4, f5⟩ := HC.out wr hbW
          have hq := HBQ.out.size
          clear hbW
          go_wp2_with fail
          refine bodyPost_ret (v := .tuple #[.agg #[.int .i64 d, .slice (some ⟨W2.heap.size, 0, none⟩) j j], .nilIface]) (by simp [results, Tryd.results59, go_sem, k4, k5]) rfl ⟨.slice (some ⟨W2.heap.size, 0, none⟩) j j, rfl, ?_, ?_⟩
          · have h1 := ownsRow_setCell_below HO.out.row (a := ⟨w.heap.size + 1 + 1, 0, none⟩) (by show w.heap.size + 1 + 1 < _; omega) (.int .i64 d)
            have h2 := ownsRow_setCell_below h1 (a := ⟨w.heap.size + 1 + 1, 1, none⟩) (by show w.heap.size + 1 + 1 < _; omega) (.slice (some ⟨W2.heap.size, 0, none⟩) j j)
            exact ownAt_of_row h2
          · exact ((below_chain HB0.out HBW.out).setCell (by simp; omega) _).setCell (by simp; omega) _

set_option maxRecDepth 100000 in
set_option maxHeartbeats 2000000 in
/-- Scale by -1 over 1: the opposite. -/
theorem Scale_back (d : Int) (sv : Value) (n : Nat) (p c : Nat → Int) (a : Nat → Addr) (w : World) (h : Errs w a) (hl : LogAt w sv n p c) (hok : OkLog d n p c) (hn : n ≤ 10000) :
    Calls Tryd.prog 46 #[.agg #[.int .i64 d, sv], .agg #[.int .i64 (-1), .int .i64 1]] w fun e w' => ∃ v, e = .returned (.tuple #[.agg #[.int .i64 d, v], .nilIface]) ∧ OwnAt w' v n p (fun i => -c i) ∧ Below w.heap.size w w' := by
  obtain ⟨ad, cap, rfl⟩ := hl.slice
  have hb0 : Below w.heap.size w (((w.alloc (.cells #[.int .i64 d, .slice ad n cap] 37)).alloc (.cells #[.int .i64 (-1), .int .i64 1] 70)).alloc (.cells #[.int .i64 0, .slice none 0 0] 37)) := (((Below.refl _ _).alloc (Nat.le_refl _) _).alloc (by simp) _).alloc (by simp; omega) _
  have k0 : (((w.alloc (.cells #[.int .i64 d, .slice ad n cap] 37)).alloc (.cells #[.int .i64 (-1), .int .i64 1] 70)).alloc (.cells #[.int .i64 0, .slice none 0 0] 37)).cell? ⟨w.heap.size, 0, none⟩ = some (.int .i64 d) := by rw [World.cell?_alloc_lt _ _ ⟨w.heap.size, 0, none⟩ (by simp; omega), World.cell?_alloc_lt _ _ ⟨w.heap.size, 0, none⟩ (by simp), World.cell?_alloc_at _ _ _ _ rfl]; rfl
  have k1 : (((w.alloc (.cells #[.int .i64 d, .slice ad n cap] 37)).alloc (.cells #[.int .i64 (-1), .int .i64 1] 70)).alloc (.cells #[.int .i64 0, .slice none 0 0] 37)).cell? ⟨w.heap.size, 1, none⟩ = some (.slice ad n cap) := by rw [World.cell?_alloc_lt _ _ ⟨w.heap.size, 1, none⟩ (by simp; omega), World.cell?_alloc_lt _ _ ⟨w.heap.size, 1, none⟩ (by simp), World.cell?_alloc_at _ _ _ _ rfl]; rfl
  have k2 : (((w.alloc (.cells #[.int .i64 d, .slice ad n cap] 37)).alloc (.cells #[.int .i64 (-1), .int .i64 1] 70)).alloc (.cells #[.int .i64 0, .slice none 0 0] 37)).cell? ⟨w.heap.size + 1, 0, none⟩ = some (.int .i64 (-1)) := by rw [World.cell?_alloc_lt _ _ ⟨w.heap.size + 1, 0, none⟩ (by simp), World.cell?_alloc_at _ _ _ _ (by simp)]; rfl
  have k3 : (((w.alloc (.cells #[.int .i64 d, .slice ad n cap] 37)).alloc (.cells #[.int .i64 (-1), .int .i64 1] 70)).alloc (.cells #[.int .i64 0, .slice none 0 0] 37)).cell? ⟨w.heap.size + 1, 1, none⟩ = some (.int .i64 1) := by rw [World.cell?_alloc_lt _ _ ⟨w.heap.size + 1, 1, none⟩ (by simp), World.cell?_alloc_at _ _ _ _ (by simp)]; rfl
  have k4 : (((w.alloc (.cells #[.int .i64 d, .slice ad n cap] 37)).alloc (.cells #[.int .i64 (-1), .int .i64 1] 70)).alloc (.cells #[.int .i64 0, .slice none 0 0] 37)).cell? ⟨w.heap.size + 1 + 1, 0, none⟩ = some (.int .i64 0) := by rw [World.cell?_alloc_at _ _ _ _ (by simp)]; rfl
  have k5 : (((w.alloc (.cells #[.int .i64 d, .slice ad n cap] 37)).alloc (.cells #[.int .i64 (-1), .int .i64 1] 70)).alloc (.cells #[.int .i64 0, .slice none 0 0] 37)).cell? ⟨w.heap.size + 1 + 1, 1, none⟩ = some (.slice none 0 0) := by rw [World.cell?_alloc_at _ _ _ _ (by simp)]; rfl
  have k6 : ∀ j, (((w.alloc (.cells #[.int .i64 d, .slice ad n cap] 37)).alloc (.cells #[.int .i64 (-1), .int .i64 1] 70)).alloc (.cells #[.int .i64 0, .slice none 0 0] 37)).frozen? ⟨w.heap.size + 1 + 1, j, none⟩ = false := fun j => frozen_new (by simp)
  have hz0 : w.heap.size + 1 + 1 + 1 = (((w.alloc (.cells #[.int .i64 d, .slice ad n cap] 37)).alloc (.cells #[.int .i64 (-1), .int .i64 1] 70)).alloc (.cells #[.int .i64 0, .slice none 0 0] 37)).heap.size := by simp
  generalize hW : (((w.alloc (.cells #[.int .i64 d, .slice ad n cap] 37)).alloc (.cells #[.int .i64 (-1), .int .i64 1] 70)).alloc (.cells #[.int .i64 0, .slice none 0 0] 37)) = W0 at hb0 k0 k1 k2 k3 k4 k5 k6 hz0
  have hv := Valid_log d _ n p c a true ⟨fun _ => hok, fun _ => rfl⟩ W0 (h.below hb0) (hl.later hb0) (by omega)
  simp only [shapeErr] at hv
  have HW := Hid.mk' hW
  have HB0 := Hid.mk' hb0
  have HL := Hid.mk' (hl.later hb0)
  have HOK := Hid.mk' hok
  have HC : Hid (∀ W, Below (w.heap.size + 1 + 1) W0 W → (W.cell? ⟨w.heap.size, 0, none⟩ = some (.int .i64 d) ∧ W.cell? ⟨w.heap.size, 1, none⟩ = some (.slice ad n cap)) ∧ (W.cell? ⟨w.heap.size + 1, 0, none⟩ = some (.int .i64 (-1)) ∧ W.cell? ⟨w.heap.size + 1, 1, none⟩ = some (.int .i64 1))) := fun W hb => by
    have ha : ∀ j v, W0.cell? ⟨w.heap.size, j, none⟩ = some v → W.cell? ⟨w.heap.size, j, none⟩ = some v := fun j v h => by rw [hb.cell (p := ⟨w.heap.size, j, none⟩) (by show w.heap.size < _; omega)]; exact h
    have hb' : ∀ j v, W0.cell? ⟨w.heap.size + 1, j, none⟩ = some v → W.cell? ⟨w.heap.size + 1, j, none⟩ = some v := fun j v h => by rw [hb.cell (p := ⟨w.heap.size + 1, j, none⟩) (by show w.heap.size + 1 < _; omega)]; exact h
    exact ⟨⟨ha 0 _ k0, ha 1 _ k1⟩, ⟨hb' 0 _ k2, hb' 1 _ k3⟩⟩
  have HR : Hid (∀ W, Below W0.heap.size W0 W → (W.cell? ⟨w.heap.size + 1 + 1, 0, none⟩ = some (.int .i64 0) ∧ W.cell? ⟨w.heap.size + 1 + 1, 1, none⟩ = some (.slice none 0 0)) ∧ W.frozen? ⟨w.heap.size + 1 + 1, 0, none⟩ = false ∧ W.frozen? ⟨w.heap.size + 1 + 1, 1, none⟩ = false) := fun W hb => ⟨⟨(cell_past k4 hb).2, (cell_past k5 hb).2⟩, (frozen_past k4 (k6 0) hb).2, (frozen_past k5 (k6 1) hb).2⟩
  clear h hl hok hb0 hW k2 k3 k4 k5 k6
  go_enter Tryd.func46, Tryd.ntmps46
  go_wp2_with fail
  rw [HW.out]
  refine hv.mono ?_
  clear hv k0 k1
  rintro e w1 ⟨rfl, hb1⟩
  have hb1m : Below (w.heap.size + 1 + 1) W0 w1 := hb1.mono (by omega)
  obtain ⟨⟨k0, k1⟩, ⟨k2, k3⟩⟩ := HC.out w1 hb1m
  obtain ⟨⟨r0, r1⟩, f0, f1⟩ := HR.out w1 hb1
  have HB1 := Hid.mk' hb1
  rcases Nat.eq_zero_or_pos n with h0 | hpos
  · have hd : d = 1 := by have := HOK.out; rw [h0] at this; exact (OkLog_none d p c).1 this
    subst hd
    subst h0
    clear hb1 hb1m
    go_wp2_with fail
    refine bodyPost_ret (v := .tuple #[.agg #[.int .i64 1, .slice none 0 0], .nilIface]) (by simp [results, Tryd.results46, go_sem, r0, r1]) rfl ⟨.slice none 0 0, rfl, Or.inl ⟨rfl, rfl⟩, ((below_chain HB0.out HB1.out).setCell (by simp; omega) _).setCell (by simp; omega) _⟩
  · have hnz : ((n : Int) == 0) = false := by rw [beq_eq_false_iff_ne]; omega
    have hlow := lowest_back w1.drew
    have HLOW := Hid.mk' hlow
    have hc0 : Below (w.heap.size + 1 + 1) W0 w1 := hb1m
    have hcd : Below (w.heap.size + 1 + 1) W0 w1.drew := hb1m.drew
    clear hlow hb1 hb1m
    go_wp2_with fail
    go_region_held3 (fun W => (W.cell? ⟨w.heap.size, 0, none⟩ = some (.int .i64 d) ∧ W.cell? ⟨w.heap.size, 1, none⟩ = some (.slice ad n cap)) ∧ (W.cell? ⟨w.heap.size + 1, 0, none⟩ = some (.int .i64 (-1)) ∧ W.cell? ⟨w.heap.size + 1, 1, none⟩ = some (.int .i64 1)))
      (first | exact HC.out _ hc0 | exact HC.out _ hcd | exact HC.out _ hc2 | exact HC.out _ hc3 | exact HC.out _ ((hc3.setCell (Nat.le_refl _) _).setCell (Nat.le_refl _) _))
      (first
        | (go_at_call 59; refine (scaled_back d ad n cap p c w2 (HL.out.later HBW2.out) HOK.out hpos hn).mono ?_; rintro e w3 ⟨v, rfl, hv, hb3⟩; have hbw3 := below_chain HBW2.out hb3; have hc3 : Below (w.heap.size + 1 + 1) W0 w3 := hbw3.mono (by omega); obtain ⟨ad3, m3, cap3, rfl⟩ := ownAt_slice hv; obtain ⟨⟨x0, x1⟩, g0, g1⟩ := HR.out w3 hbw3; have HV := Hid.mk' hv; have HBW3 := Hid.mk' hbw3; clear hv hb3 hbw3)
        | (go_at_call 60; refine HLOW.out.mono ?_; rintro e w2 ⟨rfl, hb2⟩; have hbw2 := below_chain HB1.out.drew hb2; have hc2 : Below (w.heap.size + 1 + 1) W0 w2 := hbw2.mono (by omega); have HBW2 := Hid.mk' hbw2; clear hb2 hbw2))
    go_wp2_with fail
    refine bodyPost_ret (v := .tuple #[.agg #[.int .i64 d, .slice ad3 m3 cap3], .nilIface]) (by simp [results, Tryd.results46, go_sem, x0, x1]) rfl ⟨.slice ad3 m3 cap3, rfl, ?_, ((below_chain HB0.out HBW3.out).setCell (by simp; omega) _).setCell (by simp; omega) _⟩
    exact HV.out.set hpos x1
end Go.Proofs.YtgellgobgiolnabDoor

/- logs.Add by forms. -/
namespace Go.Proofs.YtgellgobgiolnabDoor
open Go.RowKit Go.Maps

/-- A form of the sum of two. -/
structure SumIs (da db : Nat) (t1 t2 : List (Int × Int)) (d : Nat) (t : List (Int × Int)) : Prop where
  can : Canon d t
  val : ∀ x, atL t x * ((da : Int) * (db : Int)) = (atL t1 x * (db : Int) + atL t2 x * (da : Int)) * (d : Int)
  len : t.length ≤ t1.length + t2.length
/-- The sum of two is in form. -/
def SumOk (da db : Int) (t1 t2 : List (Int × Int)) (d : Nat) (t : List (Int × Int)) : Prop := OkLog da t1.length (pOf t1) (cOf t1) ∧ OkLog db t2.length (pOf t2) (cOf t2) ∧ SumIs da.toNat db.toNat t1 t2 d t ∧ d ≤ 1000000 ∧ ∀ e ∈ t, e.2.natAbs ≤ 1099511627776
theorem SumOk.ok {da db : Int} {t1 t2 : List (Int × Int)} {d : Nat} {t : List (Int × Int)} (h : SumOk da db t1 t2 d t) : OkLog d t.length (pOf t) (cOf t) := by
  obtain ⟨h1, h2, h3, h4, h5⟩ := h
  have hp := h3.can.pos
  refine okLog_list h3.can.rise (fun e he => ?_) (by omega) (by omega) ?_
  · have hv := h3.val e.1
    rw [atL_mem h3.can.rise he] at hv
    have hnz := h3.can.nz e he
    have hb := h5 e he
    have hda : 0 < da.toNat := by have := h1.1; omega
    have hdb : 0 < db.toNat := by have := h2.1; omega
    have hpr : TermOk e.1 e.2 ∨ (atL t1 e.1 = 0 ∧ atL t2 e.1 = 0) := by
      by_cases q1 : atL t1 e.1 = 0
      · by_cases q2 : atL t2 e.1 = 0
        · exact Or.inr ⟨q1, q2⟩
        · have := h2.mem _ (atL_some q2)
          exact Or.inl ⟨this.1, hnz, by omega, by omega, this.2.2.2.2.1, this.2.2.2.2.2⟩
      · have := h1.mem _ (atL_some q1)
        exact Or.inl ⟨this.1, hnz, by omega, by omega, this.2.2.2.2.1, this.2.2.2.2.2⟩
    rcases hpr with h | ⟨q1, q2⟩
    · exact h
    · rw [q1, q2] at hv
      exfalso
      have h6 : e.2 * ((da.toNat : Int) * (db.toNat : Int)) = 0 := by rw [hv]; simp
      rcases Int.mul_eq_zero.1 h6 with h7 | h7
      · exact hnz h7
      · rcases Int.mul_eq_zero.1 h7 with h8 | h8 <;> omega
  · rw [gcdTo_list _ _ _ (Nat.le_refl _), List.take_length, Int.natAbs_natCast]
    exact h3.can.one
theorem SumOk.uniq {da db : Int} {t1 t2 : List (Int × Int)} {d d' : Nat} {t t' : List (Int × Int)} (h : SumOk da db t1 t2 d t) (h' : SumOk da db t1 t2 d' t') : d = d' ∧ t = t' := by
  have hda : 0 < da.toNat := by have := h.1.1; omega
  have hdb : 0 < db.toNat := by have := h.2.1.1; omega
  refine canon_uniq h.2.2.1.can h'.2.2.1.can (fun x => ?_)
  have h1 := h.2.2.1.val x
  have h2 := h'.2.2.1.val x
  have hp : ((da.toNat : Int) * (db.toNat : Int)) ≠ 0 := by
    intro h0
    rcases Int.mul_eq_zero.1 h0 with h3 | h3 <;> omega
  refine Int.eq_of_mul_eq_mul_right hp ?_
  generalize (da.toNat : Int) * (db.toNat : Int) = M at *
  grind
theorem SumOk.comm {da db : Int} {t1 t2 : List (Int × Int)} {d : Nat} {t : List (Int × Int)} (h : SumOk da db t1 t2 d t) : SumOk db da t2 t1 d t :=
  ⟨h.2.1, h.1, ⟨h.2.2.1.can, fun x => by rw [Int.mul_comm (db.toNat : Int), h.2.2.1.val x, Int.add_comm], by have := h.2.2.1.len; omega⟩, h.2.2.2⟩
/-- In any brackets. -/
theorem SumOk.assoc {da db dc : Int} {ta tb tc tx tp tq tr : List (Int × Int)} {dx dp dq dr : Nat} (h1 : SumOk da db ta tb dx tx) (h2 : SumOk dx dc tx tc dp tp) (h3 : SumOk db dc tb tc dq tq) (h4 : SumOk da dq ta tq dr tr) : dp = dr ∧ tp = tr := by
  refine canon_uniq h2.2.2.1.can h4.2.2.1.can (fun x => ?_)
  have e1 := h1.2.2.1.val x
  have e2 := h2.2.2.1.val x
  have e3 := h3.2.2.1.val x
  have e4 := h4.2.2.1.val x
  have pa : (da.toNat : Int) ≠ 0 := by have := h1.1.1; omega
  have pb : (db.toNat : Int) ≠ 0 := by have := h1.2.1.1; omega
  have pc : (dc.toNat : Int) ≠ 0 := by have := h2.2.1.1; omega
  have px : (dx : Int) ≠ 0 := by have := h1.2.2.1.can.pos; omega
  have pq : (dq : Int) ≠ 0 := by have := h3.2.2.1.can.pos; omega
  rw [Int.toNat_natCast] at e2 e4
  generalize (da.toNat : Int) = A at *
  generalize (db.toNat : Int) = B at *
  generalize (dc.toNat : Int) = C at *
  generalize (dx : Int) = X at *
  generalize (dp : Int) = P at *
  generalize (dq : Int) = Q at *
  generalize (dr : Int) = R at *
  generalize atL tx x = x' at *
  generalize atL tp x = p' at *
  generalize atL tq x = q' at *
  generalize atL tr x = r' at *
  generalize atL ta x = a' at *
  generalize atL tb x = b' at *
  generalize atL tc x = c' at *
  have f1 : p' * (A * B * C) * X = (a' * B * C + b' * A * C + c' * A * B) * P * X := by grind
  have f2 : r' * (A * B * C) * Q = (a' * B * C + b' * A * C + c' * A * B) * R * Q := by grind
  have f3 := Int.eq_of_mul_eq_mul_right px f1
  have f4 := Int.eq_of_mul_eq_mul_right pq f2
  have hM : A * B * C ≠ 0 := by
    intro h0
    rcases Int.mul_eq_zero.1 h0 with h5 | h5
    · rcases Int.mul_eq_zero.1 h5 with h6 | h6
      · exact pa h6
      · exact pb h6
    · exact pc h5
  refine Int.eq_of_mul_eq_mul_right hM ?_
  generalize A * B * C = M at *
  generalize a' * B * C + b' * A * C + c' * A * B = S at *
  calc p' * R * M = p' * M * R := by rw [Int.mul_right_comm]
    _ = S * P * R := by rw [f3]
    _ = S * R * P := by rw [Int.mul_right_comm]
    _ = r' * M * P := by rw [f4]
    _ = r' * P * M := by rw [Int.mul_right_comm]

/-- Add, by forms. -/
theorem Add_all (da db : Int) (v1 v2 : Value) (t1 t2 : List (Int × Int)) (a : Nat → Addr) (w : World) (h : Errs w a) (hl1 : LogAt w v1 t1.length (pOf t1) (cOf t1)) (hl2 : LogAt w v2 t2.length (pOf t2) (cOf t2)) (hn : t1.length + t2.length ≤ 10000) :
    Calls Tryd.prog 20 #[.agg #[.int .i64 da, v1], .agg #[.int .i64 db, v2]] w fun e w' => ((∃ d t v, SumOk da db t1 t2 d t ∧ e = .returned (.tuple #[.agg #[.int .i64 (d : Nat), v], .nilIface]) ∧ ListAt w' v t) ∨ ((∀ d t, ¬ SumOk da db t1 t2 d t) ∧ ∃ ad, e = .returned (.tuple #[.agg #[.int .i64 0, .slice none 0 0], .iface 156 (.pointer (some ad))]))) ∧ Below w.heap.size w w' := by
  by_cases hok : OkLog da t1.length (pOf t1) (cOf t1) ∧ OkLog db t2.length (pOf t2) (cOf t2)
  · obtain ⟨hok1, hok2⟩ := hok
    obtain ⟨na, rfl⟩ := Int.eq_ofNat_of_zero_le (show 0 ≤ da by have := hok1.1; omega)
    obtain ⟨nb, rfl⟩ := Int.eq_ofNat_of_zero_le (show 0 ≤ db by have := hok2.1; omega)
    have pa : 0 < na := by have := hok1.1; omega
    have pb : 0 < nb := by have := hok2.1; omega
    obtain ⟨ad1, cap1, rfl⟩ := hl1.slice
    obtain ⟨ad2, cap2, rfl⟩ := hl2.slice
    refine (Add_any na nb ad1 ad2 cap1 cap2 t1 t2 a w h hl1 hl2 hok1 hok2 hn _ rfl).mono ?_
    rintro e w' ⟨⟨l, G, hr, hv, hG, hlen, hres⟩, hb⟩
    obtain ⟨s1, s2, s3, s4⟩ := sum_value rfl pa pb hr hv hG
    have hs : SumIs na nb t1 t2 (na / Int.gcd (na : Int) (nb : Int) * nb / G) (overL G l) := ⟨s1, s3, Nat.le_trans (length_over l G) hlen⟩
    refine ⟨?_, hb⟩
    rcases hres with ⟨hf, v, rfl, hlist⟩ | ⟨hf, rfl⟩
    · refine Or.inl ⟨_, _, v, ⟨hok1, hok2, by simpa using hs, s4.1 hf⟩, by rw [s2], hlist⟩
    · refine Or.inr ⟨fun d t hso => hf (s4.2 ?_), a 1, rfl⟩
      have hs' : SumIs (na : Int).toNat (nb : Int).toNat t1 t2 _ _ := hso.2.2.1
      rw [Int.toNat_natCast, Int.toNat_natCast] at hs'
      obtain ⟨u1, u2⟩ := canon_uniq hs.can hs'.can (fun x => by
        have q1 := hs.val x
        have q2 := hs'.val x
        have hp : ((na : Int) * (nb : Int)) ≠ 0 := by
          intro h0
          rcases Int.mul_eq_zero.1 h0 with h3 | h3 <;> omega
        refine Int.eq_of_mul_eq_mul_right hp ?_
        generalize (na : Int) * (nb : Int) = M at *
        grind)
      rw [u1, u2]
      exact hso.2.2.2
  · refine (Add_shape da db v1 v2 _ _ _ _ _ _ a w h hl1 hl2 (by omega) (by omega) hok).mono ?_
    rintro e w' ⟨rfl, hb⟩
    exact ⟨Or.inr ⟨fun d t hso => hok ⟨hso.1, hso.2.1⟩, a 2, rfl⟩, hb⟩
end Go.Proofs.YtgellgobgiolnabDoor

/- The law's helper sign, of two that are told of sums. -/
namespace Go.Proofs.YtgellgobgiolnabDoor
open Go.RowKit

theorem okTo_neg {p c : Nat → Int} : ∀ k, OkTo p c k → OkTo p (fun i => -c i) k := by
  intro k h i hi
  obtain ⟨h1, h2, h3, h4, h5, h6, h7⟩ := h i hi
  exact ⟨h1, h2, by show -c i ≠ 0; omega, by show _ ≤ -c i; omega, by show -c i ≤ _; omega, h6, h7⟩
theorem gcdTo_neg (d : Int) (c : Nat → Int) : ∀ k, gcdTo d (fun i => -c i) k = gcdTo d c k
  | 0 => rfl
  | k + 1 => by
    show Int.gcd (gcdTo d (fun i => -c i) k : Int) (-c k) = Int.gcd (gcdTo d c k : Int) (c k)
    rw [gcdTo_neg d c k, Int.gcd_neg]
theorem okLog_neg {d : Int} {n : Nat} {p c : Nat → Int} (h : OkLog d n p c) : OkLog d n p (fun i => -c i) :=
  ⟨h.1, h.2.1, okTo_neg n h.2.2.1, by rw [gcdTo_neg]; exact h.2.2.2⟩
def negL (t : List (Int × Int)) : List (Int × Int) := t.map fun e => (e.1, -e.2)
theorem negL_parts (t : List (Int × Int)) : pOf (negL t) = pOf t ∧ cOf (negL t) = (fun i => -cOf t i) ∧ (negL t).length = t.length := by
  refine ⟨?_, ?_, by simp [negL]⟩
  · funext i
    unfold pOf negL
    simp only [List.getD_eq_getElem?_getD, List.getElem?_map]
    cases t[i]? <;> rfl
  · funext i
    unfold cOf negL
    simp only [List.getD_eq_getElem?_getD, List.getElem?_map]
    cases t[i]? <;> rfl
theorem negL_at : ∀ (t : List (Int × Int)) (x : Int), atL (negL t) x = -atL t x
  | [], _ => rfl
  | e :: r, x => by
    have ih := negL_at r x
    unfold negL at ih ⊢
    simp only [List.map_cons, atL]
    rw [ih]
    split <;> simp
theorem ownAt_put {w : World} {v : Value} {n : Nat} {p c : Nat → Int} {B : Nat} {ad : Option Addr} {l cap : Nat} {x y : Value} (h : OwnAt w v n p c) (hx : w.cell? ⟨B, 1, none⟩ = some (.slice ad l cap)) : OwnAt ((w.setCell ⟨B, 0, none⟩ x).setCell ⟨B, 1, none⟩ y) v n p c := by
  rcases Nat.eq_zero_or_pos n with h0 | h0
  · subst h0
    rcases h with h | ⟨g, cap, hv, _⟩
    · exact Or.inl h
    · exact Or.inr ⟨g, cap, hv, fun i hi => by omega⟩
  · exact h.set h0 hx
/-- The sides of a difference. -/
theorem by_sides2 {d M U D : Nat} {t : List (Int × Int)} {F : Int → Int} (hok : OkLog d t.length (pOf t) (cOf t)) (hv : ∀ x, (M : Int) * atL t x = (d : Int) * F x) (hU : 0 < U) (hD : 0 < D) (hm : ∀ q : Nat, Pr q → F (q : Int) = (mult q U : Int) - (mult q D : Int)) :
    sideUp (pOf t) (cOf t) 1 t.length ^ M * D ^ d = sideDown (pOf t) (cOf t) 1 t.length ^ M * U ^ d ∧ 0 < sideUp (pOf t) (cOf t) 1 t.length ∧ 0 < sideDown (pOf t) (cOf t) 1 t.length := by
  have h2 : Pr 2 := ⟨by omega, fun d hd hdd => by have := Nat.mul_le_mul hd hd; omega⟩
  obtain ⟨_, a1, a2⟩ := hok.side 1 h2
  refine ⟨eq_of_mult _ _ (Nat.mul_pos (Nat.pow_pos a1) (Nat.pow_pos hD)) (Nat.mul_pos (Nat.pow_pos a2) (Nat.pow_pos hU)) (fun q hq => ?_), a1, a2⟩
  have e1 := (hok.side 1 hq).1
  have e2 := hv (q : Int)
  rw [hm q hq] at e2
  rw [mult_mul hq _ _ (Nat.pow_pos a1) (Nat.pow_pos hD), mult_mul hq _ _ (Nat.pow_pos a2) (Nat.pow_pos hU), mult_power hq a1, mult_power hq a2, mult_power hq hD, mult_power hq hU]
  generalize mult q (sideUp (pOf t) (cOf t) 1 t.length) = A at *
  generalize mult q (sideDown (pOf t) (cOf t) 1 t.length) = B at *
  generalize mult q U = u at *
  generalize mult q D = e at *
  generalize atL t (q : Int) = z at *
  apply Int.ofNat_inj.1
  simp only [Int.natCast_add, Int.natCast_mul]
  have h3 : (A : Int) = B + z := by omega
  rw [h3]
  grind
theorem cmp_ge {su sd M d U D : Nat} (h : su ^ M * D ^ d = sd ^ M * U ^ d) (hM : 0 < M) (h1 : 0 < su) (h2 : 0 < sd) (hU : 0 < U) (hle : D ≤ U) : 0 ≤ cmpOf su sd := by
  obtain ⟨_, o2, o3⟩ := sides_order h (Nat.pow_pos h1) (Nat.pow_pos h2)
  have hp := Nat.pow_le_pow_left hle d
  rcases Nat.lt_or_ge (D ^ d) (U ^ d) with h3 | h3
  · have := (pow_order hM).1 (o2 h3)
    rw [cmpOf_gt this]
    decide
  · have := (pow_order hM).2 (o3 (by omega) (Nat.pow_pos hU))
    rw [cmpOf_eq this]
    decide
theorem diff_val {M G1 G2 e1 e2 d : Nat} {t1 t2 t : List (Int × Int)} {f1 f2 : Int → Int} (hM1 : M = G1 * e1) (hM2 : M = G2 * e2) (hM : 0 < M) (v1 : ∀ x, f1 x = (G1 : Int) * atL t1 x) (v2 : ∀ x, f2 x = (G2 : Int) * atL t2 x) (hs : ∀ x, atL t x * ((e1 : Int) * (e2 : Int)) = (atL t1 x * (e2 : Int) + atL (negL t2) x * (e1 : Int)) * (d : Int)) : ∀ x, (M : Int) * atL t x = (d : Int) * (f1 x - f2 x) := fun x => by
  have h := hs x
  rw [negL_at] at h
  rw [v1 x, v2 x]
  have m1 : (M : Int) = (G1 : Int) * (e1 : Int) := by rw [hM1]; simp
  have m2 : (M : Int) = (G2 : Int) * (e2 : Int) := by rw [hM2]; simp
  generalize atL t x = T at *
  generalize atL t1 x = A at *
  generalize atL t2 x = B at *
  refine Int.eq_of_mul_eq_mul_left (show (M : Int) ≠ 0 by omega) ?_
  have k1 : (M : Int) * ((M : Int) * T) = (G1 : Int) * (G2 : Int) * (T * ((e1 : Int) * (e2 : Int))) := by
    calc (M : Int) * ((M : Int) * T) = ((G1 : Int) * (e1 : Int)) * (((G2 : Int) * (e2 : Int)) * T) := by rw [← m1, ← m2]
      _ = _ := by grind
  rw [k1, h]
  have k2 : (M : Int) * ((d : Int) * ((G1 : Int) * A - (G2 : Int) * B)) = (d : Int) * ((G1 : Int) * A * (M : Int) - (G2 : Int) * B * (M : Int)) := by grind
  rw [k2]
  have k3 : (G1 : Int) * A * (M : Int) = (G1 : Int) * A * ((G2 : Int) * (e2 : Int)) := by rw [← m2]
  have k4 : (G2 : Int) * B * (M : Int) = (G2 : Int) * B * ((G1 : Int) * (e1 : Int)) := by rw [← m1]
  rw [k3, k4]
  grind

set_option maxRecDepth 100000 in
set_option maxHeartbeats 2000000 in
theorem sign_by {M b1 b2 : Nat} {f1 f2 : Int → Int} {d1 d2 : Int} {v1 v2 : Value} {U D : Nat} (a : Nat → Addr) (w : World) (hE : Errs w a) (h1 : LogBy b1 M f1 w d1 v1) (h2 : LogBy b2 M f2 w d2 v2) (hM : 1 ≤ M) (hM6 : M ≤ 1000000) (p1 : Prim f1) (p2 : Prim f2) (hU : 0 < U) (hD : 0 < D) (hm : ∀ q : Nat, Pr q → f1 (q : Int) - f2 (q : Int) = (mult q U : Int) - (mult q D : Int)) (hle : D ≤ U) :
    Calls Tryd.prog 22 #[.agg #[.int .i64 d1, v1], .agg #[.int .i64 d2, v2]] w fun e w' => (∃ z : Int, 0 ≤ z ∧ e = .returned (.int .i64 z)) ∧ Below w.heap.size w w' := by
  obtain ⟨t1, e1, G1, rfl, l1, n1, m1, g1, w1', o1⟩ := h1.ok hM hM6 p1
  obtain ⟨t2, e2, G2, rfl, l2, n2, m2, g2, w2', o2⟩ := h2.ok hM hM6 p2
  obtain ⟨ad1, k1, cap1, rfl⟩ := h1.form
  obtain ⟨ad2, k2, cap2, rfl⟩ := h2.form
  clear h1 h2
  obtain ⟨W0, hW0⟩ : ∃ W0, W0 = (w.alloc (.cells #[.int .i64 (e1 : Int), .slice ad1 k1 cap1] 37)).alloc (.cells #[.int .i64 (e2 : Int), .slice ad2 k2 cap2] 37) := ⟨_, rfl⟩
  have hb0 : Below w.heap.size w W0 := by rw [hW0]; exact below_chain (new_below _ _) (new_below _ _)
  have HC0 : Hid (∀ W, Below W0.heap.size W0 W → (W.cell? ⟨w.heap.size, 0, none⟩ = some (.int .i64 (e1 : Int)) ∧ W.cell? ⟨w.heap.size, 1, none⟩ = some (.slice ad1 k1 cap1)) ∧ (W.cell? ⟨w.heap.size + 1, 0, none⟩ = some (.int .i64 (e2 : Int)) ∧ W.cell? ⟨w.heap.size + 1, 1, none⟩ = some (.slice ad2 k2 cap2))) := fun W hb => by
    have hr := hb
    rw [hW0] at hr
    have r2 := res_past hr
    rw [World.size_alloc] at r2
    have r1 := res_past (w := w) (below_chain (new_below _ _) hr)
    exact ⟨⟨r1.1, r1.2.1⟩, r2.1, r2.2.1⟩
  have hsc := Scale_back (e2 : Int) (.slice ad2 k2 cap2) t2.length (pOf t2) (cOf t2) a W0 (hE.below hb0) (listAt_log (l2.later hb0)) o2 (by omega)
  obtain ⟨np, nc, nl⟩ := negL_parts t2
  have o2' : OkLog e2 (negL t2).length (pOf (negL t2)) (cOf (negL t2)) := by rw [np, nc, nl]; exact okLog_neg o2
  have HAD : Hid (∀ (W : World) (v : Value), Below W0.heap.size W0 W → OwnAt W v t2.length (pOf t2) (fun i => -cOf t2 i) → Calls Tryd.prog 20 #[.agg #[.int .i64 (e1 : Int), .slice ad1 k1 cap1], .agg #[.int .i64 (e2 : Int), v]] W fun e w' => ((∃ d t v, SumOk e1 e2 t1 (negL t2) d t ∧ e = .returned (.tuple #[.agg #[.int .i64 (d : Nat), v], .nilIface]) ∧ ListAt w' v t) ∨ ∃ ad, e = .returned (.tuple #[.agg #[.int .i64 0, .slice none 0 0], .iface 156 (.pointer (some ad))])) ∧ Below W.heap.size W w') := fun W v hb hv => by
    have hv' : ListAt W v (negL t2) := by unfold ListAt; rw [np, nc, nl]; exact hv
    refine (Add_all e1 e2 _ v t1 (negL t2) a W (hE.below (below_chain hb0 hb)) (listAt_log ((l1.later hb0).later hb)) (listAt_log hv') (by omega)).mono ?_
    rintro e w' ⟨h | ⟨_, h⟩, hb'⟩
    · exact ⟨Or.inl h, hb'⟩
    · exact ⟨Or.inr h, hb'⟩
  have HSG : Hid (∀ (W : World) (d : Nat) (t : List (Int × Int)) (v : Value), Below W0.heap.size W0 W → SumOk e1 e2 t1 (negL t2) d t → ListAt W v t → Calls Tryd.prog 23 #[.agg #[.int .i64 (d : Int), v]] W fun e w' => ((∃ z : Int, 0 ≤ z ∧ e = .returned (.tuple #[.int .i64 z, .nilIface])) ∨ ∃ ad, e = .returned (.tuple #[.int .i64 0, .iface 156 (.pointer (some ad))])) ∧ Below W.heap.size W w') := fun W d t v hb hs hl => by
    have hok := hs.ok
    have hval := hs.2.2.1.val
    have hlen := hs.2.2.1.len
    simp only [Int.toNat_natCast] at hval
    have hd := diff_val m1 m2 hM w1' w2' hval
    obtain ⟨s1, s2, s3⟩ := by_sides2 hok hd hU hD hm
    have hc := cmp_ge s1 hM s2 s3 hU hle
    by_cases hfit : cost (pOf t) (cOf t) t.length ≤ 40000
    · refine (Sign_log d v t.length (pOf t) (cOf t) a true true (by simpa using hok) (by simpa using hfit) W (hE.below (below_chain hb0 hb)) (listAt_log hl) (by omega)).mono ?_
      rintro e w' ⟨rfl, hb'⟩
      exact ⟨Or.inl ⟨_, hc, rfl⟩, hb'⟩
    · refine (Sign_log d v t.length (pOf t) (cOf t) a true false (by simpa using hok) (by simpa using hfit) W (hE.below (below_chain hb0 hb)) (listAt_log hl) (by omega)).mono ?_
      rintro e w' ⟨rfl, hb'⟩
      exact ⟨Or.inr ⟨_, rfl⟩, hb'⟩
  have HB0 := Hid.mk' hb0
  have HW0 := Hid.mk' hW0
  have c00 := HC0.out W0 (Below.refl _ _)
  obtain ⟨⟨x0, x1⟩, y0, y1⟩ := c00
  clear hE hb0 hW0 o1 o2 o2' l1 l2 w1' w2' hm hle np nc nl
  go_enter Tryd.func22, Tryd.ntmps22
  go_upto_region 1 with fail
  rw [← HW0.out]
  go_wp2_with fail
  refine hsc.mono ?_
  clear hsc x0 x1 y0 y1
  rintro e w1 ⟨v1, rfl, hv1, hb1⟩
  obtain ⟨ad3, k3, cap3, rfl⟩ := ownAt_slice hv1
  obtain ⟨W1, hW1⟩ : ∃ W1, W1 = w1.alloc (.cells #[.int .i64 (e2 : Int), .slice ad3 k3 cap3] 37) := ⟨_, rfl⟩
  have hb01 : Below W0.heap.size W0 W1 := by rw [hW1]; exact below_chain hb1 (new_below _ _)
  have hv1' : OwnAt W1 (.slice ad3 k3 cap3) t2.length (pOf t2) (fun i => -cOf t2 i) := by rw [hW1]; exact hv1.later (new_below _ _)
  have HC1 : Hid (∀ W, Below W1.heap.size W1 W → W.cell? ⟨w1.heap.size, 0, none⟩ = some (.int .i64 (e2 : Int)) ∧ W.cell? ⟨w1.heap.size, 1, none⟩ = some (.slice ad3 k3 cap3) ∧ W.frozen? ⟨w1.heap.size, 0, none⟩ = false ∧ W.frozen? ⟨w1.heap.size, 1, none⟩ = false) := fun W hb => by
    rw [hW1] at hb
    exact res_past hb
  have hB1 : W0.heap.size ≤ w1.heap.size := hb1.size
  have had := HAD.out W1 _ hb01 hv1'
  obtain ⟨⟨x0, x1⟩, _, _⟩ := HC0.out W1 hb01
  obtain ⟨y0, y1, _, _⟩ := HC1.out W1 (Below.refl _ _)
  have HW1 := Hid.mk' hW1
  have HB01 := Hid.mk' hb01
  clear hv1 hb1 hv1' hb01 hW1 HAD
  go_upto_region 2 with fail
  rw [← HW1.out]
  clear HW1
  go_wp2_with fail
  refine had.mono ?_
  clear had x0 x1 y0 y1
  rintro e w2 ⟨⟨d, t, v2, hs, rfl, hl2⟩ | ⟨ad, rfl⟩, hb2⟩
  · obtain ⟨ad4, k4, cap4, rfl⟩ := ownAt_slice hl2
    obtain ⟨z0, z1, f0, f1⟩ := HC1.out w2 hb2
    obtain ⟨W2, hW2⟩ : ∃ W2, W2 = (w2.setCell ⟨w1.heap.size, 0, none⟩ (.int .i64 (d : Int))).setCell ⟨w1.heap.size, 1, none⟩ (.slice ad4 k4 cap4) := ⟨_, rfl⟩
    have hb02 : Below W0.heap.size W0 W2 := by rw [hW2]; exact ((below_chain HB01.out hb2).setCell hB1 _).setCell hB1 _
    have hl2' : ListAt W2 (.slice ad4 k4 cap4) t := by rw [hW2]; exact ownAt_put hl2 z1
    have q0 : W2.cell? ⟨w1.heap.size, 0, none⟩ = some (.int .i64 (d : Int)) := by
      rw [hW2, World.cell?_setCell_other _ _ _ _ (by simp)]
      exact World.cell?_setCell_same _ _ _ z0
    have q1 : W2.cell? ⟨w1.heap.size, 1, none⟩ = some (.slice ad4 k4 cap4) := by
      rw [hW2]
      exact World.cell?_setCell_same _ _ _ (by rw [World.cell?_setCell_other _ _ _ _ (by simp)]; exact z1)
    have hsg := HSG.out W2 d t _ hb02 hs hl2'
    have HB2 := Hid.mk' (below_chain HB0.out hb02)
    have HW2 := Hid.mk' hW2
    clear hs hl2 hb2 hb02 hl2' hW2 HSG HC0
    go_upto_region 5 with fail
    rw [← HW2.out]
    clear HW2 z0 z1 f0 f1
    go_wp2_with fail
    refine hsg.mono ?_
    clear hsg
    rintro e w3 ⟨⟨z, hz, rfl⟩ | ⟨ad, rfl⟩, hb3⟩
    · have HB3 := Hid.mk' (below_chain HB2.out hb3)
      clear hb3
      go_wp2_with fail
      go_ret
      exact ⟨⟨z, hz, rfl⟩, HB3.out⟩
    · have HB3 := Hid.mk' (below_chain HB2.out hb3)
      clear hb3
      go_wp2_with fail
      go_ret
      exact ⟨⟨2, by omega, rfl⟩, HB3.out⟩
  · obtain ⟨z0, z1, f0, f1⟩ := HC1.out w2 hb2
    have HB2 := Hid.mk' (below_chain (below_chain HB0.out HB01.out) hb2)
    have hB1' : w.heap.size ≤ w1.heap.size := by have := HB0.out.size; omega
    clear hb2 HSG HC0
    go_wp2_with fail
    go_ret
    exact ⟨⟨2, by omega, rfl⟩, (HB2.out.setCell hB1' _).setCell hB1' _⟩
end Go.Proofs.YtgellgobgiolnabDoor

/- dist.Rows and dist.Columns. -/
namespace Go.Proofs.YtgellgobgiolnabDoor
open Go.RowKit

set_option maxRecDepth 100000 in
set_option maxHeartbeats 1000000 in
theorem Rows_ok (a : Nat → Addr) (ad : Option Addr) (R cap N : Nat) (vs : Nat → Value) (ns : Nat → Nat) (zs : Nat → Nat → Int) (w : World) (hE : Errs w a) (h : TabAt w (.slice ad R cap) R vs ns zs) (hR : R ≤ 40) (hs : sumT ns R ≤ 400) (h0 : tabErr R ns zs = 0) (hk : OkT R ns zs N) :
    Calls Tryd.prog 9 #[.slice ad R cap] w fun e w' => ∃ g cp, e = .returned (.tuple #[.slice (some ⟨g, 0, none⟩) R cp, .nilIface]) ∧ RowAt w' g 0 R (rowSum ns zs) ∧ Below w.heap.size w w' := by
  have ht := Table_any a _ R vs ns zs w hE h hR hs
  rw [h0, errV_zero] at ht
  have HI : Hid (∀ W, Below w.heap.size w W → Calls Tryd.prog 27 #[.slice ad R cap] W fun e w' => ∃ g cp, e = .returned (.slice (some ⟨g, 0, none⟩) R cp) ∧ RowAt w' g 0 R (rowSum ns zs) ∧ Below W.heap.size W w') := fun W hb => rowSums_any ad R cap N vs ns zs W (h.later hb) hk
  clear hE h h0
  go_enter Tryd.func9, Tryd.ntmps9
  go_wp2_with (first
    | (go_at_call 26; refine ht.mono ?_; rintro e w1 ⟨rfl, hb1⟩; have HB1 := Hid.mk' hb1; clear hb1)
    | (go_at_call 27; refine (HI.out w1 HB1.out).mono ?_; rintro e w2 ⟨g, cp, rfl, hr2, hb2⟩; have HR2 := Hid.mk' hr2; have HB2 := Hid.mk' (HB1.out.trans (hb2.mono HB1.out.size)); clear hr2 hb2))
  go_ret2
  exact ⟨g, cp, rfl, HR2.out, HB2.out⟩
set_option maxRecDepth 100000 in
set_option maxHeartbeats 1000000 in
theorem Rows_bad (a : Nat → Addr) (v : Value) (R : Nat) (vs : Nat → Value) (ns : Nat → Nat) (zs : Nat → Nat → Int) (w : World) (hE : Errs w a) (h : TabAt w v R vs ns zs) (hR : R ≤ 40) (hs : sumT ns R ≤ 400) (h0 : tabErr R ns zs ≠ 0) :
    Calls Tryd.prog 9 #[v] w fun e w' => e = .returned (.tuple #[.slice none 0 0, errV a (tabErr R ns zs)]) ∧ Below w.heap.size w w' := by
  obtain ⟨ad, cap, rfl⟩ := h.form
  have ht := Table_any a _ R vs ns zs w hE h hR hs
  rw [errV_pos a h0] at ht ⊢
  clear hE h h0
  go_enter Tryd.func9, Tryd.ntmps9
  go_wp2_with (go_at_call 26; refine ht.mono ?_; rintro e w1 ⟨rfl, hb1⟩; have HB1 := Hid.mk' hb1; clear hb1)
  go_ret2
  exact ⟨rfl, HB1.out⟩

set_option maxRecDepth 100000 in
set_option maxHeartbeats 1000000 in
theorem Columns_ok (a : Nat → Addr) (ad : Option Addr) (R cap N : Nat) (vs : Nat → Value) (ns : Nat → Nat) (zs : Nat → Nat → Int) (w : World) (hE : Errs w a) (h : TabAt w (.slice ad R cap) R vs ns zs) (hR : R ≤ 40) (hs : sumT ns R ≤ 400) (h0 : tabErr R ns zs = 0) (hk : OkT R ns zs N) :
    Calls Tryd.prog 11 #[.slice ad R cap] w fun e w' => ∃ g cp, e = .returned (.tuple #[.slice (some ⟨g, 0, none⟩) (ns 0) cp, .nilIface]) ∧ RowAt w' g 0 (ns 0) (colV zs R) ∧ Below w.heap.size w w' := by
  have ht := Table_any a _ R vs ns zs w hE h hR hs
  rw [h0, errV_zero] at ht
  have HI : Hid (∀ W, Below w.heap.size w W → Calls Tryd.prog 29 #[.slice ad R cap] W fun e w' => ∃ g cp, e = .returned (.slice (some ⟨g, 0, none⟩) (ns 0) cp) ∧ RowAt w' g 0 (ns 0) (colV zs R) ∧ Below W.heap.size W w') := fun W hb => columnSums_any ad R cap N vs ns zs W (h.later hb) hk
  clear hE h h0
  go_enter Tryd.func11, Tryd.ntmps11
  go_wp2_with (first
    | (go_at_call 26; refine ht.mono ?_; rintro e w1 ⟨rfl, hb1⟩; have HB1 := Hid.mk' hb1; clear hb1)
    | (go_at_call 29; refine (HI.out w1 HB1.out).mono ?_; rintro e w2 ⟨g, cp, rfl, hr2, hb2⟩; have HR2 := Hid.mk' hr2; have HB2 := Hid.mk' (HB1.out.trans (hb2.mono HB1.out.size)); clear hr2 hb2))
  go_ret2
  exact ⟨g, cp, rfl, HR2.out, HB2.out⟩
set_option maxRecDepth 100000 in
set_option maxHeartbeats 1000000 in
theorem Columns_bad (a : Nat → Addr) (v : Value) (R : Nat) (vs : Nat → Value) (ns : Nat → Nat) (zs : Nat → Nat → Int) (w : World) (hE : Errs w a) (h : TabAt w v R vs ns zs) (hR : R ≤ 40) (hs : sumT ns R ≤ 400) (h0 : tabErr R ns zs ≠ 0) :
    Calls Tryd.prog 11 #[v] w fun e w' => e = .returned (.tuple #[.slice none 0 0, errV a (tabErr R ns zs)]) ∧ Below w.heap.size w w' := by
  obtain ⟨ad, cap, rfl⟩ := h.form
  have ht := Table_any a _ R vs ns zs w hE h hR hs
  rw [errV_pos a h0] at ht ⊢
  clear hE h h0
  go_enter Tryd.func11, Tryd.ntmps11
  go_wp2_with (go_at_call 26; refine ht.mono ?_; rintro e w1 ⟨rfl, hb1⟩; have HB1 := Hid.mk' hb1; clear hb1)
  go_ret2
  exact ⟨rfl, HB1.out⟩

end Go.Proofs.YtgellgobgiolnabDoor

/- The law DistLess. -/
namespace Go.Proofs.YtgellgobgiolnabDoor
open Go.RowKit

theorem weightsErr_of {z : Nat → Int} {n : Nat} (hn : n ≤ 16) (h : OkW z n) : weightsErr z n = 0 := by
  unfold weightsErr listErr
  rw [if_neg (by omega)]
  have h1 : ¬ (negB z n = true ∨ someB z n = false) := by
    rintro (h1 | h1)
    · obtain ⟨i, hi, hz⟩ := (negB_iff z n).1 h1
      have := h.nn i hi
      omega
    · have h2 : ∀ i, i < n → z i = 0 := fun i hi => by
        have := h.nn i hi
        rcases Int.lt_or_le 0 (z i) with h3 | h3
        · have := (someB_iff z n).2 ⟨i, hi, h3⟩
          rw [h1] at this
          cases this
        · omega
      have h3 : sumN z n = 0 := by
        rw [sumN_congr h2]
        exact sumN_zero n
      have := h.pos
      omega
  rw [if_neg h1, if_neg (by have := h.le; omega)]
theorem cols_ok {R N : Nat} {ns : Nat → Nat} {zs : Nat → Nat → Int} (h : OkT R ns zs N) : OkW (colV zs R) (ns 0) ∧ sumN (colV zs R) (ns 0) = N := by
  have h1 : sumN (colV zs R) (ns 0) = N := by
    have h2 := h.tot
    have h3 : sumN (fun i => sumN (zs i) (ns i)) R = sumN (fun i => sumN (fun j => zs i j) (ns 0)) R := sumN_congr fun i hi => by rw [h.even i hi]
    rw [h3, sumN_swap] at h2
    exact h2
  have := h.n1
  have := h.n6
  exact ⟨⟨fun j hj => (h.col (Nat.le_refl R) hj).1, by omega, by omega⟩, h1⟩

set_option maxRecDepth 100000 in
set_option maxHeartbeats 4000000 in
theorem DistLess_ok (a : Nat → Addr) (ad : Option Addr) (R cap : Nat) (vs : Nat → Value) (ns : Nat → Nat) (zs : Nat → Nat → Int) (w : World) (hE : Errs w a) (k : TabAt w (.slice ad R cap) R vs ns zs) (hm : R ≤ maxLen) (hs : sumT ns R ≤ 2000000) (hf1 : R ≤ 40) (hf2 : sumT ns R ≤ 400) (h0 : tabErr R ns zs = 0) :
    Calls Tryd.prog 5 #[.slice ad R cap] w fun e w' => e = .returned (.bool true) ∧ Below w.heap.size w w' := by
  have hC := coin_any a w hE
  have HFW : Hid (∀ W, Below w.heap.size w W → Calls Tryd.prog 7 #[.slice ad R cap] W fun e w' => e = .returned (.bool true) ∧ Below W.heap.size W w') := fun W hb => few_any _ R vs ns zs W (k.later hb) hm hs true ⟨fun _ => ⟨hf1, hf2⟩, fun _ => rfl⟩
  obtain ⟨hR16, _, _, hok, hn256⟩ := tabErr_ok h0
  obtain ⟨N, hkT, hNN⟩ := tabErr_okT h0
  have HTE : Hid (∀ W, Below w.heap.size w W → Calls Tryd.prog 8 #[.slice ad R cap] W fun e w' => e = .returned (.int .i64 0) ∧ Below W.heap.size W w') := fun W hb => by
    have := TableError_any _ R vs ns zs W (k.later hb) hf1 hf2
    rw [h0] at this
    exact this
  have HLI : Hid (∀ W, Below w.heap.size w W → Calls Tryd.prog 10 #[.slice ad R cap] W fun e w' => ∃ ad' cap' us, e = .returned (.slice ad' R cap') ∧ TabAt w' (.slice ad' R cap') R us ns zs ∧ Below W.heap.size W w') := fun W hb => by
    refine (lists_any _ R vs ns zs W (k.later hb) hf1 hf2).mono ?_
    rintro e w' ⟨v, us, rfl, hv, hb'⟩
    obtain ⟨ad', cap', rfl⟩ := hv.form
    exact ⟨ad', cap', us, rfl, hv, hb'⟩
  have HCO : Hid (∀ (W : World) (ad' : Option Addr) (cap' : Nat) (us : Nat → Value), Below w.heap.size w W → TabAt W (.slice ad' R cap') R us ns zs → Calls Tryd.prog 11 #[.slice ad' R cap'] W fun e w' => ∃ g cp, e = .returned (.tuple #[.slice (some ⟨g, 0, none⟩) (ns 0) cp, .nilIface]) ∧ RowAt w' g 0 (ns 0) (colV zs R) ∧ Below W.heap.size W w') := fun W ad' cap' us hb hv => Columns_ok a ad' R cap' N us ns zs W (hE.below hb) hv hf1 hf2 h0 hkT
  have HEN : Hid (∀ (W : World) (g cp : Nat), Below w.heap.size w W → RowAt W g 0 (ns 0) (colV zs R) → Calls Tryd.prog 16 #[.slice (some ⟨g, 0, none⟩) (ns 0) cp] W fun e w' => ∃ dn v, e = .returned (.tuple #[.agg #[.int .i64 dn, v], .nilIface]) ∧ LogBy W.heap.size N (fun x => sumN (entV (colV zs R) N x) (ns 0)) w' dn v ∧ Below W.heap.size W w') := fun W g cp hb hr => Entropy_ok a g 0 cp (ns 0) N (colV zs R) W (hE.below hb) hr (weightsErr_of hkT.c16 (cols_ok hkT).1) (cols_ok hkT).2 (cols_ok hkT).1.nn hkT.c16 hkT.n1 hkT.n6 hkT.c0
  have HGI : Hid (∀ (W : World) (ad' : Option Addr) (cap' : Nat) (us : Nat → Value), Below w.heap.size w W → TabAt W (.slice ad' R cap') R us ns zs → Calls Tryd.prog 18 #[.slice ad' R cap'] W fun e w' => ∃ dn v, e = .returned (.tuple #[.agg #[.int .i64 dn, v], .nilIface]) ∧ LogBy W.heap.size N (fun x => sumN (givV ns zs x) R) w' dn v ∧ Below W.heap.size W w') := fun W ad' cap' us hb hv => Given_ok a ad' R cap' N _ us ns zs _ W (hE.below hb) hv hf1 hf2 h0 hkT rfl rfl hNN
  have HMU : Hid (∀ (W : World) (ad' : Option Addr) (cap' : Nat) (us : Nat → Value), Below w.heap.size w W → TabAt W (.slice ad' R cap') R us ns zs → Calls Tryd.prog 19 #[.slice ad' R cap'] W fun e w' => ∃ dn v, e = .returned (.tuple #[.agg #[.int .i64 dn, v], .nilIface]) ∧ LogBy W.heap.size N (fun x => sumN (fun i => sumN (mutV (zs i) (rowSum ns zs i) (colV zs R) N x) (ns 0)) R) w' dn v ∧ Below W.heap.size W w') := fun W ad' cap' us hb hv => Mutual_ok a ad' R cap' N us ns zs W (hE.below hb) hv hf1 hf2 h0 hkT
  obtain ⟨U, D, hU, hD, hle, hmu⟩ := told_sides hkT
  have hN6 : N ≤ 1000000 := by have := hkT.n6; omega
  have HSI : Hid (∀ (W : World) (b1 b2 : Nat) (d1 d2 : Int) (v1 v2 : Value), Below w.heap.size w W → LogBy b1 N (fun x => sumN (entV (colV zs R) N x) (ns 0)) W d1 v1 → LogBy b2 N (fun x => sumN (givV ns zs x) R) W d2 v2 → Calls Tryd.prog 22 #[.agg #[.int .i64 d1, v1], .agg #[.int .i64 d2, v2]] W fun e w' => (∃ z : Int, 0 ≤ z ∧ e = .returned (.int .i64 z)) ∧ Below W.heap.size W w') := fun W b1 b2 d1 d2 v1 v2 hb l1 l2 => sign_by a W (hE.below hb) l1 l2 hkT.n1 hN6 (ent_prim hkT) (giv_prim hkT) hU hD (fun q hq => by rw [less_told hkT]; exact hmu q hq) hle
  have HSG : Hid (∀ (W : World) (b : Nat) (d : Int) (v : Value), Below w.heap.size w W → LogBy b N (fun x => sumN (fun i => sumN (mutV (zs i) (rowSum ns zs i) (colV zs R) N x) (ns 0)) R) W d v → Calls Tryd.prog 23 #[.agg #[.int .i64 d, v]] W fun e w' => ((∃ z : Int, 0 ≤ z ∧ e = .returned (.tuple #[.int .i64 z, .nilIface])) ∨ ∃ ad, e = .returned (.tuple #[.int .i64 0, .iface 156 (.pointer (some ad))])) ∧ Below W.heap.size W w') := fun W b d v hb hl => by
    refine (Sign_by a W (hE.below hb) hl hkT.n1 hN6 (mut_prim hkT) hU hD hmu).mono ?_
    rintro e w' ⟨⟨z, rfl, k1, k2, k3⟩ | rfl, hb'⟩
    · refine ⟨Or.inl ⟨z, ?_, rfl⟩, hb'⟩
      rcases Nat.lt_or_ge D U with h1 | h1
      · rw [k1 h1]; decide
      · rw [k2 (by omega)]; decide
    · exact ⟨Or.inr ⟨_, rfl⟩, hb'⟩
  clear hE k h0 hok hn256 hNN hkT hU hD hle hmu hN6
  go_enter Tryd.func5, Tryd.ntmps5
  go_wp2_with (first
    | (go_at_call 6; refine hC.mono ?_; rintro e w1 ⟨rfl, hb1⟩; have HB1 := Hid.mk' hb1; clear hb1)
    | (go_at_call 7; refine (HFW.out w1 HB1.out).mono ?_; rintro e w2 ⟨rfl, hb2⟩; have HB2 := Hid.mk' (below_chain HB1.out hb2); clear hb2)
    | (go_at_call 8; refine (HTE.out w2 HB2.out).mono ?_; rintro e w3 ⟨rfl, hb3⟩; have HB3 := Hid.mk' (below_chain HB2.out hb3); clear hb3))
  refine (HLI.out w3 HB3.out).mono ?_
  clear hC HFW HTE
  rintro e w4 ⟨ad4, cap4, us4, rfl, ht4, hb4⟩
  have HB4 := Hid.mk' (below_chain HB3.out hb4)
  have hco := HCO.out w4 _ _ us4 HB4.out ht4
  clear ht4 hb4 HCO
  go_wp2_with fail
  refine hco.mono ?_
  clear hco
  rintro e w5 ⟨g5, cp5, rfl, hr5, hb5⟩
  have HB5 := Hid.mk' (below_chain HB4.out hb5)
  have hen := HEN.out w5 g5 cp5 HB5.out hr5
  clear hr5 hb5 HEN
  go_wp2_with fail
  refine hen.mono ?_
  clear hen
  rintro e w6 ⟨dn6, v6, rfl, hl6, hb6⟩
  obtain ⟨ad6, n6, cap6, rfl⟩ := hl6.form
  obtain ⟨W6, hW6⟩ : ∃ W6, W6 = w6.alloc (.cells #[.int .i64 dn6, .slice ad6 n6 cap6] 37) := ⟨_, rfl⟩
  have HL6 : Hid (∀ W, Below W6.heap.size W6 W → LogBy w5.heap.size N (fun x => sumN (entV (colV zs R) N x) (ns 0)) W dn6 (.slice ad6 n6 cap6)) := fun W hb => by rw [hW6] at hb; exact (hl6.later (new_below _ _)).later hb
  have HC6 : Hid (∀ W, Below W6.heap.size W6 W → W.cell? ⟨w6.heap.size, 0, none⟩ = some (.int .i64 dn6) ∧ W.cell? ⟨w6.heap.size, 1, none⟩ = some (.slice ad6 n6 cap6)) := fun W hb => by
    rw [hW6] at hb
    have := res_past hb
    exact ⟨this.1, this.2.1⟩
  have HB6 : Hid (Below w.heap.size w W6) := by rw [hW6]; exact more_below (below_chain HB5.out hb6) _
  have HW6 := Hid.mk' hW6
  clear hl6 hb6 hW6
  go_upto_region 6 with fail
  rw [← HW6.out]
  clear HW6
  go_wp2_with fail
  refine (HLI.out W6 HB6.out).mono ?_
  rintro e w7 ⟨ad7, cap7, us7, rfl, ht7, hb7⟩
  have HB67 := Hid.mk' hb7
  have hgi := HGI.out w7 _ _ us7 (below_chain HB6.out hb7) ht7
  clear ht7 hb7 HGI
  go_wp2_with fail
  refine hgi.mono ?_
  clear hgi
  rintro e w8 ⟨dn8, v8, rfl, hl8, hb8⟩
  obtain ⟨ad8, n8, cap8, rfl⟩ := hl8.form
  obtain ⟨W8, hW8⟩ : ∃ W8, W8 = w8.alloc (.cells #[.int .i64 dn8, .slice ad8 n8 cap8] 37) := ⟨_, rfl⟩
  have HL8 : Hid (∀ W, Below W8.heap.size W8 W → LogBy w7.heap.size N (fun x => sumN (givV ns zs x) R) W dn8 (.slice ad8 n8 cap8)) := fun W hb => by rw [hW8] at hb; exact (hl8.later (new_below _ _)).later hb
  have HC8 : Hid (∀ W, Below W8.heap.size W8 W → W.cell? ⟨w8.heap.size, 0, none⟩ = some (.int .i64 dn8) ∧ W.cell? ⟨w8.heap.size, 1, none⟩ = some (.slice ad8 n8 cap8)) := fun W hb => by
    rw [hW8] at hb
    have := res_past hb
    exact ⟨this.1, this.2.1⟩
  have HB68 : Hid (Below W6.heap.size W6 W8) := by rw [hW8]; exact more_below (below_chain HB67.out hb8) _
  have HB8 := Hid.mk' (below_chain HB6.out HB68.out)
  have HW8 := Hid.mk' hW8
  clear hl8 hb8 hW8
  go_upto_region 7 with fail
  rw [← HW8.out]
  clear HW8
  go_wp2_with fail
  refine (HLI.out W8 HB8.out).mono ?_
  rintro e w9 ⟨ad9, cap9, us9, rfl, ht9, hb9⟩
  have HB89 := Hid.mk' hb9
  have hmu := HMU.out w9 _ _ us9 (below_chain HB8.out hb9) ht9
  clear ht9 hb9 HMU HLI
  go_wp2_with fail
  refine hmu.mono ?_
  clear hmu
  rintro e w10 ⟨dn10, v10, rfl, hl10, hb10⟩
  obtain ⟨ad10, n10, cap10, rfl⟩ := hl10.form
  obtain ⟨W10, hW10⟩ : ∃ W10, W10 = w10.alloc (.cells #[.int .i64 dn10, .slice ad10 n10 cap10] 37) := ⟨_, rfl⟩
  have HL10 : Hid (∀ W, Below W10.heap.size W10 W → LogBy w9.heap.size N (fun x => sumN (fun i => sumN (mutV (zs i) (rowSum ns zs i) (colV zs R) N x) (ns 0)) R) W dn10 (.slice ad10 n10 cap10)) := fun W hb => by rw [hW10] at hb; exact (hl10.later (new_below _ _)).later hb
  have HC10 : Hid (∀ W, Below W10.heap.size W10 W → W.cell? ⟨w10.heap.size, 0, none⟩ = some (.int .i64 dn10) ∧ W.cell? ⟨w10.heap.size, 1, none⟩ = some (.slice ad10 n10 cap10)) := fun W hb => by
    rw [hW10] at hb
    have := res_past hb
    exact ⟨this.1, this.2.1⟩
  have HB810 : Hid (Below W8.heap.size W8 W10) := by rw [hW10]; exact more_below (below_chain HB89.out hb10) _
  have HB10 := Hid.mk' (below_chain HB8.out HB810.out)
  have HW10 := Hid.mk' hW10
  clear hl10 hb10 hW10
  have hsi := HSI.out W10 _ _ dn6 dn8 _ _ HB10.out (HL6.out W10 (below_chain HB68.out HB810.out)) (HL8.out W10 HB810.out)
  obtain ⟨x0, x1⟩ := HC6.out W10 (below_chain HB68.out HB810.out)
  obtain ⟨y0, y1⟩ := HC8.out W10 HB810.out
  clear HC6 HC8 HL6 HL8
  go_upto_region 8 with fail
  rw [← HW10.out]
  clear HW10
  go_wp2_with fail
  refine hsi.mono ?_
  clear hsi x0 x1 y0 y1
  rintro e w11 ⟨⟨z, hz, rfl⟩, hb11⟩
  obtain ⟨x0, x1⟩ := HC10.out w11 hb11
  have HB11 := Hid.mk' (below_chain HB10.out hb11)
  have hsg := HSG.out w11 _ dn10 _ HB11.out (HL10.out w11 hb11)
  clear hb11
  go_wp2_with fail
  refine hsg.mono ?_
  clear hsg x0 x1
  rintro e w12 ⟨⟨z', hz', rfl⟩ | ⟨ad', rfl⟩, hb12⟩
  · have HB12 := Hid.mk' (below_chain HB11.out hb12)
    clear hb12
    go_wp2_with fail
    go_ret
    exact ⟨rfl, HB12.out⟩
  · have HB12 := Hid.mk' (below_chain HB11.out hb12)
    clear hb12
    go_wp2_with fail
    go_ret
    exact ⟨rfl, HB12.out⟩

set_option maxRecDepth 100000 in
set_option maxHeartbeats 2000000 in
theorem DistLess_all (a : Nat → Addr) (ad : Option Addr) (R cap : Nat) (vs : Nat → Value) (ns : Nat → Nat) (zs : Nat → Nat → Int) (w : World) (hE : Errs w a) (k : TabAt w (.slice ad R cap) R vs ns zs) (hm : R ≤ maxLen) (hs : sumT ns R ≤ 2000000) :
    Calls Tryd.prog 5 #[.slice ad R cap] w fun e w' => e = .returned (.bool true) ∧ Below w.heap.size w w' := by
  by_cases hf : R ≤ 40 ∧ sumT ns R ≤ 400
  · by_cases h0 : tabErr R ns zs = 0
    · exact DistLess_ok a ad R cap vs ns zs w hE k hm hs hf.1 hf.2 h0
    · have hC := coin_any a w hE
      have HFW : Hid (∀ W, Below w.heap.size w W → Calls Tryd.prog 7 #[.slice ad R cap] W fun e w' => e = .returned (.bool true) ∧ Below W.heap.size W w') := fun W hb => few_any _ R vs ns zs W (k.later hb) hm hs true ⟨fun _ => hf, fun _ => rfl⟩
      have HTE : Hid (∀ W, Below w.heap.size w W → Calls Tryd.prog 8 #[.slice ad R cap] W fun e w' => e = .returned (.int .i64 (tabErr R ns zs : Int)) ∧ Below W.heap.size W w') := fun W hb => TableError_any _ R vs ns zs W (k.later hb) hf.1 hf.2
      generalize tabErr R ns zs = c at *
      clear hE k
      have hcb : (0 : Int) < (c : Int) := by omega
      go_enter Tryd.func5, Tryd.ntmps5
      go_wp2_with (first
        | (go_at_call 6; refine hC.mono ?_; rintro e w1 ⟨rfl, hb1⟩; have HB1 := Hid.mk' hb1; clear hb1)
        | (go_at_call 7; refine (HFW.out w1 HB1.out).mono ?_; rintro e w2 ⟨rfl, hb2⟩; have HB2 := Hid.mk' (below_chain HB1.out hb2); clear hb2)
        | (go_at_call 8; refine (HTE.out w2 HB2.out).mono ?_; rintro e w3 ⟨rfl, hb3⟩; have HB3 := Hid.mk' (below_chain HB2.out hb3); clear hb3))
      go_ret
      exact ⟨rfl, HB3.out⟩
  · have hC := coin_any a w hE
    have HFW : Hid (∀ W, Below w.heap.size w W → Calls Tryd.prog 7 #[.slice ad R cap] W fun e w' => e = .returned (.bool false) ∧ Below W.heap.size W w') := fun W hb => few_any _ R vs ns zs W (k.later hb) hm hs false ⟨(fun e => by cases e), (fun e => absurd e hf)⟩
    clear hE k hf
    go_enter Tryd.func5, Tryd.ntmps5
    go_wp2_with (first
      | (go_at_call 6; refine hC.mono ?_; rintro e w1 ⟨rfl, hb1⟩; have HB1 := Hid.mk' hb1; clear hb1)
      | (go_at_call 7; refine (HFW.out w1 HB1.out).mono ?_; rintro e w2 ⟨rfl, hb2⟩; have HB2 := Hid.mk' (below_chain HB1.out hb2); clear hb2))
    go_ret
    exact ⟨rfl, HB2.out⟩
end Go.Proofs.YtgellgobgiolnabDoor

/- What the rows' condition on package variables gives a walk: two sentinels. -/
namespace Go.Proofs.YtgellgobgiolnabDoor
open Go.ChangeShapes Go.WideShapes Go.RowKit

theorem Tryd.own : ownKnob Tryd.prog.godebug = none := by kernel_rfl
theorem Tryd.star : ("*" ++ "errors.errorString" : String) = "*errors.errorString" := by decide
theorem Tryd.rowE (u : TypeId) (h : Tryd.prog.typeName? 3 u = some "*errors.errorString") : u = 156 :=
  typeName_ptr_named (nm := "errors.errorString") (by rw [Tryd.star]; kernel_rfl) (by kernel_rfl) (by decide) u (by rw [Tryd.star]; exact h)
theorem Tryd.cellsE : Tryd.prog.cellsOf 177 = 1 := by kernel_rfl
theorem Tryd.cellsS : Tryd.prog.cellsOf 9 = 1 := by kernel_rfl
theorem Tryd.g1 : Tryd.prog.globalNamed "demon/api.ErrBound" = some 0 := by kernel_rfl
theorem Tryd.g2 : Tryd.prog.globalNamed "demon/api.ErrShape" = some 1 := by kernel_rfl

/-- Any number of listed sentinels of one type: each one's pointer, text and row; no two are one. -/
theorem laid_list {P : Program} {W : World} {nm : String} {ti tp te ts : TypeId} {ms : Array (String × TypeId)} {f : Field}
    (hi : P.underlying ti = some (.interface ms)) (hrow : ∀ u, P.typeName? 3 u = some nm → u = tp)
    (hp : P.underlying tp = some (.pointer te)) (he : P.underlying te = some (.struct #[f])) (hft : f.type = ts) (hfo : f.offset = 0) (hs : P.underlying ts = some .string) (hc : P.cellsOf te = 1) (hcs : P.cellsOf ts = 1) :
    ∀ (L : List (String × List UInt8)) (ps : List MemPlace), (∀ x, x ∈ L → ∃ g, P.globalNamed x.1 = some g ∧ (P.globals[g]?).map (·.type) = some ti) →
      DataW.LaidVars P W (L.map fun x => (x.1, .iface nm (.ptr (.agg [.lit (.string x.2)])))) ps → ps.Nodup →
      (∀ b off, MemPlace.cell b off ∈ ps → (∃ c t, W.heap[b]? = some (.cells c t (0, 0))) ∧ ∀ u v, W.cell? ⟨b, off, none⟩ = some (.iface u v) → Value.okWide P W .any 0 u v) →
      ∃ a : Nat → Addr, (∀ i x, L[i]? = some x → W.var? P x.1 = some #[.iface tp (.pointer (some (a i)))] ∧ (∃ s, W.cell? (a i) = some (.string s) ∧ s.data.toList = x.2) ∧
          (∃ c t, W.heap[(a i).block]? = some (.cells c t (0, 0))) ∧ MemPlace.cell (a i).block (a i).off ∈ ps) ∧
        ∀ i j, i < L.length → j < L.length → i ≠ j → a i ≠ a j := by
  intro L
  induction L with
  | nil => intro ps _ _ _ _; exact ⟨fun _ => default, fun i x h => by simp at h, fun i j h => by simp at h⟩
  | cons x r ih =>
    intro ps hgs hv hnd hrows
    obtain ⟨n, text⟩ := x
    obtain ⟨g0, t0, cs0, f0, p0, q0, hg0, ht0, hv0, hd0, hvr, e0⟩ := hv
    obtain ⟨g, hg, ht⟩ := hgs (n, text) (List.mem_cons_self ..)
    obtain rfl := Option.some.inj (hg.symm.trans hg0)
    obtain rfl := Option.some.inj (ht.symm.trans ht0)
    subst e0
    obtain ⟨l0⟩ := cs0
    have ok0 : ∀ u v, l0 = [.iface u v] → Value.okWide P W .any 0 u v := fun u v e => by
      subst e
      exact (hrows g 0 (by simp [MemPlace.row])).2 u v (by simpa using World.var?_cell hg0 hv0 0)
    obtain ⟨a0, s0, rfl, hc0, hs0, hz0, rfl⟩ := errorString_of_trod hi hrow hp he hft hfo hs hc hcs hd0 ok0
    obtain ⟨c0, tt0, hb0⟩ := (hrows a0.block a0.off (by simp [MemPlace.row])).1
    have hnq : q0.Nodup := List.Nodup.sublist (List.sublist_append_right _ _) hnd
    obtain ⟨a', ha', hne'⟩ := ih q0 (fun x hx => hgs x (List.mem_cons_of_mem _ hx)) hvr hnq (fun b off hm => hrows b off (List.mem_append_right _ hm))
    have hnot : MemPlace.cell a0.block a0.off ∉ q0 := by
      intro hm
      have := (List.nodup_append.1 hnd).2.2
      exact this (.cell a0.block a0.off) (by simp [MemPlace.row]) (.cell a0.block a0.off) hm rfl
    refine ⟨fun i => match i with | 0 => a0 | k + 1 => a' k, ?_, ?_⟩
    · intro i x hx
      cases i with
      | zero =>
        simp only [List.getElem?_cons_zero, Option.some.injEq] at hx
        subst hx
        exact ⟨hv0, ⟨s0, hc0, hs0⟩, ⟨c0, tt0, hb0⟩, by simp [MemPlace.row]⟩
      | succ k =>
        simp only [List.getElem?_cons_succ] at hx
        obtain ⟨h1, h2, h3, h4⟩ := ha' k x hx
        exact ⟨h1, h2, h3, List.mem_append_right _ h4⟩
    · have far : ∀ k, k < r.length → a0 ≠ a' k := fun k hk e => by
        obtain ⟨_, _, _, h4⟩ := ha' k r[k] (by simp [hk])
        rw [← e] at h4
        exact hnot h4
      intro i j hi' hj' hij
      cases i with
      | zero =>
        cases j with
        | zero => exact absurd rfl hij
        | succ k => exact far k (by simpa using hj')
      | succ m =>
        cases j with
        | zero => exact (far m (by simpa using hi')).symm
        | succ k => exact hne' m k (by simpa using hi') (by simpa using hj') (by omega)

/-- The names and texts, in the rows' order. -/
def twoNames : List (String × List UInt8) := [("demon/api.ErrBound", [100, 101, 109, 111, 110, 58, 32, 98, 111, 117, 110, 100]), ("demon/api.ErrShape", [100, 101, 109, 111, 110, 58, 32, 115, 104, 97, 112, 101])]
def laidAll : List (String × DataW Unit) := [("demon/api.ErrBound", Rows.laid_demon_api_ErrBound), ("demon/api.ErrShape", Rows.laid_demon_api_ErrShape)]
theorem laidAll_parts (W : World) : laidMetH Tryd.prog laidAll W = laidMet Tryd.prog (twoNames.map fun x => (x.1, .iface "*errors.errorString" (.ptr (.agg [.lit (.string x.2)])))) W := by kernel_rfl

theorem var_at {W : World} {n : String} {g : Nat} {v : Value} (hg : Tryd.prog.globalNamed n = some g) (h : W.var? Tryd.prog n = some #[v]) : W.cell? ⟨g, 0, none⟩ = some v := by
  simpa using World.var?_cell hg h 0

theorem errs_of_laid {W : World} (h : laidMetH Tryd.prog laidAll W) : ∃ a : Nat → Addr, Errs W a := by
  rw [laidAll_parts] at h
  obtain ⟨ps, hv, hnd, hrows⟩ := h
  obtain ⟨a, ha, hne⟩ := laid_list Tryd.underlying28 Tryd.rowE Tryd.underlying156 Tryd.underlying177 rfl rfl Tryd.underlying9 Tryd.cellsE Tryd.cellsS twoNames ps
    (fun x hx => by
      simp only [twoNames, List.mem_cons, List.not_mem_nil, or_false] at hx
      rcases hx with rfl | rfl
      · exact ⟨_, Tryd.g1, by kernel_rfl⟩
      · exact ⟨_, Tryd.g2, by kernel_rfl⟩) hv hnd hrows
  exact ⟨fun i => a (i - 1), ⟨var_at Tryd.g1 (ha 0 _ rfl).1, var_at Tryd.g2 (ha 1 _ rfl).1⟩⟩

/-- The door's own heap meets the condition. -/
theorem door_met (os : Os) (args : Array Value) : laidMetH Tryd.prog laidAll ((World.doorLaid Tryd.prog 168 os).forCall (fun _ _ => 0) ⟨#[], args, []⟩).memory := by
  rw [laidAll_parts]
  exact laidMet_of_run' 8 (by kernel_rfl) (by kernel_rfl)
end Go.Proofs.YtgellgobgiolnabDoor

/- A parameter of type []int opened. -/
namespace Go.Proofs.YtgellgobgiolnabDoor
open Go.ChangeShapes Go.WideShapes Go.ChangeAt Go.RowKit Go.Joins Go.Deep

theorem Tryd.laidOut : laidOutB Tryd.prog = true := by kernel_rfl
theorem Tryd.cellsInt : Tryd.prog.cellsOf 3 = 1 := by kernel_rfl
theorem Tryd.cellsInts : Tryd.prog.cellsOf 26 = 1 := by kernel_rfl

set_option maxRecDepth 100000 in
/-- What a parameter of type []int gives: its slice, its numbers. -/
theorem open_nums {H : Type} {enc : TypeId × Value → H} {W : World} {base : Nat} {v : Value} {d : DataW H} {p : List MemPlace} (hv : Value.okWide Tryd.prog W .any base 26 v)
    (h : DataW.Trod enc Tryd.prog W 0 (fun _ => true) true 26 v d p) :
    ∃ (ad : Option Addr) (n cap : Nat) (z : Nat → Int), v = .slice ad n cap ∧ n ≤ maxLen ∧ NumsAt W (.slice ad n cap) n z := by
  obtain ⟨ad, n, cap, rfl⟩ := okWide_slice Tryd.underlying26 hv
  obtain ⟨fuel, hf⟩ := h
  rcases open_ints Tryd.underlying26 Tryd.underlying3 Tryd.cellsInt hf with ⟨hc, _⟩ | ⟨a, len, cap', zs, hc, _, hl, hm, hz, _, hcell, _⟩
  · simp [Value.cells] at hc
    obtain ⟨rfl, rfl, rfl⟩ := hc
    exact ⟨none, 0, 0, fun _ => 0, rfl, Nat.zero_le _, Or.inl ⟨none, 0, rfl, rfl⟩⟩
  · simp [Value.cells] at hc
    obtain ⟨rfl, rfl, rfl⟩ := hc
    simp only [if_true] at hz
    rcases Nat.eq_zero_or_pos n with rfl | hpos
    · exact ⟨some a, 0, cap, fun _ => 0, rfl, Nat.zero_le _, Or.inl ⟨some a, cap, rfl, rfl⟩⟩
    · obtain ⟨b, o, spot⟩ := a
      have hspot : spot = none := by simpa [Addr.add] using World.cell?_spot (hcell 0 (by omega))
      subst hspot
      refine ⟨_, n, cap, fun i => zs.getD i 0, rfl, by omega, Or.inr ⟨b, o, cap, rfl, hpos, fun i hi => ?_⟩⟩
      have := hcell i (by omega)
      rw [Go.Proofs.YtgellgobgiolnabDoor.add_plain] at this
      exact this
end Go.Proofs.YtgellgobgiolnabDoor

/- A parameter of type [][]int opened; how many numbers it holds at the most. -/
namespace Go.Proofs.YtgellgobgiolnabDoor
open Go.ChangeShapes Go.WideShapes Go.ChangeAt Go.RowKit Go.Joins Go.Deep

theorem bulk_one {H : Type} (d : DataW H) : 1 ≤ Rows.uptoBulk d := by
  cases d with
  | lit l => cases l <;> simp [Rows.uptoBulk]
  | _ => simp [Rows.uptoBulk]
theorem bulk_len {H : Type} : ∀ l : List (DataW H), l.length ≤ Rows.uptoBulkAll l
  | [] => by simp [Rows.uptoBulkAll]
  | x :: r => by
    have h1 := bulk_one x
    have h2 := bulk_len r
    simp only [Rows.uptoBulkAll, List.length_cons]
    omega
theorem bulk_mem {H : Type} {d : DataW H} : ∀ {l : List (DataW H)}, d ∈ l → Rows.uptoBulk d ≤ Rows.uptoBulkAll l
  | x :: r, h => by
    simp only [Rows.uptoBulkAll]
    rcases List.mem_cons.1 h with rfl | h'
    · omega
    · have := bulk_mem h'; omega
theorem bulk_append {H : Type} : ∀ l r : List (DataW H), Rows.uptoBulkAll (l ++ r) = Rows.uptoBulkAll l + Rows.uptoBulkAll r
  | [], r => by simp [Rows.uptoBulkAll]
  | x :: l, r => by simp only [List.cons_append, Rows.uptoBulkAll, bulk_append l r]; omega
theorem bulk_sum {H : Type} (f : Nat → DataW H) (L : Nat → Nat) : ∀ n, (∀ r, r < n → L r ≤ Rows.uptoBulk (f r)) → sumT L n ≤ Rows.uptoBulkAll ((List.range n).map f)
  | 0, _ => Nat.zero_le _
  | n + 1, h => by
    have h1 := bulk_sum f L n (fun r hr => h r (by omega))
    have h2 := h n (by omega)
    show sumT L n + L n ≤ _
    rw [List.range_succ, List.map_append, bulk_append]
    simp only [List.map_cons, List.map_nil, Rows.uptoBulkAll]
    omega

set_option maxRecDepth 100000 in
theorem open_table {H : Type} {enc : TypeId × Value → H} {W : World} {base : Nat} {v : Value} {d : DataW H} {p : List MemPlace} (hv : Value.okWide Tryd.prog W .any base 22 v)
    (h : DataW.Trod enc Tryd.prog W 0 (fun _ => true) true 22 v d p) :
    ∃ (ad : Option Addr) (R cap : Nat) (vs : Nat → Value) (ns : Nat → Nat) (zs : Nat → Nat → Int), v = .slice ad R cap ∧ R ≤ maxLen ∧ TabAt W (.slice ad R cap) R vs ns zs ∧ sumT ns R ≤ Rows.uptoBulk d := by
  obtain ⟨ad, R, cap, rfl⟩ := okWide_slice Tryd.underlying22 hv
  obtain ⟨fuel, hf⟩ := h
  rcases open_int_rows Tryd.underlying22 Tryd.underlying26 Tryd.underlying3 Tryd.cellsInts Tryd.cellsInt hf with ⟨hc, _⟩ | ⟨a, len, cap', A, L, C, Z, hc, _, hl, hm, hx, hr⟩
  · simp [Value.cells] at hc
    obtain ⟨rfl, rfl, rfl⟩ := hc
    exact ⟨none, 0, 0, fun _ => .slice none 0 0, fun _ => 0, fun _ _ => 0, rfl, Nat.zero_le _, Or.inl ⟨none, 0, rfl, rfl⟩, Nat.zero_le _⟩
  · simp [Value.cells] at hc
    obtain ⟨rfl, rfl, rfl⟩ := hc
    simp only [Prod.mk.injEq] at hx
    obtain ⟨rfl, _⟩ := hx
    have hbulk : sumT L R ≤ Rows.uptoBulk (DataW.slice ((List.range R).map fun r => intRow .i64 (A r) (L r) (Z r)) ((List.range (cap - R)).map fun j => intRow .i64 (A (R + j)) (L (R + j)) (Z (R + j))) : DataW H) := by
      have h1 := bulk_sum (H := H) (fun r => intRow .i64 (A r) (L r) (Z r)) L R (fun r hr' => by
        obtain ⟨_, h2, _, h4, _, h6, _⟩ := hr r (by omega)
        cases hA : A r with
        | none => have := h6 hA; omega
        | some a' =>
          have h7 := bulk_len (H := H) (lits .i64 ((Z r).take (L r)))
          have h8 : (lits (H := H) .i64 ((Z r).take (L r))).length = L r := by simp [lits]; omega
          simp only [intRow, Rows.uptoBulk]
          omega)
      simp only [Rows.uptoBulk]
      omega
    rcases Nat.eq_zero_or_pos R with rfl | hpos
    · exact ⟨some a, 0, cap, fun _ => .slice none 0 0, L, fun _ _ => 0, rfl, Nat.zero_le _, Or.inl ⟨some a, cap, rfl, rfl⟩, hbulk⟩
    · obtain ⟨b, o, spot⟩ := a
      have hspot : spot = none := by simpa [Addr.add] using World.cell?_spot (hr 0 (by omega)).1
      subst hspot
      refine ⟨_, R, cap, fun r => .slice (A r) (L r) (C r), L, fun r i => (Z r).getD i 0, rfl, by omega, Or.inr ⟨b, o, cap, rfl, hpos, fun i hi => ?_⟩, hbulk⟩
      obtain ⟨h1, h2, _, h4, _, h6, h7⟩ := hr i (by omega)
      rw [Go.Proofs.YtgellgobgiolnabDoor.add_plain] at h1
      refine ⟨h1, ?_⟩
      rcases Nat.eq_zero_or_pos (L i) with h0 | h0
      · exact Or.inl ⟨A i, C i, by dsimp only; rw [h0], h0⟩
      · cases hA : A i with
        | none => have := h6 hA; omega
        | some a' =>
          obtain ⟨_, h8⟩ := h7 a' hA
          obtain ⟨b', o', spot'⟩ := a'
          have hs' : spot' = none := by simpa [Addr.add] using World.cell?_spot (h8 0 (by omega))
          subst hs'
          refine Or.inr ⟨b', o', C i, by dsimp only; rw [hA], h0, fun j hj => ?_⟩
          have := h8 j (by omega)
          rw [Go.Proofs.YtgellgobgiolnabDoor.add_plain] at this
          exact this
theorem bulk_bound {H : Type} {l : List (DataW H)} (hk : Rows.uptoSmall H l = true) : Rows.uptoBulkAll l ≤ 1048576 := of_decide_eq_true hk
end Go.Proofs.YtgellgobgiolnabDoor
