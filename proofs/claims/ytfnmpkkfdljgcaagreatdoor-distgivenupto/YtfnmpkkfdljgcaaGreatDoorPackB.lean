/- dist.Entropy at any weights. -/
import Derived.Test.YtfnmpkkfdljgcaaGreatDoorPackA
import Derived.Test.YtfnmpkkfdljgcaaGreatDoorTabP
import Derived.Test.YtfnmpkkfdljgcaaGreatDoorTabErr
import Derived.Test.YtfnmpkkfdljgcaaGreatDoorWeights
import Derived.Test.YtfnmpkkfdljgcaaGreatDoorPutEnt
import Derived.Test.YtfnmpkkfdljgcaaGreatDoorRows
import Derived.Test.YtfnmpkkfdljgcaaGreatDoorCode
import Derived.ChangeSame
import Derived.ChangeVars
import Derived.JoinedOf
import Derived.LaidLaws
import Derived.LaidHandle
import Derived.LaidMore
import Derived.Stop.Joined
import Derived.Test.YtfnmpkkfdljgcaaGreatDoorInts
import Derived.Test.YtfnmpkkfdljgcaaGreatDoorCards
import Derived.Test.YtfnmpkkfdljgcaaGreatDoorTie
import Derived.SevenTiedAt
import Derived.ProofKit
import Derived.OpenShut
import Derived.ChangeOld
import Derived.Lib.SmallJoins
import Derived.Deep.Matrix
import Derived.Test.YtfnmpkkfdljgcaaGreatDoorTab
import Derived.Deep.DeepHandedRow
import Derived.Deep.DeepWitnessRowRef
namespace Go.Proofs.YtfnmpkkfdljgcaaGreatDoor
open Go.RowKit Go.Maps

theorem new_one {w w1 : World} {x : Value} {t : TypeId} (hb : Below (w.alloc (.cells #[x] t)).heap.size (w.alloc (.cells #[x] t)) w1) : w1.cell? ⟨w.heap.size, 0, none⟩ = some x := by
  have c0 : (w.alloc (.cells #[x] t)).cell? ⟨w.heap.size, 0, none⟩ = some x := by rw [World.cell?_alloc_at _ _ _ _ rfl]; rfl
  exact (cell_past c0 hb).2

set_option maxRecDepth 100000 in
theorem Entropy_parts (den : Int) (mb B b o cap n : Nat) (z : Nat → Int) (w : World) (hown : w.ownsMap Tryz.prog 3 (plainElem (H := Unit) Tryz.prog 3) mb 0 (mapOf [])) (hB : w.cell? ⟨B, 0, none⟩ = some (.slice (some ⟨b, o, none⟩) n cap)) (h : RowAt w b o n z) (hz : ∀ i, i < n → 0 ≤ z i) (hs : sumN z n ≤ 4096) (hn : n ≤ 256) :
    Calls Tryz.prog 42 #[putV den mb, .pointer (some ⟨B, 0, none⟩)] w fun e w' => e = .returned (.tuple #[]) ∧ ∃ l nn, Puts w w' mb (fun x => sumN (entV z (sumN z n).toNat x) n) (2 * n) [] 0 l nn := by
  have hp := putEntropy_some den mb 0 b o cap n z [] w hown List.Pairwise.nil (fun e he => by cases he) (fun x => by simp [atL]) (by omega) h hz hs hn
  clear hown h hz hs
  unfold putV at hp ⊢
  go_enter Tryz.func42, Tryz.ntmps42
  go_wp2_with fail
  refine hp.mono ?_
  clear hp
  rintro e w1 ⟨rfl, l, nn, hpt⟩
  have HP := Hid.mk' hpt
  clear hpt
  go_wp2_with fail
  go_end0
  exact ⟨rfl, l, nn, HP.out⟩

theorem ent_bound {z : Nat → Int} {n N : Nat} (hz : ∀ i, i < n → 0 ≤ z i ∧ z i ≤ 4096) (hN : N ≤ 4096) (hn : n ≤ 256) (x : Int) : -1000000000 ≤ sumN (entV z N x) n ∧ sumN (entV z N x) n ≤ 1000000000 := by
  have h3 := sumN_bound (f := entV z N x) (B := 200000) (n := n) (fun i hi => entV_le x (hz i hi) hN)
  have : (n : Int) * 200000 ≤ 51200000 := by omega
  omega

set_option maxRecDepth 100000 in
set_option maxHeartbeats 1000000 in
theorem Entropy_ok (a : Nat → Addr) (b o cap n N : Nat) (z : Nat → Int) (w : World) (hE : Errs w a) (h : RowAt w b o n z) (h0 : weightsErr z n = 0) (hN : sumN z n = N) (hz : ∀ i, i < n → 0 ≤ z i) (hn : n ≤ 16) (hN1 : 1 ≤ N) (hN6 : N ≤ 4096) (h0n : 0 < n) :
    Calls Tryz.prog 18 #[.slice (some ⟨b, o, none⟩) n cap] w fun e w' => ∃ dn v, e = .returned (.tuple #[.agg #[.int .i64 dn, v], .nilIface]) ∧ LogBy w.heap.size N (fun x => sumN (entV z N x) n) w' dn v ∧ Below w.heap.size w w' := by
  have hzi : ∀ i, i < n → 0 ≤ z i ∧ z i ≤ 4096 := fun i hi => ⟨hz i hi, by have := sumN_ge hz hi; omega⟩
  have hle : ∀ k, k ≤ n → 0 ≤ sumN z k ∧ sumN z k ≤ 4096 := fun k hk => ⟨sumN_nonneg (fun i hi => hz i (by omega)), by have := sumN_mono hz hk; omega⟩
  obtain ⟨W0, hW0⟩ : ∃ W0, W0 = (w.alloc (.cells #[.slice (some ⟨b, o, none⟩) n cap] 31)).alloc (.cells #[.int .i64 0, .slice none 0 0] 28) := ⟨_, rfl⟩
  have hb0 : Below w.heap.size w W0 := by rw [hW0]; exact below_chain (new_below _ _) (new_below _ _)
  have hbox : W0.cell? ⟨w.heap.size, 0, none⟩ = some (.slice (some ⟨b, o, none⟩) n cap) := by rw [hW0]; exact new_one (new_below _ _)
  have hres : ∀ W, Below W0.heap.size W0 W → W.cell? ⟨w.heap.size + 1, 0, none⟩ = some (.int .i64 0) ∧ W.cell? ⟨w.heap.size + 1, 1, none⟩ = some (.slice none 0 0) ∧ W.frozen? ⟨w.heap.size + 1, 0, none⟩ = false ∧ W.frozen? ⟨w.heap.size + 1, 1, none⟩ = false := fun W hb => by
    rw [hW0] at hb
    have := res_past hb
    simpa using this
  have hv := Valid_weights a (.slice (some ⟨b, o, none⟩) n cap) n z W0 (hE.below hb0) (Or.inr ⟨b, o, cap, rfl, h0n, h.later hb0⟩) (by omega)
  rw [h0] at hv
  have ht := total_some b o cap n z W0 (h.later hb0) (fun k hk => by have := hle k hk; omega) (fun i hi => by have := hzi i hi; omega) (by omega)
  rw [hN] at ht
  have hso := sumOver_any 42 #[.pointer (some ⟨w.heap.size, 0, none⟩)] N (2 * n) (fun x => sumN (entV z N x) n) W0 (enters_of Tryz.func42 (by kernel_rfl) rfl) hN1 hN6 (by omega) (fun x => ent_bound hzi hN6 (by omega) x)
    (fun W mb hb ho => by
      have := Entropy_parts N mb w.heap.size b o cap n z W ho (cell_past hbox hb).2 ((h.later hb0).later hb) hz (by omega) (by omega)
      rw [hN, Int.toNat_natCast] at this
      exact this)
  have HB0 := Hid.mk' hb0
  have HRES := Hid.mk' hres
  have HW0 := Hid.mk' hW0
  have hlt : w.heap.size + 1 < W0.heap.size := by rw [hW0]; simp
  have HLT := Hid.mk' hlt
  clear hE h hb0 hres hW0 hzi hle hz hN h0 hlt
  go_enter Tryz.func18, Tryz.ntmps18
  go_upto_region 1 with fail
  rw [← HW0.out]
  go_wp2_with fail
  refine hv.mono ?_
  clear hv
  rintro e w1 ⟨rfl, hw1⟩
  rw [hw1]
  clear hw1
  rw [errV_zero]
  go_wp2_with (first
    | (go_at_call 27; refine ht.mono ?_; rintro e w2 ⟨rfl, hw2⟩; rw [hw2]; clear hw2)
    | (go_at_call 26; refine hso.mono ?_; rintro e w3 ⟨dn, v, rfl, hlb, hb3⟩; obtain ⟨c0, c1, q0, q1⟩ := HRES.out w3 hb3; have HBW := Hid.mk' (below_chain HB0.out hb3); have HLB := Hid.mk' hlb; obtain ⟨ad, n', c', rfl⟩ := hlb.form; clear hlb))
  refine bodyPost_ret (v := .tuple #[.agg #[.int .i64 dn, .slice ad n' c'], .nilIface]) (by simp [results, Tryz.results18, go_sem, c0, c1]) rfl ⟨_, .slice ad n' c', rfl, (HLB.out.set HLT.out _ _).lower (by have := HLT.out; omega), ?_⟩
  exact (HBW.out.setCell (by simp) _).setCell (by simp) _

set_option maxRecDepth 100000 in
set_option maxHeartbeats 1000000 in
theorem Entropy_bad (a : Nat → Addr) (v : Value) (n : Nat) (z : Nat → Int) (w : World) (hE : Errs w a) (h : NumsAt w v n z) (hn : n ≤ 400) (h0 : weightsErr z n ≠ 0) :
    Calls Tryz.prog 18 #[v] w fun e w' => e = .returned (.tuple #[.agg #[.int .i64 0, .slice none 0 0], errV a (weightsErr z n)]) ∧ Below w.heap.size w w' := by
  obtain ⟨ad, cap, rfl⟩ := h.form
  obtain ⟨W0, hW0⟩ : ∃ W0, W0 = (w.alloc (.cells #[.slice ad n cap] 31)).alloc (.cells #[.int .i64 0, .slice none 0 0] 28) := ⟨_, rfl⟩
  have hb0 : Below w.heap.size w W0 := by rw [hW0]; exact below_chain (new_below _ _) (new_below _ _)
  have hbox : W0.cell? ⟨w.heap.size, 0, none⟩ = some (.slice ad n cap) := by rw [hW0]; exact new_one (new_below _ _)
  have hres : W0.cell? ⟨w.heap.size + 1, 0, none⟩ = some (.int .i64 0) ∧ W0.cell? ⟨w.heap.size + 1, 1, none⟩ = some (.slice none 0 0) ∧ W0.frozen? ⟨w.heap.size + 1, 0, none⟩ = false ∧ W0.frozen? ⟨w.heap.size + 1, 1, none⟩ = false := by
    rw [hW0]
    simp
  have hv := Valid_weights a (.slice ad n cap) n z W0 (hE.below hb0) (h.later hb0) (by omega)
  rw [errV_pos a h0] at hv ⊢
  generalize a (weightsErr z n - 1) = ea at hv ⊢
  obtain ⟨c0, c1, q0, q1⟩ := hres
  have HB0 := Hid.mk' hb0
  have HW0 := Hid.mk' hW0
  clear hE h hb0 hW0 h0
  go_enter Tryz.func18, Tryz.ntmps18
  go_upto_region 1 with fail
  rw [← HW0.out]
  go_wp2_with (go_at_call 41; refine hv.mono ?_; rintro e w1 ⟨rfl, hw1⟩; rw [hw1]; clear hw1)
  refine bodyPost_ret (v := .tuple #[.agg #[.int .i64 0, .slice none 0 0], .iface 159 (.pointer (some ea))]) (by simp [results, Tryz.results18, go_sem, c0, c1]) rfl ⟨rfl, ?_⟩
  exact (HB0.out.setCell (by simp) _).setCell (by simp) _
end Go.Proofs.YtfnmpkkfdljgcaaGreatDoor

/- The document's Told of a sum that has a form; EntropyOf. -/
namespace Go.Proofs.YtfnmpkkfdljgcaaGreatDoor
open Go.RowKit

theorem row_form {w : World} {base : Nat} {t : TypeId} {sz : Nat} {v : Value} {n : Nat} {xs : List Value} (h : w.ownsRow base t sz v n xs) : ∃ ad cap, v = .slice ad n cap := by
  rcases h.2 with ⟨rfl, h0⟩ | ⟨gg, cap', cur', rfl, _⟩
  · exact ⟨none, 0, by rw [h0]⟩
  · exact ⟨_, _, rfl⟩
theorem WTold_by (base M B : Nat) (vp vc : Value) (L : List Ent) (f : Int → Int) (w : World) (hW : WideAt base M w B vp vc L) (hr : Rising (absL L)) (hM : 0 < M) (hM6 : M ≤ 4096) (hlen : L.length ≤ 90000) (hv : ∀ x, atL (absL L) x = f x) (hf : ∀ x, -1000000000 ≤ f x ∧ f x ≤ 1000000000) :
    Calls Tryz.prog 23 #[.pointer (some ⟨B, 0, none⟩)] w fun e w' => ∃ dn v, e = .returned (.tuple #[.agg #[.int .i64 dn, v], .int .i64 0]) ∧ LogBy w.heap.size M f w' dn v ∧ Below w.heap.size w w' := by
  have p3 : (1000000 : Nat) ^ 3 = 1000000000000000000 := by decide
  obtain ⟨adp, capp, rfl⟩ := row_form hW.P
  obtain ⟨adc, capc, rfl⟩ := row_form hW.C
  have hzs : (absL L).map Prod.snd = zsOf L := by simp [absL, zsOf]
  have hz : ∀ e ∈ L, e.z.natAbs ≤ 1000000000 := fun e he => by
    have h0 := atL_mem hr (absL_mem he)
    simp only at h0
    have h1 := hf (e.p : Int)
    rw [← hv, h0] at h1
    omega
  have hfit : FitsW M (gList M (zsOf L)) L := ⟨Nat.le_trans (Nat.div_le_self _ _) (by omega), fun e he => by
    rw [Int.natAbs_tdiv]
    exact Nat.le_trans (Nat.div_le_self _ _) (by have := hz e he; omega)⟩
  refine (WTold_any base M B adp adc capp capc L 3 (gList M (zsOf L)) true w hW hM (by omega) (fun e he => by rw [p3]; have := hz e he; omega) (by rw [p3]; omega) (by decide) (by decide) rfl ⟨fun _ => hfit, fun _ => rfl⟩).mono ?_
  rintro e w' ⟨⟨_, v, rfl, hrow⟩ | ⟨h0, _⟩, hb⟩
  · refine ⟨_, v, rfl, ⟨absL L, hr, hv, by rw [absL_length]; exact hlen, by rw [hzs], ?_⟩, hb⟩
    rw [hzs, ← flat_cells]
    exact hrow
  · cases h0

set_option maxRecDepth 100000 in
set_option maxHeartbeats 2000000 in
theorem EntropyOf_some (b o cap n N : Nat) (z : Nat → Int) (w : World) (h : RowAt w b o n z) (hN : sumN z n = N) (hz : ∀ i, i < n → 0 ≤ z i) (hn : n ≤ 256) (hN1 : 1 ≤ N) (hN6 : N ≤ 4096) :
    Calls Tryz.prog 9 #[.slice (some ⟨b, o, none⟩) n cap] w fun e w' => ∃ dn v, e = .returned (.tuple #[.agg #[.int .i64 dn, v], .int .i64 0]) ∧ LogBy w.heap.size N (fun x => sumN (entV z N x) n) w' dn v ∧ Below w.heap.size w w' := by
  have hzi : ∀ i, i < n → 0 ≤ z i ∧ z i ≤ 4096 := fun i hi => ⟨hz i hi, by have := sumN_ge hz hi; omega⟩
  obtain ⟨W0, hW0⟩ : ∃ W0, W0 = w.alloc (.cells #[.int .i64 0, .slice none 0 0] 28) := ⟨_, rfl⟩
  have hb0 : Below w.heap.size w W0 := by rw [hW0]; exact new_below _ _
  have hz0 : W0.heap.size = w.heap.size + 1 := by rw [hW0]; simp
  have hres : ∀ W, Below W0.heap.size W0 W → W.cell? ⟨w.heap.size, 0, none⟩ = some (.int .i64 0) ∧ W.cell? ⟨w.heap.size, 1, none⟩ = some (.slice none 0 0) ∧ W.frozen? ⟨w.heap.size, 0, none⟩ = false ∧ W.frozen? ⟨w.heap.size, 1, none⟩ = false := fun W hb => by
    rw [hW0] at hb
    exact res_past hb
  obtain ⟨W1, hW1⟩ : ∃ W1, W1 = W0.alloc (.cells #[.slice none 0 0, .slice none 0 0] 48) := ⟨_, rfl⟩
  have hb1 : Below W0.heap.size W0 W1 := by rw [hW1]; exact new_below _ _
  have hwd : WideAt W0.heap.size N W1 W0.heap.size (.slice none 0 0) (.slice none 0 0) [] := by
    rw [hW1]
    exact ⟨Nat.le_refl _, by simp, by simp, by simp, by simp, World.ownsRow_nil _ _ _ _, World.ownsRow_nil _ _ _ _, (fun e he => by cases he), fun _ => ⟨rfl, rfl⟩⟩
  have hro : Calls Tryz.prog 22 #[.int .i64 1, .int .i64 1] W1 fun e w' => ∃ r, e = .returned r ∧ RatioAt w' r (lowN N N) (lowD N N) ∧ Below W1.heap.size W1 w' := by
    have := RatioOf_low 1 1 W1 (by omega) (by omega) (by omega)
    rw [(low_one 1).1, (low_one 1).2] at this
    rw [(low_self hN1).1, (low_self hN1).2]
    exact this
  have hent : ∀ (W : World) (r : Value), Below W1.heap.size W1 W → RatioAt W r (lowN N N) (lowD N N) → Calls Tryz.prog 21 #[.pointer (some ⟨W0.heap.size, 0, none⟩), .slice (some ⟨b, o, none⟩) n cap, r] W fun e w' => e = .returned (.tuple #[]) ∧ ∃ vp' vc' L', WPuts W0.heap.size N W0.heap.size W w' (fun x => sumN (entV z N x) n) (2 * n) [] vp' vc' L' := fun W r hb hr' =>
    WEntropy_some W0.heap.size N W0.heap.size b o cap n N z r _ _ [] W (hwd.later hb) hr' hN1 hN6 List.Pairwise.nil (by simp) (fun x => by simp [absL, atL]) ((h.later (below_chain hb0 hb1)).later hb) hz hN hN1 hN6 hn
  have HB0 := Hid.mk' hb0
  have HB1 := Hid.mk' hb1
  have HRES := Hid.mk' hres
  have HW0 := Hid.mk' hW0
  have HW1 := Hid.mk' hW1
  have HZ0 := Hid.mk' hz0
  have HENT := Hid.mk' hent
  have HF : Hid (∀ x, -1000000000 ≤ sumN (entV z N x) n ∧ sumN (entV z N x) n ≤ 1000000000) := fun x => ent_bound hzi hN6 hn x
  clear hb0 hb1 hres hW0 hW1 hz0 hent hwd h hz hzi hN
  go_enter Tryz.func9, Tryz.ntmps9
  go_upto_region 1 with fail
  rw [← HW0.out]
  go_upto_region 2 with fail
  rw [← HW1.out]
  go_wp2_with (first
    | (go_at_call 22; refine hro.mono ?_; rintro e w2 ⟨r2, rfl, hr2, hb2⟩; have HR2 := Hid.mk' hr2; have HB2 := Hid.mk' hb2; obtain ⟨s, ad, l, ca, ad', l', ca', rfl⟩ := hr2.parts; clear hr2 hb2)
    | (go_at_call 21; refine (HENT.out _ _ HB2.out HR2.out).mono ?_; rintro e w3 ⟨rfl, vp3, vc3, L3, h3⟩; have H3 := Hid.mk' h3; clear h3))
  have hbA : Below W0.heap.size W0 w3 := (below_chain HB1.out HB2.out).trans H3.out.below
  have ht := WTold_by W0.heap.size N W0.heap.size vp3 vc3 L3 (fun x => sumN (entV z N x) n) w3 H3.out.wide H3.out.rise hN1 hN6 (by have := H3.out.len; simp at this; omega) (fun x => by have := H3.out.val x; simpa [absL, atL] using this) HF.out
  refine ht.mono ?_
  clear ht
  rintro e w4 ⟨dn, v, rfl, hlb, hb4⟩
  obtain ⟨c0, c1, q0, q1⟩ := HRES.out w4 (below_chain hbA hb4)
  have HBW := Hid.mk' (below_chain HB0.out (below_chain hbA hb4))
  have HLT : Hid (w.heap.size < w3.heap.size) := by have h1 := HZ0.out; have h2 := hbA.size; show _ < _; omega
  have HLB := Hid.mk' hlb
  obtain ⟨ad9, n9, c9, rfl⟩ := hlb.form
  clear hlb hbA hb4 HRES
  go_wp2_with fail
  refine bodyPost_ret (v := .tuple #[.agg #[.int .i64 dn, .slice ad9 n9 c9], .int .i64 0]) (by simp [results, Tryz.results9, go_sem, c0, c1]) rfl ⟨_, .slice ad9 n9 c9, rfl, (HLB.out.set HLT.out _ _).lower (Nat.le_of_lt HLT.out), ?_⟩
  exact (HBW.out.setCell (by simp) _).setCell (by simp) _
end Go.Proofs.YtfnmpkkfdljgcaaGreatDoor

/- The law's closed fact: of a fair coin the entropy is 1. -/
namespace Go.Proofs.YtfnmpkkfdljgcaaGreatDoor
open Go.RowKit Go.Maps

theorem pr_two' : Pr 2 := (isPr_iff 2).1 (by decide)
theorem coin_val (x : Int) : sumN (entV (fun _ => 3) 6 x) 2 = atL [((2 : Int), (6 : Int))] x := by
  have h := multI_step x (n := 6) (d := 2) (by decide) pr_two' (by decide)
  have e : 6 / 2 = 3 := by decide
  rw [e] at h
  show 0 + (3 * multI x 6 - 3 * multI x (3 : Int).toNat) + (3 * multI x 6 - 3 * multI x (3 : Int).toNat) = if (2 : Int) = x then 6 else 0
  have e3 : (3 : Int).toNat = 3 := rfl
  rw [e3, h]
  rw [show ((2 : Nat) : Int) = 2 from rfl]
  by_cases hx : x = 2
  · subst hx; simp; omega
  · rw [if_neg hx, if_neg (fun e => hx e.symm)]; omega
theorem coin_list {base : Nat} {w : World} {dn : Int} {v : Value} (h : LogBy base 6 (fun x => sumN (entV (fun _ => 3) 6 x) 2) w dn v) : dn = 1 ∧ OwnAt w v 1 (fun _ => 2) (fun _ => 1) := by
  obtain ⟨l, hr, hv, _, hd, hl⟩ := h.list
  have he : ∀ x, atL l x = atL [((2 : Int), (6 : Int))] x := fun x => by rw [hv, coin_val]
  have hr' : Rising [((2 : Int), (6 : Int))] := List.pairwise_singleton _ _
  rw [gList_same hr hr' he, over_same hr hr' he] at hl
  rw [gList_same hr hr' he] at hd
  have e1 : overL (gList 6 (List.map Prod.snd [((2 : Int), (6 : Int))])) [((2 : Int), (6 : Int))] = [(2, 1)] := by decide
  rw [e1] at hl
  refine ⟨by rw [hd]; decide, ?_⟩
  rcases hl with ⟨_, h0⟩ | ⟨g, cap, h1, h2⟩
  · cases h0
  · refine Or.inr ⟨g, cap, h1, fun k hk => ?_⟩
    obtain rfl : k = 0 := by omega
    exact h2 0 (by decide)

set_option maxRecDepth 100000 in
set_option maxHeartbeats 1000000 in
theorem coin_any (a : Nat → Addr) (w : World) (hE : Errs w a) : Calls Tryz.prog 6 #[] w fun e w' => e = .returned (.bool true) ∧ Below w.heap.size w w' := by
  have hb0 : Below w.heap.size w (w.alloc (.cells #[.int .i64 3, .int .i64 3] 3)) := new_below _ _
  have hent := Entropy_ok a w.heap.size 0 2 2 6 (fun _ => 3) (w.alloc (.cells #[.int .i64 3, .int .i64 3] 3)) (hE.below hb0) (fun i hi => by
    rcases (show i = 0 ∨ i = 1 by omega) with rfl | rfl
    · simp
    · simp) (by decide) (by decide) (fun i _ => by decide) (by decide) (by decide) (by decide) (by decide)
  have HB0 := Hid.mk' hb0
  clear hE hb0
  go_enter Tryz.func6, Tryz.ntmps6
  go_wp2_with fail
  refine hent.mono ?_
  clear hent
  rintro e w1 ⟨dn, v, rfl, hlb, hb1⟩
  obtain ⟨rfl, hown⟩ := coin_list hlb
  obtain ⟨ad, m, cap, rfl⟩ := own_form hown
  have hbW : Below w1.heap.size w1 ((w1.alloc (.cells #[.int .i64 1, .slice ad m cap] 28)).alloc (.cells #[.int .i64 2, .int .i64 1] 43)) := below_chain (new_below _ _) (new_below _ _)
  have hS := same_own 1 (.slice ad m cap) (.slice (some ⟨w1.heap.size + 1, 0, none⟩) 1 1) 1 (fun _ => 2) (fun _ => 1) ((w1.alloc (.cells #[.int .i64 1, .slice ad m cap] 28)).alloc (.cells #[.int .i64 2, .int .i64 1] 43)) (OwnAt.later hown hbW)
    (Or.inr ⟨w1.heap.size + 1, 1, rfl, fun k hk => by
      obtain rfl : k = 0 := by omega
      exact ⟨by simp, by simp⟩⟩) (by decide)
  have HB := Hid.mk' (below_chain (below_chain HB0.out hb1) hbW)
  clear hlb hown hb1 hbW HB0
  go_wp2_with fail
  refine hS.mono ?_
  clear hS
  rintro e w2 ⟨rfl, hb2⟩
  go_wp2_with fail
  go_ret
  exact ⟨rfl, below_chain HB.out hb2⟩
end Go.Proofs.YtfnmpkkfdljgcaaGreatDoor

/- isLog at errors. -/
namespace Go.Proofs.YtfnmpkkfdljgcaaGreatDoor
open Go.RowKit

theorem isLog_bad (a : Nat → Addr) (c : Nat) (hc : c ≠ 0) (hc8 : c ≤ 8) (d2 : Int) (ad2 : Option Addr) (m2 cap2 : Nat) (w : World) (h : Errs w a) :
    Calls Tryz.prog 13 #[.agg #[.int .i64 0, .slice none 0 0], errV a c, .agg #[.int .i64 d2, .slice ad2 m2 cap2], .int .i64 (c : Int)] w fun e w' => e = .returned (.bool true) ∧ Below w.heap.size w w' := by
  have h1 := isLog_err a (c - 1) (by omega) d2 ad2 m2 cap2 w h
  rw [errV_pos a hc]
  have e : ((c - 1 : Nat) : Int) + 1 = (c : Int) := by omega
  rw [e] at h1
  exact h1
/-- A result's box behind calls. -/
theorem box_past2 {w w1 : World} {x y : Value} {t : TypeId} (hb : Below (w.alloc (.cells #[x, y] t)).heap.size (w.alloc (.cells #[x, y] t)) w1) : w1.cell? ⟨w.heap.size, 0, none⟩ = some x ∧ w1.cell? ⟨w.heap.size, 1, none⟩ = some y ∧ w1.frozen? ⟨w.heap.size, 0, none⟩ = false ∧ w1.frozen? ⟨w.heap.size, 1, none⟩ = false := res_past hb

end Go.Proofs.YtfnmpkkfdljgcaaGreatDoor

/- dist.Joint; the law DistJoint. -/
namespace Go.Proofs.YtfnmpkkfdljgcaaGreatDoor
open Go.RowKit Go.Maps

theorem tabErr_ok {R : Nat} {ns : Nat → Nat} {zs : Nat → Nat → Int} (h : tabErr R ns zs = 0) : R ≤ 16 ∧ longB ns R = false ∧ unevenB ns R = false ∧ OkW (atF (flatL ns zs R)) (flatL ns zs R).length ∧ (flatL ns zs R).length ≤ 256 := by
  unfold tabErr at h
  by_cases h1 : 16 < R
  · rw [if_pos h1] at h; cases h
  rw [if_neg h1] at h
  cases h2 : longB ns R with
  | true => rw [h2, if_pos rfl] at h; cases h
  | false =>
    rw [h2, if_neg (by simp)] at h
    cases h3 : unevenB ns R with
    | true => rw [h3, if_pos rfl] at h; cases h
    | false =>
      rw [h3, if_neg (by simp)] at h
      exact ⟨by omega, rfl, rfl, listErr_ok h, by rw [flatL_length]; exact sumT_small h1 h2⟩
theorem tabErr_le (R : Nat) (ns : Nat → Nat) (zs : Nat → Nat → Int) : tabErr R ns zs ≤ 3 := by
  unfold tabErr listErr
  repeat (split; omega)
  omega
theorem row_some {w : World} {base : Nat} {v : Value} {n : Nat} {l : List Int} (h : w.ownsRow base 3 1 v n (cellL l)) (hl : l.length = n) (h0 : 0 < n) : ∃ g cap, v = .slice (some ⟨g, 0, none⟩) n cap ∧ RowAt w g 0 n (atF l) := by
  subst hl
  rcases numsAt_row h with ⟨_, _, _, h1⟩ | ⟨b, o, cap, hv, _, hr⟩
  · omega
  · rcases h.2 with ⟨hv', _⟩ | ⟨g, cap', cur, hv', _⟩
    · rw [hv] at hv'; simp at hv'
    · rw [hv] at hv'
      simp only [Value.slice.injEq, Option.some.injEq, Addr.mk.injEq, and_true, true_and] at hv'
      obtain ⟨⟨rfl, rfl⟩, rfl⟩ := hv'
      exact ⟨b, cap, hv, hr⟩

set_option maxRecDepth 100000 in
theorem Joint_parts (den : Int) (mb B b o cap n : Nat) (z : Nat → Int) (w : World) (hown : w.ownsMap Tryz.prog 3 (plainElem (H := Unit) Tryz.prog 3) mb 0 (mapOf [])) (hB : w.cell? ⟨B, 0, none⟩ = some (.slice (some ⟨b, o, none⟩) n cap)) (h : RowAt w b o n z) (hz : ∀ i, i < n → 0 ≤ z i) (hs : sumN z n ≤ 4096) (hn : n ≤ 256) :
    Calls Tryz.prog 28 #[putV den mb, .pointer (some ⟨B, 0, none⟩)] w fun e w' => e = .returned (.tuple #[]) ∧ ∃ l nn, Puts w w' mb (fun x => sumN (entV z (sumN z n).toNat x) n) (2 * n) [] 0 l nn := by
  have hp := putEntropy_some den mb 0 b o cap n z [] w hown List.Pairwise.nil (fun e he => by cases he) (fun x => by simp [atL]) (by omega) h hz hs hn
  clear hown h hz hs
  unfold putV at hp ⊢
  go_enter Tryz.func28, Tryz.ntmps28
  go_wp2_with fail
  refine hp.mono ?_
  clear hp
  rintro e w1 ⟨rfl, l, nn, hpt⟩
  have HP := Hid.mk' hpt
  clear hpt
  go_wp2_with fail
  go_end0
  exact ⟨rfl, l, nn, HP.out⟩

set_option maxRecDepth 100000 in
set_option maxHeartbeats 2000000 in
theorem Joint_ok (a : Nat → Addr) (v : Value) (R n N : Nat) (vs : Nat → Value) (ns : Nat → Nat) (zs : Nat → Nat → Int) (L : List Int) (w : World) (hE : Errs w a) (h : TabAt w v R vs ns zs) (hR : R ≤ 40) (hs : sumT ns R ≤ 400) (h0 : tabErr R ns zs = 0) (hL : L = flatL ns zs R) (hn : L.length = n) (hN : sumN (atF L) n = N) :
    Calls Tryz.prog 11 #[v] w fun e w' => ∃ dn v', e = .returned (.tuple #[.agg #[.int .i64 dn, v'], .nilIface]) ∧ LogBy w.heap.size N (fun x => sumN (entV (atF L) N x) n) w' dn v' ∧ Below w.heap.size w w' := by
  obtain ⟨_, _, _, hok, hn256⟩ := tabErr_ok h0
  rw [← hL, hn] at hok hn256
  have hp := hok.posN
  have hN1 : 1 ≤ N ∧ N ≤ 4096 := by have := hok.pos; have := hok.le; omega
  obtain ⟨ad, cap, rfl⟩ := h.form
  obtain ⟨W0, hW0⟩ : ∃ W0, W0 = w.alloc (.cells #[.int .i64 0, .slice none 0 0] 28) := ⟨_, rfl⟩
  have hb0 : Below w.heap.size w W0 := by rw [hW0]; exact new_below _ _
  have hz0 : W0.heap.size = w.heap.size + 1 := by rw [hW0]; simp
  have hres : ∀ W, Below W0.heap.size W0 W → W.cell? ⟨w.heap.size, 0, none⟩ = some (.int .i64 0) ∧ W.cell? ⟨w.heap.size, 1, none⟩ = some (.slice none 0 0) ∧ W.frozen? ⟨w.heap.size, 0, none⟩ = false ∧ W.frozen? ⟨w.heap.size, 1, none⟩ = false := fun W hb => by
    rw [hW0] at hb
    exact res_past hb
  have ht := Table_any a _ R vs ns zs W0 (hE.below hb0) (h.later hb0) hR hs
  rw [h0, errV_zero] at ht
  have HCL : Hid (∀ W, Below W0.heap.size W0 W → Calls Tryz.prog 25 #[.slice ad R cap] W fun e w' => ∃ v', e = .returned v' ∧ w'.ownsRow W.heap.size 3 1 v' (flatL ns zs R).length (cellL (flatL ns zs R)) ∧ Below W.heap.size W w') := fun W hb => cells_any _ R vs ns zs W ((h.later hb0).later hb) (by omega) (by omega)
  rw [← hL, hn] at HCL
  have HOK := Hid.mk' hok
  have HNL := Hid.mk' hn
  have HNN := Hid.mk' hN
  have HB0 := Hid.mk' hb0
  have HRES := Hid.mk' hres
  have HW0 := Hid.mk' hW0
  have HZ0 := Hid.mk' hz0
  clear hE h hb0 hres hW0 hz0 h0 hok hL hn hN hs
  go_enter Tryz.func11, Tryz.ntmps11
  go_upto_region 1 with fail
  rw [← HW0.out]
  go_wp2_with fail
  refine ht.mono ?_
  clear ht
  rintro e w1 ⟨rfl, hb1⟩
  have HB1 := Hid.mk' hb1
  clear hb1
  go_wp2_with fail
  refine (HCL.out w1 HB1.out).mono ?_
  clear HCL
  rintro e w2 ⟨v2, rfl, hrow, hb2⟩
  obtain ⟨g, cp, rfl, hr2⟩ := row_some hrow HNL.out hp
  obtain ⟨W2, hW2⟩ : ∃ W2, W2 = w2.alloc (.cells #[.slice (some ⟨g, 0, none⟩) n cp] 31) := ⟨_, rfl⟩
  have hbA : Below w2.heap.size w2 W2 := by rw [hW2]; exact new_below _ _
  have hbx : W2.cell? ⟨w2.heap.size, 0, none⟩ = some (.slice (some ⟨g, 0, none⟩) n cp) := by rw [hW2]; simp
  have hr3 := hr2.later hbA
  have HB2 := Hid.mk' (below_chain (below_chain HB1.out hb2) hbA)
  have htt := total_some g 0 cp n (atF L) W2 hr3 (fun k hk => by have := HOK.out.part hk; omega) (fun i hi => by have := HOK.out.lt hi; omega) (by omega)
  rw [HNN.out] at htt
  have hso := sumOver_any 28 #[.pointer (some ⟨w2.heap.size, 0, none⟩)] N (2 * n) (fun x => sumN (entV (atF L) N x) n) W2 (enters_of Tryz.func28 (by kernel_rfl) rfl) hN1.1 hN1.2 (by omega) (fun x => ent_bound (fun i hi => HOK.out.lt hi) hN1.2 hn256 x)
    (fun W mb hb ho => by
      have := Joint_parts N mb w2.heap.size g 0 cp n (atF L) W ho (cell_past hbx hb).2 (hr3.later hb) HOK.out.nn (by rw [HNN.out]; omega) hn256
      rw [HNN.out, Int.toNat_natCast] at this
      exact this)
  have HW2 := Hid.mk' hW2
  clear hrow hb2 hr2 hbA hr3 hW2
  go_upto_region 5 with fail
  rw [← HW2.out]
  go_wp2_with (first
    | (go_at_call 27; refine htt.mono ?_; rintro e w3 ⟨rfl, hw3⟩; rw [hw3]; clear hw3)
    | (go_at_call 26; refine hso.mono ?_; rintro e w4 ⟨dn, v4, rfl, hlb, hb4⟩; obtain ⟨c0, c1, q0, q1⟩ := HRES.out w4 (below_chain HB2.out hb4); have HBW := Hid.mk' (below_chain HB0.out (below_chain HB2.out hb4)); have HLB := Hid.mk' hlb; obtain ⟨ad4, n4, c4, rfl⟩ := hlb.form; clear hlb))
  have HLT : Hid (w.heap.size < W2.heap.size) := by have h1 := HZ0.out; have h2 := HB2.out.size; show _ < _; omega
  refine bodyPost_ret (v := .tuple #[.agg #[.int .i64 dn, .slice ad4 n4 c4], .nilIface]) (by simp [results, Tryz.results11, go_sem, c0, c1]) rfl ⟨_, .slice ad4 n4 c4, rfl, (HLB.out.set HLT.out _ _).lower (Nat.le_of_lt HLT.out), ?_⟩
  exact (HBW.out.setCell (by simp) _).setCell (by simp) _

set_option maxRecDepth 100000 in
set_option maxHeartbeats 1000000 in
theorem Joint_bad (a : Nat → Addr) (v : Value) (R : Nat) (vs : Nat → Value) (ns : Nat → Nat) (zs : Nat → Nat → Int) (w : World) (hE : Errs w a) (h : TabAt w v R vs ns zs) (hR : R ≤ 40) (hs : sumT ns R ≤ 400) (h0 : tabErr R ns zs ≠ 0) :
    Calls Tryz.prog 11 #[v] w fun e w' => e = .returned (.tuple #[.agg #[.int .i64 0, .slice none 0 0], errV a (tabErr R ns zs)]) ∧ Below w.heap.size w w' := by
  obtain ⟨ad, cap, rfl⟩ := h.form
  obtain ⟨W0, hW0⟩ : ∃ W0, W0 = w.alloc (.cells #[.int .i64 0, .slice none 0 0] 28) := ⟨_, rfl⟩
  have hb0 : Below w.heap.size w W0 := by rw [hW0]; exact new_below _ _
  have hres : ∀ W, Below W0.heap.size W0 W → W.cell? ⟨w.heap.size, 0, none⟩ = some (.int .i64 0) ∧ W.cell? ⟨w.heap.size, 1, none⟩ = some (.slice none 0 0) ∧ W.frozen? ⟨w.heap.size, 0, none⟩ = false ∧ W.frozen? ⟨w.heap.size, 1, none⟩ = false := fun W hb => by
    rw [hW0] at hb
    exact res_past hb
  have ht := Table_any a _ R vs ns zs W0 (hE.below hb0) (h.later hb0) hR hs
  rw [errV_pos a h0] at ht ⊢
  generalize a (tabErr R ns zs - 1) = ea at ht ⊢
  have HB0 := Hid.mk' hb0
  have HRES := Hid.mk' hres
  have HW0 := Hid.mk' hW0
  clear hE h hb0 hres hW0 h0
  go_enter Tryz.func11, Tryz.ntmps11
  go_upto_region 1 with fail
  rw [← HW0.out]
  go_wp2_with (go_at_call 24; refine ht.mono ?_; rintro e w1 ⟨rfl, hb1⟩; obtain ⟨c0, c1, q0, q1⟩ := HRES.out w1 hb1; have HB1 := Hid.mk' (below_chain HB0.out hb1); clear hb1)
  refine bodyPost_ret (v := .tuple #[.agg #[.int .i64 0, .slice none 0 0], .iface 159 (.pointer (some ea))]) (by simp [results, Tryz.results11, go_sem, c0, c1]) rfl ⟨rfl, ?_⟩
  exact (HB1.out.setCell (by simp) _).setCell (by simp) _
end Go.Proofs.YtfnmpkkfdljgcaaGreatDoor

/- Right tables: rows, columns, all. -/
namespace Go.Proofs.YtfnmpkkfdljgcaaGreatDoor

def lsum : List Int → Int
  | [] => 0
  | x :: r => x + lsum r
theorem lsum_append : ∀ l r : List Int, lsum (l ++ r) = lsum l + lsum r
  | [], r => by simp [lsum]
  | x :: l, r => by simp only [List.cons_append, lsum, lsum_append l r]; omega
theorem lsum_row (z : Nat → Int) : ∀ n, lsum (rowL z n) = sumN z n
  | 0 => rfl
  | n + 1 => by
    have ih := lsum_row z n
    unfold rowL at ih ⊢
    rw [List.range_succ, List.map_append, lsum_append, ih]
    simp [lsum, sumN]
theorem rowL_atF (l : List Int) : rowL (atF l) l.length = l := by
  refine List.ext_getElem (by simp [rowL]) (fun i h1 h2 => ?_)
  simp [rowL, atF, List.getD, List.getElem?_eq_getElem h2]
theorem sumN_list (l : List Int) : sumN (atF l) l.length = lsum l := by rw [← lsum_row, rowL_atF]
/-- A function's sum over a list, as over its places. -/
theorem sumN_map (g : Int → Int) (l : List Int) : sumN (fun i => g (atF l i)) l.length = lsum (l.map g) := by
  have h : rowL (fun i => g (atF l i)) l.length = l.map g := by
    refine List.ext_getElem (by simp [rowL]) (fun i h1 h2 => ?_)
    have h3 : i < l.length := by simpa using h2
    simp [rowL, atF, List.getD, List.getElem?_eq_getElem h3]
  rw [← lsum_row, h]
theorem lsum_flat (g : Int → Int) (ns : Nat → Nat) (zs : Nat → Nat → Int) : ∀ k, lsum ((flatL ns zs k).map g) = sumN (fun i => sumN (fun j => g (zs i j)) (ns i)) k
  | 0 => rfl
  | k + 1 => by
    show lsum ((flatL ns zs k ++ rowL (zs k) (ns k)).map g) = _
    rw [List.map_append, lsum_append, lsum_flat g ns zs k]
    have : (rowL (zs k) (ns k)).map g = rowL (fun j => g (zs k j)) (ns k) := by simp [rowL]
    rw [this, lsum_row]
    rfl
theorem mem_flat {ns : Nat → Nat} {zs : Nat → Nat → Int} : ∀ {k i j : Nat}, i < k → j < ns i → zs i j ∈ flatL ns zs k
  | k + 1, i, j, hi, hj => by
    show zs i j ∈ flatL ns zs k ++ rowL (zs k) (ns k)
    rw [List.mem_append]
    rcases Nat.lt_or_ge i k with h | h
    · exact Or.inl (mem_flat h hj)
    · obtain rfl : i = k := by omega
      exact Or.inr (List.mem_map.2 ⟨j, List.mem_range.2 hj, rfl⟩)
/-- A right table. -/
structure OkT (R : Nat) (ns : Nat → Nat) (zs : Nat → Nat → Int) (N : Nat) : Prop where
  r0 : 0 < R
  r16 : R ≤ 16
  c0 : 0 < ns 0
  c16 : ns 0 ≤ 16
  even : ∀ i, i < R → ns i = ns 0
  nn : ∀ i, i < R → ∀ j, j < ns i → 0 ≤ zs i j
  tot : sumN (fun i => sumN (zs i) (ns i)) R = N
  n1 : 1 ≤ N
  n6 : N ≤ 4096
theorem not_uneven {ns : Nat → Nat} {n i : Nat} (h : unevenB ns n = false) (hi : i < n) : ns i = ns 0 := by
  by_cases h' : ns i = ns 0
  · exact h'
  · rw [unevenB_mono hi h'] at h; cases h
theorem okT_of {R : Nat} {ns : Nat → Nat} {zs : Nat → Nat → Int} (h1 : R ≤ 16) (h2 : longB ns R = false) (h3 : unevenB ns R = false) (h4 : OkW (atF (flatL ns zs R)) (flatL ns zs R).length) : ∃ N, OkT R ns zs N ∧ sumN (atF (flatL ns zs R)) (flatL ns zs R).length = N := by
  obtain ⟨N, hN⟩ := Int.eq_ofNat_of_zero_le (Int.le_of_lt h4.pos)
  have hp := h4.posN
  rw [flatL_length] at hp
  have hr0 : 0 < R := Nat.pos_of_ne_zero (fun e => by subst e; simp [sumT] at hp)
  have hc0 : 0 < ns 0 := Nat.pos_of_ne_zero (fun e => by
    have := sumT_le (ns := ns) (B := 0) (n := R) (fun i hi => by have := not_uneven h3 hi; omega)
    omega)
  have h5 := h4.pos
  have h6 := h4.le
  have hsum : sumN (atF (flatL ns zs R)) (flatL ns zs R).length = sumN (fun i => sumN (zs i) (ns i)) R := by
    rw [sumN_list]
    have := lsum_flat id ns zs R
    simpa using this
  refine ⟨N, ⟨hr0, h1, hc0, not_long h2 0 hr0, fun i hi => not_uneven h3 hi, fun i hi j hj => ?_, by rw [← hsum]; exact hN, by omega, by omega⟩, hN⟩
  obtain ⟨q, hq⟩ := List.getElem?_of_mem (mem_flat (zs := zs) hi hj)
  have hql : q < (flatL ns zs R).length := by
    rcases Nat.lt_or_ge q (flatL ns zs R).length with h' | h'
    · exact h'
    · rw [List.getElem?_eq_none h'] at hq; cases hq
  have := h4.nn q hql
  unfold atF at this
  rw [List.getD_eq_getElem?_getD, hq] at this
  exact this
theorem OkT.row {R : Nat} {ns : Nat → Nat} {zs : Nat → Nat → Int} {N : Nat} (h : OkT R ns zs N) {i : Nat} (hi : i < R) : 0 ≤ sumN (zs i) (ns i) ∧ sumN (zs i) (ns i) ≤ N := by
  have h1 := sumN_nonneg (h.nn i hi)
  have h2 := sumN_ge (z := fun i => sumN (zs i) (ns i)) (n := R) (fun k hk => sumN_nonneg (h.nn k hk)) hi
  rw [h.tot] at h2
  exact ⟨h1, h2⟩
theorem OkT.cell {R : Nat} {ns : Nat → Nat} {zs : Nat → Nat → Int} {N : Nat} (h : OkT R ns zs N) {i j : Nat} (hi : i < R) (hj : j < ns i) : 0 ≤ zs i j ∧ zs i j ≤ 4096 := by
  have h1 := h.nn i hi j hj
  have h2 := sumN_ge (h.nn i hi) hj
  have h3 := (h.row hi).2
  have h4 := h.n6
  exact ⟨h1, by omega⟩
theorem OkT.part {R : Nat} {ns : Nat → Nat} {zs : Nat → Nat → Int} {N : Nat} (h : OkT R ns zs N) {i k : Nat} (hi : i < R) (hk : k ≤ ns i) : 0 ≤ sumN (zs i) k ∧ sumN (zs i) k ≤ 4096 := by
  have h1 := sumN_nonneg (z := zs i) (n := k) (fun j hj => h.nn i hi j (by omega))
  have h2 := sumN_mono (h.nn i hi) hk
  have h3 := (h.row hi).2
  have h4 := h.n6
  exact ⟨h1, by omega⟩
def colV (zs : Nat → Nat → Int) (k j : Nat) : Int := sumN (fun i => zs i j) k
theorem OkT.col {R : Nat} {ns : Nat → Nat} {zs : Nat → Nat → Int} {N : Nat} (h : OkT R ns zs N) {k j : Nat} (hk : k ≤ R) (hj : j < ns 0) : 0 ≤ colV zs k j ∧ colV zs k j ≤ 4096 := by
  have h1 : 0 ≤ colV zs k j := sumN_nonneg (fun i hi => h.nn i (by omega) j (by rw [h.even i (by omega)]; exact hj))
  have h2 : colV zs k j ≤ sumN (fun i => sumN (zs i) (ns i)) k := sumN_le (fun i hi => sumN_ge (h.nn i (by omega)) (by rw [h.even i (by omega)]; exact hj))
  have h3 := sumN_mono (z := fun i => sumN (zs i) (ns i)) (k := k) (n := R) (fun i hi => sumN_nonneg (h.nn i hi)) hk
  have h4 := h.tot
  have h5 := h.n6
  exact ⟨h1, by omega⟩
end Go.Proofs.YtfnmpkkfdljgcaaGreatDoor

/- A row of numbers that is made and filled. -/
namespace Go.Proofs.YtfnmpkkfdljgcaaGreatDoor
open Go.RowKit

/-- The row that is filled. -/
structure Fills (w wr : World) (g T : Nat) (f : Nat → Int) : Prop where
  row : RowAt wr g 0 T f
  fz : ∀ i, i < T → wr.frozen? ⟨g, 0 + i, none⟩ = false
  below : Below w.heap.size w wr
  hg : w.heap.size ≤ g
theorem Fills.set {w wr : World} {g T : Nat} {f : Nat → Int} (h : Fills w wr g T f) {j : Nat} (hj : j < T) (x : Int) {f' : Nat → Int} (hf : ∀ i, i < T → f' i = if i = j then x else f i) : Fills w (wr.setCell ⟨g, j, none⟩ (.int .i64 x)) g T f' := by
  refine ⟨fun i hi => ?_, fun i hi => ?_, h.below.setCell h.hg _, h.hg⟩
  · rw [hf i hi]
    by_cases hij : i = j
    · subst hij
      rw [if_pos rfl, Nat.zero_add]
      exact World.cell?_setCell_same _ _ _ (by have := h.row i hi; rwa [Nat.zero_add] at this)
    · rw [if_neg hij, World.cell?_setCell_other _ _ _ _ (fun e => hij (by have := congrArg Addr.off e; simp at this; omega))]
      exact h.row i hi
  · rw [World.frozen?_setCell]
    exact h.fz i hi
theorem Fills.drew {w wr : World} {g T : Nat} {f : Nat → Int} (h : Fills w wr g T f) : Fills w wr.drew g T f := ⟨h.row, h.fz, h.below.drew, h.hg⟩
theorem fills_made {w w2 : World} {g n : Nat} {t : TypeId} {xs : List Value} (h : w2.ownsRow w.heap.size t 1 (.slice (some ⟨g, 0, none⟩) n n) n xs) (hx : ∀ i, i < n → xs[i]? = some (.int .i64 0)) (hg : w.grownBy w2 none) : Fills w w2 g n (fun _ => 0) := by
  obtain ⟨hl, hr⟩ := h
  rcases hr with ⟨hx, _⟩ | ⟨g', cap', cur, hv, hb, hh, _, _, hs, ht⟩
  · cases hx
  · obtain ⟨rfl, rfl⟩ : g = g' ∧ n = cap' := by simpa using hv
    refine ⟨fun i hi => ?_, fun i hi => ?_, (Below.refl _ _).grown hg (Nat.le_refl _) (fun k hk => by cases hk), hb⟩
    · rw [← hx i hi, ← ht, List.getElem?_take_of_lt (by omega)]
      simp [World.cell?, hh]
    · simp [World.frozen?, hh]
theorem made_zero (n i : Nat) (hi : i < n) : (madeCells (Value.int IntKind.i64 0).cells (n * 1)).toList[i]? = some (.int .i64 0) := by
  simp [madeCells, hi, Nat.mod_one, Value.cells]
end Go.Proofs.YtfnmpkkfdljgcaaGreatDoor

/- Rows' and columns' sums: the document's and the program's. -/
namespace Go.Proofs.YtfnmpkkfdljgcaaGreatDoor
open Go.RowKit

def rowSum (ns : Nat → Nat) (zs : Nat → Nat → Int) (i : Nat) : Int := sumN (zs i) (ns i)
/-- A right table's rows, as the walk reads them. -/
theorem tab_rows {w : World} {ad : Option Addr} {R cap : Nat} {vs : Nat → Value} {ns : Nat → Nat} {zs : Nat → Nat → Int} {N : Nat} (h : TabAt w (.slice ad R cap) R vs ns zs) (hk : OkT R ns zs N) : ∃ b o, ad = some ⟨b, o, none⟩ ∧ ∀ W, Below w.heap.size w W → ∀ i, i < R → ∃ b1 o1 cap1, W.cell? ⟨b, o + i, none⟩ = some (.slice (some ⟨b1, o1, none⟩) (ns 0) cap1) ∧ RowAt W b1 o1 (ns 0) (zs i) := by
  rcases h with ⟨_, _, _, h0⟩ | ⟨b, o, c, hv, _, hr⟩
  · have := hk.r0; omega
  · simp only [Value.slice.injEq, true_and] at hv
    obtain ⟨rfl, rfl⟩ := hv
    refine ⟨b, o, rfl, fun W hb i hi => ?_⟩
    obtain ⟨h1, h2⟩ := hr i hi
    have he := hk.even i hi
    have hc := hk.c0
    rcases h2.later hb with ⟨_, _, _, h3⟩ | ⟨b1, o1, c1, hv1, _, hr1⟩
    · omega
    · rw [he] at hv1 hr1
      exact ⟨b1, o1, c1, by rw [hb.cell (cell_lt h1), h1, hv1], hr1⟩

set_option maxRecDepth 100000 in
set_option maxHeartbeats 2000000 in
theorem RowsOf_any (ad : Option Addr) (R cap N : Nat) (vs : Nat → Value) (ns : Nat → Nat) (zs : Nat → Nat → Int) (w : World) (h : TabAt w (.slice ad R cap) R vs ns zs) (hk : OkT R ns zs N) :
    Calls Tryz.prog 34 #[.slice ad R cap] w fun e w' => ∃ v, e = .returned v ∧ NumsAt w' v R (rowSum ns zs) ∧ Below w.heap.size w w' := by
  obtain ⟨b, o, rfl, hr⟩ := tab_rows h hk
  obtain ⟨i0, hi, hz0, hz1, hz2⟩ := info_parts Tryz.infoInt
  have HINF : Hid (Tryz.prog.info? 3 = some i0 ∧ i0.zero = some (.int .i64 0) ∧ i0.size = 1 ∧ i0.bytes = 8) := ⟨hi, hz0, hz1, hz2⟩
  have HR := Hid.mk' hr
  have HK := Hid.mk' hk
  have hR16 := hk.r16
  clear hi hz0 hz1 hz2 hr h hk
  go_enter Tryz.func34, Tryz.ntmps34
  go_wp2_with fail
  go_loopw [3, 4] (fun u i wr => ∃ k : Nat, k ≤ R ∧ i = .int .i64 k ∧ Hid (wr.ownsRow w.heap.size 3 1 u k (numCells (rowSum ns zs) k)) ∧ Hid (Below w.heap.size w wr)) (fun _ i _ => R - (intOf i).toNat)
  case atStart => exact ⟨0, Nat.zero_le _, rfl, ⟨rfl, Or.inl ⟨rfl, rfl⟩⟩, Below.refl _ _⟩
  case round =>
    obtain ⟨k, hk, rfl, HO, HB⟩ := hrel
    rcases Nat.lt_or_ge k R with h1 | h1
    · obtain ⟨b1, o1, cap1, hc, hr1⟩ := HR.out wr HB.out k h1
      have hS := Sum_some b1 o1 cap1 (ns 0) (zs k) wr hr1 (fun j hj => by have := HK.out.part h1 (k := j) (by rw [HK.out.even k h1]; exact hj); omega) (fun j hj => by have := HK.out.cell h1 (j := j) (by rw [HK.out.even k h1]; exact hj); omega) (by have := HK.out.c16; omega)
      have HV : Hid (sumN (zs k) (ns 0) = rowSum ns zs k) := by show _ = sumN (zs k) (ns k); rw [HK.out.even k h1]
      rw [HV.out] at hS
      have hkn : (k : Int) < (R : Int) := by omega
      have hzB := HB.out.size
      clear hr1
      go_wp2_with (first
        | (go_at_call 32; refine hS.mono ?_; rintro e w4 ⟨rfl, hw4⟩; rw [hw4]; clear hw4)
        | (at_builtin; go_must (refine wpList_append_lies _ rfl _ _ _ rfl w.heap.size 3 i0 _ 1 8 Tryz.underlying31 HINF.out.1 HINF.out.2.1 HINF.out.2.2.1 HINF.out.2.2.2 rfl (by omega) u3 _ _ rfl (HO.out.alloc _) ⟨wr.heap.size, 0, none⟩ 1 1 [.int .i64 (rowSum ns zs k)] rfl rfl (one_new _ _ _) (by simp [Value.oneCell']) (by omega) (by unfold maxLen; omega) (by omega) (by simp; omega) _ rfl ?_; intro g' cap2 w3 hown3 hgrow3 hat3 hlt3; have HO3 := Hid.mk' hown3; have HG3 := Hid.mk' hgrow3; clear hown3 hgrow3 hat3)))
      exact ⟨⟨k + 1, h1, by go_num, HO3, below_push HB.out HO.out HG3.out⟩, by simp [intOf]; omega⟩
    · obtain rfl : k = R := by omega
      go_wp2_with fail
      go_ret
      exact ⟨_, rfl, numsAt_own HO.out, HB.out⟩

set_option maxRecDepth 100000 in
set_option maxHeartbeats 2000000 in
theorem ColumnsOf_any (ad : Option Addr) (R cap N : Nat) (vs : Nat → Value) (ns : Nat → Nat) (zs : Nat → Nat → Int) (w : World) (h : TabAt w (.slice ad R cap) R vs ns zs) (hk : OkT R ns zs N) :
    Calls Tryz.prog 35 #[.slice ad R cap] w fun e w' => ∃ v, e = .returned v ∧ NumsAt w' v (ns 0) (colV zs R) ∧ Below w.heap.size w w' := by
  obtain ⟨b, o, rfl, hr⟩ := tab_rows h hk
  obtain ⟨i0, hi, hz0, hz1, hz2⟩ := info_parts Tryz.infoInt
  have HINF : Hid (Tryz.prog.info? 3 = some i0 ∧ i0.zero = some (.int .i64 0) ∧ i0.size = 1 ∧ i0.bytes = 8) := ⟨hi, hz0, hz1, hz2⟩
  have HR := Hid.mk' hr
  have HK := Hid.mk' hk
  have hR16 := hk.r16
  have hR0 := hk.r0
  have hc16 := hk.c16
  clear hi hz0 hz1 hz2 hr h hk
  generalize hC : ns 0 = C at *
  go_enter Tryz.func35, Tryz.ntmps35
  go_wp2_with fail
  go_loopw [3, 4, 5, 6] (fun u i _ _ wr => ∃ j : Nat, j ≤ C ∧ i = .int .i64 j ∧ Hid (wr.ownsRow w.heap.size 3 1 u j (numCells (colV zs R) j)) ∧ Hid (Below w.heap.size w wr)) (fun _ i _ _ _ => C - (intOf i).toNat)
  case atStart => exact ⟨0, Nat.zero_le _, rfl, ⟨rfl, Or.inl ⟨rfl, rfl⟩⟩, Below.refl _ _⟩
  case round =>
    obtain ⟨j, hj, rfl, HO, HB⟩ := hrel
    obtain ⟨b0, o0, cap0, hc0, _⟩ := HR.out wr HB.out 0 hR0
    rw [Nat.add_zero] at hc0
    rcases Nat.lt_or_ge j C with h1 | h1
    · have hjC : (j : Int) < (C : Int) := by omega
      go_wp2_with fail
      obtain ⟨Wr, hWr⟩ : ∃ Wr, Wr = wr := ⟨_, rfl⟩
      rw [← hWr] at HO HB hc0 ⊢
      clear hWr
      go_loopw [5, 6] (fun s i wr => ∃ (q : Nat) (y : Int), q ≤ R ∧ s = .int .i64 y ∧ i = .int .i64 q ∧ wr = Wr ∧ 0 ≤ y ∧ y ≤ 4096 ∧ Hid (y = colV zs q j)) (fun _ i _ => R - (intOf i).toNat)
      case atStart => exact ⟨0, 0, Nat.zero_le _, rfl, rfl, rfl, by omega, by omega, rfl⟩
      case round =>
        obtain ⟨q, y, hq, rfl, rfl, hwr, hy0, hy1, HY⟩ := hrel
        rw [hwr]
        clear hwr
        rcases Nat.lt_or_ge q R with h2 | h2
        · obtain ⟨b1, o1, cap1, hc, hr1⟩ := HR.out Wr HB.out q h2
          have hce := hr1 j h1
          have hqR : (q : Int) < (R : Int) := by omega
          have hb1 := HK.out.col (k := q + 1) (j := j) h2 (by rw [hC]; exact h1)
          have hb2 := HK.out.cell h2 (j := j) (by rw [HK.out.even q h2, hC]; exact h1)
          have HV : Hid (colV zs (q + 1) j = y + zs q j) := by show colV zs q j + zs q j = _; rw [HY.out]
          rw [HV.out] at hb1
          generalize zs q j = x at hce hb1 hb2 HV
          clear hr1
          go_wp2_with fail
          exact ⟨⟨q + 1, y + x, h2, by go_num, by go_num, trivial, by omega, by omega, HV.out.symm⟩, by simp [intOf]; omega⟩
        · obtain rfl : q = R := by omega
          have hzB := HB.out.size
          go_wp2_with (at_builtin; go_must (refine wpList_append_lies _ rfl _ _ _ rfl w.heap.size 3 i0 _ 1 8 Tryz.underlying31 HINF.out.1 HINF.out.2.1 HINF.out.2.2.1 HINF.out.2.2.2 rfl (by omega) u3 _ _ rfl (HO.out.alloc _) ⟨Wr.heap.size, 0, none⟩ 1 1 [.int .i64 y] rfl rfl (one_new _ _ _) (by simp [Value.oneCell']) (by omega) (by unfold maxLen; omega) (by omega) (by simp; omega) _ rfl ?_; intro g' cap2 w3 hown3 hgrow3 hat3 hlt3; have HO3 := Hid.mk' hown3; have HG3 := Hid.mk' hgrow3; clear hown3 hgrow3 hat3))
          refine ⟨⟨j + 1, h1, by go_num, ?_, below_push HB.out HO.out HG3.out⟩, by simp [intOf]; omega⟩
          show World.ownsRow _ _ _ _ _ _ _
          have := HO3.out
          rw [HY.out] at this
          exact this
    · obtain rfl : j = C := by omega
      go_wp2_with fail
      go_ret
      exact ⟨_, rfl, numsAt_own HO.out, HB.out⟩

set_option maxRecDepth 100000 in
set_option maxHeartbeats 2000000 in
theorem rowSums_any (ad : Option Addr) (R cap N : Nat) (vs : Nat → Value) (ns : Nat → Nat) (zs : Nat → Nat → Int) (w : World) (h : TabAt w (.slice ad R cap) R vs ns zs) (hk : OkT R ns zs N) :
    Calls Tryz.prog 38 #[.slice ad R cap] w fun e w' => ∃ g cp, e = .returned (.slice (some ⟨g, 0, none⟩) R cp) ∧ RowAt w' g 0 R (rowSum ns zs) ∧ Below w.heap.size w w' := by
  obtain ⟨b, o, rfl, hr⟩ := tab_rows h hk
  obtain ⟨i0, hi, hz0, hz1, hz2⟩ := info_parts Tryz.infoInt
  have HINF : Hid (Tryz.prog.info? 3 = some i0 ∧ i0.zero = some (.int .i64 0) ∧ i0.size = 1 ∧ i0.bytes = 8) := ⟨hi, hz0, hz1, hz2⟩
  have HR := Hid.mk' hr
  have HK := Hid.mk' hk
  have hR16 := hk.r16
  clear hi hz0 hz1 hz2 hr h hk
  go_enter Tryz.func38, Tryz.ntmps38
  go_wp2_with (at_make; go_must (refine wpList_make_full _ rfl _ _ _ rfl w.heap.size 3 i0 _ 1 Tryz.underlying31 HINF.out.1 HINF.out.2.1 HINF.out.2.2.1 .i64 .i64 _ _ R rfl rfl rfl rfl (by rw [HINF.out.2.2.2]; omega) (by unfold maxLen; omega) (Nat.le_refl _) ?_; intro w2 hown2 hgrow2; have HF2 := Hid.mk' (fills_made hown2 (made_zero R) hgrow2); clear hown2 hgrow2))
  go_loopw [4, 5, 11] (fun _ _ i wr => ∃ k : Nat, k ≤ R ∧ i = .int .i64 k ∧ Hid (Fills w wr w.heap.size R (fun j => if j < k then rowSum ns zs j else 0))) (fun _ _ i _ => R - (intOf i).toNat)
  case atStart => exact ⟨0, Nat.zero_le _, rfl, by simpa using HF2⟩
  case round =>
    obtain ⟨k, hk, rfl, HF⟩ := hrel
    rcases Nat.lt_or_ge k R with h1 | h1
    · obtain ⟨b1, o1, cap1, hc, hr1⟩ := HR.out wr HF.out.below k h1
      have hS := total_some b1 o1 cap1 (ns 0) (zs k) wr hr1 (fun j hj => by have := HK.out.part h1 (k := j) (by rw [HK.out.even k h1]; exact hj); omega) (fun j hj => by have := HK.out.cell h1 (j := j) (by rw [HK.out.even k h1]; exact hj); omega) (by have := HK.out.c16; omega)
      have HV : Hid (sumN (zs k) (ns 0) = rowSum ns zs k) := by show _ = sumN (zs k) (ns k); rw [HK.out.even k h1]
      rw [HV.out] at hS
      have hkn : (k : Int) < (R : Int) := by omega
      have hcF := HF.out.row k h1
      have hfz := HF.out.fz k h1
      rw [Nat.zero_add] at hcF hfz
      have HS := Hid.mk' (HF.out.set h1 (rowSum ns zs k) (f' := fun j => if j < k + 1 then rowSum ns zs j else 0) (fun i hi => by
        by_cases hik : i = k
        · subst hik; rw [if_pos (by omega), if_pos rfl]
        · rw [if_neg hik]
          by_cases hlt : i < k
          · rw [if_pos (by omega), if_pos hlt]
          · rw [if_neg (by omega), if_neg hlt]))
      clear hr1
      go_wp2_with (go_at_call 27; refine hS.mono ?_; rintro e w4 ⟨rfl, hw4⟩; rw [hw4]; clear hw4)
      exact ⟨⟨k + 1, h1, by go_num, HS⟩, by simp [intOf]; omega⟩
    · obtain rfl : k = R := by omega
      go_wp2_with fail
      go_ret
      refine ⟨_, _, rfl, fun i hi => ?_, HF.out.below⟩
      have := HF.out.row i hi
      rw [if_pos hi] at this
      exact this
end Go.Proofs.YtfnmpkkfdljgcaaGreatDoor

/- dist.columnSums, Rows, Columns. -/
namespace Go.Proofs.YtfnmpkkfdljgcaaGreatDoor
open Go.RowKit

theorem tabErr_okT {R : Nat} {ns : Nat → Nat} {zs : Nat → Nat → Int} (h : tabErr R ns zs = 0) : ∃ N, OkT R ns zs N ∧ sumN (atF (flatL ns zs R)) (flatL ns zs R).length = N := by
  unfold tabErr at h
  by_cases h1 : 16 < R
  · rw [if_pos h1] at h; cases h
  rw [if_neg h1] at h
  cases h2 : longB ns R with
  | true => rw [h2, if_pos rfl] at h; cases h
  | false =>
    rw [h2, if_neg (by simp)] at h
    cases h3 : unevenB ns R with
    | true => rw [h3, if_pos rfl] at h; cases h
    | false =>
      rw [h3, if_neg (by simp)] at h
      exact okT_of (by omega) h2 h3 (listErr_ok h)

set_option maxRecDepth 100000 in
set_option maxHeartbeats 4000000 in
theorem columnSums_any (ad : Option Addr) (R cap N : Nat) (vs : Nat → Value) (ns : Nat → Nat) (zs : Nat → Nat → Int) (w : World) (h : TabAt w (.slice ad R cap) R vs ns zs) (hk : OkT R ns zs N) :
    Calls Tryz.prog 39 #[.slice ad R cap] w fun e w' => ∃ g cp, e = .returned (.slice (some ⟨g, 0, none⟩) (ns 0) cp) ∧ RowAt w' g 0 (ns 0) (colV zs R) ∧ Below w.heap.size w w' := by
  obtain ⟨b, o, rfl, hr⟩ := tab_rows h hk
  obtain ⟨i0, hi, hz0, hz1, hz2⟩ := info_parts Tryz.infoInt
  have HINF : Hid (Tryz.prog.info? 3 = some i0 ∧ i0.zero = some (.int .i64 0) ∧ i0.size = 1 ∧ i0.bytes = 8) := ⟨hi, hz0, hz1, hz2⟩
  have HR := Hid.mk' hr
  have HK := Hid.mk' hk
  have hR16 := hk.r16
  have hR0 := hk.r0
  have hc16 := hk.c16
  clear hi hz0 hz1 hz2 hr h hk
  generalize hC : ns 0 = C at *
  obtain ⟨b0, o0, cap0, hc0, _⟩ := HR.out w (Below.refl _ _) 0 hR0
  rw [Nat.add_zero] at hc0
  go_enter Tryz.func39, Tryz.ntmps39
  go_wp2_with (at_make; go_must (refine wpList_make_full _ rfl _ _ _ rfl w.heap.size 3 i0 _ 1 Tryz.underlying31 HINF.out.1 HINF.out.2.1 HINF.out.2.2.1 .i64 .i64 _ _ C rfl rfl rfl rfl (by rw [HINF.out.2.2.2]; omega) (by unfold maxLen; omega) (Nat.le_refl _) ?_; intro w2 hown2 hgrow2; have HF2 := Hid.mk' (fills_made hown2 (made_zero C) hgrow2); clear hown2 hgrow2))
  go_loopw [5, 6, 7, 15] (fun _ _ _ i wr => ∃ k : Nat, k ≤ R ∧ i = .int .i64 k ∧ Hid (Fills w wr w.heap.size C (colV zs k))) (fun _ _ _ i _ => R - (intOf i).toNat)
  case atStart => exact ⟨0, Nat.zero_le _, rfl, HF2⟩
  case round =>
    obtain ⟨k, hk, rfl, HF⟩ := hrel
    rcases Nat.lt_or_ge k R with h1 | h1
    · obtain ⟨b1, o1, cap1, hc, hr1⟩ := HR.out wr HF.out.below k h1
      have HR1 : Hid (∀ W, Below w.heap.size w W → ∃ b2 o2 cap2, W.cell? ⟨b, o + k, none⟩ = some (.slice (some ⟨b2, o2, none⟩) C cap2) ∧ RowAt W b2 o2 C (zs k)) := fun W hb => HR.out W hb k h1
      have hbk : b1 < w.heap.size := by
        obtain ⟨b2, o2, cap2, h2, h3⟩ := HR.out w (Below.refl _ _) k h1
        rw [HF.out.below.cell (cell_lt h2), h2] at hc
        simp only [Option.some.injEq, Value.slice.injEq, Addr.mk.injEq, and_true, true_and] at hc
        obtain ⟨⟨rfl, rfl⟩, rfl⟩ := hc
        have := h3 0 (by have := HK.out.c0; omega)
        exact cell_lt this
      have HR2 := Hid.mk' hr1
      have hkn : (k : Int) < (R : Int) := by omega
      go_wp2_with fail
      obtain ⟨Wr, hWr⟩ : ∃ Wr, Wr = wr := ⟨_, rfl⟩
      rw [← hWr] at HF hc HR2 ⊢
      clear hWr hr1 hc HR1
      go_loopw [6, 7, 21] (fun _ _ i wr => ∃ j : Nat, j ≤ C ∧ i = .int .i64 j ∧ Hid (Fills w wr w.heap.size C (fun c => if c < j then colV zs (k + 1) c else colV zs k c)) ∧ Hid (RowAt wr b1 o1 C (zs k))) (fun _ _ i _ => C - (intOf i).toNat)
      case atStart => exact ⟨0, Nat.zero_le _, rfl, by simpa using HF, HR2⟩
      case round =>
        obtain ⟨j, hj, rfl, HG, HW⟩ := hrel
        rcases Nat.lt_or_ge j C with h2 | h2
        · have hce := HW.out j h2
          have hjC : (j : Int) < (C : Int) := by omega
          have hcF := HG.out.row j h2
          have hfz := HG.out.fz j h2
          rw [Nat.zero_add] at hcF hfz
          rw [if_neg (by omega)] at hcF
          have hb1 := HK.out.col (k := k) (j := j) hk (by rw [hC]; exact h2)
          have hb2 := HK.out.cell h1 (j := j) (by rw [HK.out.even k h1, hC]; exact h2)
          have HV : Hid (colV zs (k + 1) j = colV zs k j + zs k j) := rfl
          have HS := Hid.mk' (HG.out.set h2 (colV zs k j + zs k j) (f' := fun c => if c < j + 1 then colV zs (k + 1) c else colV zs k c) (fun i hi => by
            by_cases hik : i = j
            · subst hik; rw [if_pos (by omega), if_pos rfl, HV.out]
            · rw [if_neg hik]
              by_cases hlt : i < j
              · rw [if_pos (by omega), if_pos hlt]
              · rw [if_neg (by omega), if_neg hlt]))
          have HW1 : Hid (∀ x : Int, RowAt (wr.setCell ⟨w.heap.size, j, none⟩ (.int .i64 x)) b1 o1 C (zs k)) := fun x i hi => by
            rw [World.cell?_setCell_other _ _ _ _ (fun e => by have := congrArg Addr.block e; simp at this; omega)]
            exact HW.out i hi
          generalize colV zs k j = y at *
          generalize zs k j = x at *
          go_wp2_with fail
          exact ⟨⟨j + 1, h2, by go_num, HS, HW1.out _⟩, by simp [intOf]; omega⟩
        · obtain rfl : j = C := by omega
          have HF1 : Hid (Fills w wr w.heap.size j (colV zs (k + 1))) := ⟨fun i hi => by have := HG.out.row i hi; rw [if_pos hi] at this; exact this, HG.out.fz, HG.out.below, HG.out.hg⟩
          go_wp2_with fail
          exact ⟨⟨k + 1, h1, by go_num, HF1⟩, by simp [intOf]; omega⟩
    · obtain rfl : k = R := by omega
      go_wp2_with fail
      go_ret
      exact ⟨_, _, rfl, HF.out.row, HF.out.below⟩
end Go.Proofs.YtfnmpkkfdljgcaaGreatDoor

/- Cells beside a map. -/
namespace Go.Proofs.YtfnmpkkfdljgcaaGreatDoor
open Go.RowKit Go.Maps

/-- A cell beside a map's block. -/
theorem cell_side {w w' : World} {mb nn B o : Nat} {v : Value} {D : DataW Unit} {k : TypeId} {R : Value → Option (DataW Unit × List MemPlace)} (hm : w.ownsMap Tryz.prog k R mb nn D) (hg : w.grownBy w' (some mb)) (hc : w.cell? ⟨B, o, none⟩ = some v) : w'.cell? ⟨B, o, none⟩ = some v := by
  refine cell_beside hg hc ?_
  rintro rfl
  rw [map_no_cell hm] at hc
  cases hc

end Go.Proofs.YtfnmpkkfdljgcaaGreatDoor

/- dist.Given. -/
namespace Go.Proofs.YtfnmpkkfdljgcaaGreatDoor
open Go.RowKit Go.Maps

/-- What a row puts. -/
def givV (ns : Nat → Nat) (zs : Nat → Nat → Int) (x : Int) (i : Nat) : Int := sumN (entV (zs i) (sumN (zs i) (ns i)).toNat x) (ns i)
theorem givV_le {R N : Nat} {ns : Nat → Nat} {zs : Nat → Nat → Int} (h : OkT R ns zs N) (x : Int) {i : Nat} (hi : i < R) : -3200000 ≤ givV ns zs x i ∧ givV ns zs x i ≤ 3200000 := by
  have h1 := h.row hi
  have h2 := h.n6
  have h3 := sumN_bound (f := entV (zs i) (sumN (zs i) (ns i)).toNat x) (B := 200000) (n := ns i) (fun j hj => entV_le x (h.cell hi hj) (by omega))
  have h4 := h.even i hi
  have h5 := h.c16
  have : ((ns i : Nat) : Int) * 200000 ≤ 3200000 := by omega
  unfold givV
  omega

set_option maxRecDepth 100000 in
set_option maxHeartbeats 4000000 in
theorem Given_parts (den : Int) (mb B b o cap R N : Nat) (ns : Nat → Nat) (zs : Nat → Nat → Int) (w : World) (hown : w.ownsMap Tryz.prog 3 (plainElem (H := Unit) Tryz.prog 3) mb 0 (mapOf [])) (hB : w.cell? ⟨B, 0, none⟩ = some (.slice (some ⟨b, o, none⟩) R cap)) (hk : OkT R ns zs N)
    (hr : ∀ i, i < R → ∃ b1 o1 cap1, w.cell? ⟨b, o + i, none⟩ = some (.slice (some ⟨b1, o1, none⟩) (ns 0) cap1) ∧ RowAt w b1 o1 (ns 0) (zs i)) :
    Calls Tryz.prog 33 #[putV den mb, .pointer (some ⟨B, 0, none⟩)] w fun e w' => e = .returned (.tuple #[]) ∧ ∃ l nn, Puts w w' mb (fun x => sumN (givV ns zs x) R) (32 * R) [] 0 l nn := by
  have HP0 : Hid (Puts w w mb (fun x => sumN (givV ns zs x) 0) (32 * 0) [] 0 [] 0) := ⟨hown, List.Pairwise.nil, (fun x => by simp [sumN]), (fun e he => by cases he), by omega, by simp, grown_refl _ _⟩
  have HROW : Hid (∀ (wr : World), w.grownBy wr (some mb) → ∀ i, i < R → ∃ b1 o1 cap1, wr.cell? ⟨b, o + i, none⟩ = some (.slice (some ⟨b1, o1, none⟩) (ns 0) cap1) ∧ RowAt wr b1 o1 (ns 0) (zs i)) := fun wr hg i hi => by
    obtain ⟨b1, o1, cap1, h1, h2⟩ := hr i hi
    exact ⟨b1, o1, cap1, cell_side hown hg h1, h2.beside hown hg⟩
  have HK := Hid.mk' hk
  have hR16 := hk.r16
  clear hown hr hk
  unfold putV
  go_enter Tryz.func33, Tryz.ntmps33
  go_wp2_with fail
  go_loopw [4, 7] (fun _ i wr => ∃ (k nn : Nat) (l : List (Int × Int)), k ≤ R ∧ i = .int .i64 k ∧ Hid (Puts w wr mb (fun x => sumN (givV ns zs x) k) (32 * k) [] 0 l nn)) (fun _ i _ => R - (intOf i).toNat)
  case atStart => exact ⟨0, 0, [], Nat.zero_le _, rfl, HP0⟩
  case round =>
    clear HP0 hB
    obtain ⟨k, nn, l, hk, rfl, HP⟩ := hrel
    rcases Nat.lt_or_ge k R with h1 | h1
    · obtain ⟨b1, o1, cap1, hc, hr1⟩ := HROW.out wr HP.out.grow k h1
      have hkn : (k : Int) < (R : Int) := by omega
      have he := HK.out.even k h1
      have HBD : Hid (∀ x, -100000000 ≤ atL l x ∧ atL l x ≤ 100000000) := fun x => by
        rw [HP.out.val]
        have h3 := sumN_bound (f := givV ns zs x) (B := 3200000) (n := k) (fun i hi => givV_le HK.out x (by omega))
        have : (k : Int) * 3200000 ≤ 51200000 := by omega
        simp only [atL]
        omega
      have hp := putEntropy_some den mb nn b1 o1 cap1 (ns 0) (zs k) l wr HP.out.own HP.out.rise HP.out.keys (fun x => by have := HBD.out x; omega) (by have := HP.out.cnt; omega) hr1 (fun j hj => HK.out.nn k h1 j (by rw [he]; exact hj)) (by have h2 := (HK.out.part h1 (k := ns 0) (by omega)).2; exact h2) (by have := HK.out.c16; omega)
      have HV : Hid (∀ x, sumN (givV ns zs x) (k + 1) = sumN (givV ns zs x) k + sumN (entV (zs k) (sumN (zs k) (ns 0)).toNat x) (ns 0)) := fun x => by
        show sumN (givV ns zs x) k + givV ns zs x k = _
        unfold givV
        rw [he]
      have hc16 := HK.out.c16
      unfold putV at hp
      clear hr1 he
      go_wp2_with fail
      refine hp.mono ?_
      clear hp hc
      rintro e w2 ⟨rfl, l2, nn2, hp2⟩
      have HQ2 := Hid.mk' ((HP.out.trans hp2).congr (d := 32 * (k + 1)) (by omega) (g := fun x => sumN (givV ns zs x) (k + 1)) (fun x => (HV.out x).symm))
      clear hp2
      go_wp2_with fail
      exact ⟨⟨k + 1, nn2, l2, h1, by go_num, HQ2⟩, by simp [intOf]; omega⟩
    · obtain rfl : k = R := by omega
      go_wp2_with fail
      go_end0
      exact ⟨rfl, l, nn, HP.out⟩
theorem giv_bound {R N : Nat} {ns : Nat → Nat} {zs : Nat → Nat → Int} (h : OkT R ns zs N) (x : Int) : -1000000000 ≤ sumN (givV ns zs x) R ∧ sumN (givV ns zs x) R ≤ 1000000000 := by
  have h3 := sumN_bound (f := givV ns zs x) (B := 3200000) (n := R) (fun i hi => givV_le h x hi)
  have h4 := h.r16
  have : (R : Int) * 3200000 ≤ 51200000 := by omega
  omega

set_option maxRecDepth 100000 in
set_option maxHeartbeats 2000000 in
theorem Given_ok (a : Nat → Addr) (ad : Option Addr) (R cap N n : Nat) (vs : Nat → Value) (ns : Nat → Nat) (zs : Nat → Nat → Int) (L : List Int) (w : World) (hE : Errs w a) (h : TabAt w (.slice ad R cap) R vs ns zs) (hR : R ≤ 40) (hs : sumT ns R ≤ 400) (h0 : tabErr R ns zs = 0) (hk : OkT R ns zs N) (hL : L = flatL ns zs R) (hn : L.length = n) (hN : sumN (atF L) n = N) :
    Calls Tryz.prog 15 #[.slice ad R cap] w fun e w' => ∃ dn v', e = .returned (.tuple #[.agg #[.int .i64 dn, v'], .nilIface]) ∧ LogBy w.heap.size N (fun x => sumN (givV ns zs x) R) w' dn v' ∧ Below w.heap.size w w' := by
  obtain ⟨_, _, _, hok, hn256⟩ := tabErr_ok h0
  rw [← hL, hn] at hok hn256
  have hp := hok.posN
  have hN1 : 1 ≤ N ∧ N ≤ 4096 := ⟨hk.n1, hk.n6⟩
  obtain ⟨b, o, rfl, hrows⟩ := tab_rows h hk
  obtain ⟨W0, hW0⟩ : ∃ W0, W0 = (w.alloc (.cells #[.slice (some ⟨b, o, none⟩) R cap] 22)).alloc (.cells #[.int .i64 0, .slice none 0 0] 28) := ⟨_, rfl⟩
  have hb0 : Below w.heap.size w W0 := by rw [hW0]; exact below_chain (new_below _ _) (new_below _ _)
  have hz0 : W0.heap.size = w.heap.size + 1 + 1 := by rw [hW0]; simp
  have hbox : W0.cell? ⟨w.heap.size, 0, none⟩ = some (.slice (some ⟨b, o, none⟩) R cap) := by rw [hW0]; exact new_one (new_below _ _)
  have hres : ∀ W, Below W0.heap.size W0 W → W.cell? ⟨w.heap.size + 1, 0, none⟩ = some (.int .i64 0) ∧ W.cell? ⟨w.heap.size + 1, 1, none⟩ = some (.slice none 0 0) ∧ W.frozen? ⟨w.heap.size + 1, 0, none⟩ = false ∧ W.frozen? ⟨w.heap.size + 1, 1, none⟩ = false := fun W hb => by
    rw [hW0] at hb
    have := res_past hb
    simpa using this
  have ht := Table_any a _ R vs ns zs W0 (hE.below hb0) (h.later hb0) hR hs
  rw [h0, errV_zero] at ht
  have HCL : Hid (∀ W, Below W0.heap.size W0 W → Calls Tryz.prog 25 #[.slice (some ⟨b, o, none⟩) R cap] W fun e w' => ∃ g cp, e = .returned (.slice (some ⟨g, 0, none⟩) n cp) ∧ RowAt w' g 0 n (atF L) ∧ Below W.heap.size W w') := fun W hb => (cells_any _ R vs ns zs W ((h.later hb0).later hb) (by omega) (by omega)).mono (fun e w' hx => by
    obtain ⟨v', rfl, hrow, hb'⟩ := hx
    rw [← hL, hn] at hrow
    obtain ⟨g, cp, rfl, hr⟩ := row_some hrow hn hp
    exact ⟨g, cp, rfl, hr, hb'⟩)
  have HSO : Hid (∀ W, Below W0.heap.size W0 W → Calls Tryz.prog 26 #[.int .i64 N, .func (.func 33) #[] #[.pointer (some ⟨w.heap.size, 0, none⟩)]] W fun e w' => ∃ dn v, e = .returned (.tuple #[.agg #[.int .i64 dn, v], .nilIface]) ∧ LogBy W.heap.size N (fun x => sumN (givV ns zs x) R) w' dn v ∧ Below W.heap.size W w') := fun W hb =>
    sumOver_any 33 _ N (32 * R) (fun x => sumN (givV ns zs x) R) W (enters_of Tryz.func33 (by kernel_rfl) rfl) hN1.1 hN1.2 (by have := hk.r16; omega) (fun x => giv_bound hk x)
      (fun W' mb hb' ho => Given_parts N mb w.heap.size b o cap R N ns zs W' ho (cell_past hbox (below_chain hb hb')).2 hk (hrows W' (below_chain hb0 (below_chain hb hb'))))
  have HOK := Hid.mk' hok
  have HNN := Hid.mk' hN
  have HB0 := Hid.mk' hb0
  have HRES := Hid.mk' hres
  have HW0 := Hid.mk' hW0
  have HZ0 := Hid.mk' hz0
  have HBX := Hid.mk' hbox
  clear hE h hb0 hres hW0 hz0 h0 hok hL hn hN hs hrows hk
  go_enter Tryz.func15, Tryz.ntmps15
  go_upto_region 1 with fail
  rw [← HW0.out]
  go_wp2_with fail
  refine ht.mono ?_
  clear ht hbox
  rintro e w1 ⟨rfl, hb1⟩
  have HB1 := Hid.mk' hb1
  have hbx1 := (cell_past HBX.out hb1).2
  clear hb1
  go_wp2_with (first
    | (go_at_call 25; refine (HCL.out w1 HB1.out).mono ?_; rintro e w2 ⟨g, cp, rfl, hr2, hb2⟩; have htt := total_some g 0 cp n (atF L) w2 hr2 (fun k hk => by have := HOK.out.part hk; omega) (fun i hi => by have := HOK.out.lt hi; omega) (by omega); rw [HNN.out] at htt; have HTT := Hid.mk' htt; have HB2 := Hid.mk' (below_chain HB1.out hb2); clear htt hr2 hb2)
    | (go_at_call 27; refine HTT.out.mono ?_; rintro e w3 ⟨rfl, hw3⟩; rw [hw3]; clear hw3)
    | (go_at_call 26; refine (HSO.out w2 HB2.out).mono ?_; rintro e w4 ⟨dn, v4, rfl, hlb, hb4⟩; obtain ⟨c0, c1, q0, q1⟩ := HRES.out w4 (below_chain HB2.out hb4); have HBW := Hid.mk' (below_chain HB0.out (below_chain HB2.out hb4)); have HLB := Hid.mk' hlb; obtain ⟨ad4, n4, c4, rfl⟩ := hlb.form; clear hlb))
  have HLT : Hid (w.heap.size + 1 < w2.heap.size) := by have h1 := HZ0.out; have h2 := HB2.out.size; show _ < _; omega
  refine bodyPost_ret (v := .tuple #[.agg #[.int .i64 dn, .slice ad4 n4 c4], .nilIface]) (by simp [results, Tryz.results15, go_sem, c0, c1]) rfl ⟨_, .slice ad4 n4 c4, rfl, (HLB.out.set HLT.out _ _).lower (by have := HLT.out; omega), ?_⟩
  exact (HBW.out.setCell (by simp) _).setCell (by simp) _

set_option maxRecDepth 100000 in
set_option maxHeartbeats 1000000 in
theorem Given_bad (a : Nat → Addr) (v : Value) (R : Nat) (vs : Nat → Value) (ns : Nat → Nat) (zs : Nat → Nat → Int) (w : World) (hE : Errs w a) (h : TabAt w v R vs ns zs) (hR : R ≤ 40) (hs : sumT ns R ≤ 400) (h0 : tabErr R ns zs ≠ 0) :
    Calls Tryz.prog 15 #[v] w fun e w' => e = .returned (.tuple #[.agg #[.int .i64 0, .slice none 0 0], errV a (tabErr R ns zs)]) ∧ Below w.heap.size w w' := by
  obtain ⟨ad, cap, rfl⟩ := h.form
  obtain ⟨W0, hW0⟩ : ∃ W0, W0 = (w.alloc (.cells #[.slice ad R cap] 22)).alloc (.cells #[.int .i64 0, .slice none 0 0] 28) := ⟨_, rfl⟩
  have hb0 : Below w.heap.size w W0 := by rw [hW0]; exact below_chain (new_below _ _) (new_below _ _)
  have hbox : W0.cell? ⟨w.heap.size, 0, none⟩ = some (.slice ad R cap) := by rw [hW0]; exact new_one (new_below _ _)
  have hres : ∀ W, Below W0.heap.size W0 W → W.cell? ⟨w.heap.size + 1, 0, none⟩ = some (.int .i64 0) ∧ W.cell? ⟨w.heap.size + 1, 1, none⟩ = some (.slice none 0 0) ∧ W.frozen? ⟨w.heap.size + 1, 0, none⟩ = false ∧ W.frozen? ⟨w.heap.size + 1, 1, none⟩ = false := fun W hb => by
    rw [hW0] at hb
    have := res_past hb
    simpa using this
  have ht := Table_any a _ R vs ns zs W0 (hE.below hb0) (h.later hb0) hR hs
  rw [errV_pos a h0] at ht ⊢
  generalize a (tabErr R ns zs - 1) = ea at ht ⊢
  have HB0 := Hid.mk' hb0
  have HRES := Hid.mk' hres
  have HW0 := Hid.mk' hW0
  clear hE h hb0 hres hW0 h0
  go_enter Tryz.func15, Tryz.ntmps15
  go_upto_region 1 with fail
  rw [← HW0.out]
  go_wp2_with (go_at_call 24; refine ht.mono ?_; rintro e w1 ⟨rfl, hb1⟩; obtain ⟨c0, c1, q0, q1⟩ := HRES.out w1 hb1; have HB1 := Hid.mk' (below_chain HB0.out hb1); clear hb1)
  refine bodyPost_ret (v := .tuple #[.agg #[.int .i64 0, .slice none 0 0], .iface 159 (.pointer (some ea))]) (by simp [results, Tryz.results15, go_sem, c0, c1]) rfl ⟨rfl, ?_⟩
  exact (HB1.out.setCell (by simp) _).setCell (by simp) _
end Go.Proofs.YtfnmpkkfdljgcaaGreatDoor

/- The document's GivenOf. -/
namespace Go.Proofs.YtfnmpkkfdljgcaaGreatDoor
open Go.RowKit

theorem givV_zero {R N : Nat} {ns : Nat → Nat} {zs : Nat → Nat → Int} (h : OkT R ns zs N) {i : Nat} (hi : i < R) (h0 : sumN (zs i) (ns i) = 0) (x : Int) : givV ns zs x i = 0 := by
  have h1 : ∀ j, j < ns i → zs i j = 0 := fun j hj => by
    have h2 := h.nn i hi j hj
    have h3 := sumN_ge (h.nn i hi) hj
    omega
  unfold givV
  have h4 : sumN (entV (zs i) (sumN (zs i) (ns i)).toNat x) (ns i) = sumN (fun _ => 0) (ns i) := sumN_congr (fun j hj => by unfold entV; rw [h1 j hj]; simp)
  rw [h4]
  clear h1 h4 h0
  induction ns i with
  | zero => rfl
  | succ n ih => simp only [sumN]; omega

set_option maxRecDepth 100000 in
set_option maxHeartbeats 4000000 in
theorem GivenOf_ok (ad : Option Addr) (R cap N n : Nat) (vs : Nat → Value) (ns : Nat → Nat) (zs : Nat → Nat → Int) (L : List Int) (w : World) (h : TabAt w (.slice ad R cap) R vs ns zs) (hs : sumT ns R ≤ 400) (hk : OkT R ns zs N) (hok : OkW (atF L) n) (hL : L = flatL ns zs R) (hn : L.length = n) (hN : sumN (atF L) n = N) :
    Calls Tryz.prog 14 #[.slice ad R cap] w fun e w' => ∃ dn v, e = .returned (.tuple #[.agg #[.int .i64 dn, v], .int .i64 0]) ∧ LogBy w.heap.size N (fun x => sumN (givV ns zs x) R) w' dn v ∧ Below w.heap.size w w' := by
  have hp := hok.posN
  have hn4 : n ≤ 400 := by rw [← hn, hL, flatL_length]; exact hs
  have hN1 : 1 ≤ N ∧ N ≤ 4096 := ⟨hk.n1, hk.n6⟩
  obtain ⟨b, o, rfl, hrows⟩ := tab_rows h hk
  obtain ⟨W0, hW0⟩ : ∃ W0, W0 = w.alloc (.cells #[.int .i64 0, .slice none 0 0] 28) := ⟨_, rfl⟩
  have hb0 : Below w.heap.size w W0 := by rw [hW0]; exact new_below _ _
  have hz0 : W0.heap.size = w.heap.size + 1 := by rw [hW0]; simp
  have hres : ∀ W, Below W0.heap.size W0 W → W.cell? ⟨w.heap.size, 0, none⟩ = some (.int .i64 0) ∧ W.cell? ⟨w.heap.size, 1, none⟩ = some (.slice none 0 0) ∧ W.frozen? ⟨w.heap.size, 0, none⟩ = false ∧ W.frozen? ⟨w.heap.size, 1, none⟩ = false := fun W hb => by
    rw [hW0] at hb
    exact res_past hb
  obtain ⟨W1, hW1⟩ : ∃ W1, W1 = W0.alloc (.cells #[.slice none 0 0, .slice none 0 0] 48) := ⟨_, rfl⟩
  have hb1 : Below W0.heap.size W0 W1 := by rw [hW1]; exact new_below _ _
  have hwd : WideAt W0.heap.size N W1 W0.heap.size (.slice none 0 0) (.slice none 0 0) [] := by
    rw [hW1]
    exact ⟨Nat.le_refl _, by simp, by simp, by simp, by simp, World.ownsRow_nil _ _ _ _, World.ownsRow_nil _ _ _ _, (fun e he => by cases he), fun _ => ⟨rfl, rfl⟩⟩
  have HI0 : Hid (WPuts W0.heap.size N W0.heap.size W1 W1 (fun x => sumN (givV ns zs x) 0) (32 * 0) [] (.slice none 0 0) (.slice none 0 0) []) := WPuts.start hwd List.Pairwise.nil (fun x => rfl) 0
  have HFL : Hid (∀ W, Below w.heap.size w W → Calls Tryz.prog 10 #[.slice (some ⟨b, o, none⟩) R cap] W fun e w' => ∃ g cp, e = .returned (.slice (some ⟨g, 0, none⟩) n cp) ∧ RowAt w' g 0 n (atF L) ∧ Below W.heap.size W w') := fun W hb => (Flat_any _ R vs ns zs W (h.later hb) (by have := hk.r16; omega) (by omega)).mono (fun e w' hx => by
    obtain ⟨v', rfl, hrow, hb'⟩ := hx
    rw [← hL, hn] at hrow
    obtain ⟨g, cp, rfl, hr⟩ := row_some hrow hn hp
    exact ⟨g, cp, rfl, hr, hb'⟩)
  have HS2 : Hid (∀ (W : World) (g cp : Nat), RowAt W g 0 n (atF L) → Calls Tryz.prog 32 #[.slice (some ⟨g, 0, none⟩) n cp] W fun e w' => e = .returned (.int .i64 N) ∧ w' = W) := fun W g cp hr => by
    have := Sum_some g 0 cp n (atF L) W hr (fun k hk => by have := hok.part hk; omega) (fun i hi => by have := hok.lt hi; omega) (by omega)
    rw [hN] at this
    exact this
  have HK := Hid.mk' hk
  have hR16 := hk.r16
  have hc16 := hk.c16
  have HR := Hid.mk' hrows
  have HB0 := Hid.mk' hb0
  have HB1 := Hid.mk' hb1
  have HRES := Hid.mk' hres
  have HW0 := Hid.mk' hW0
  have HW1 := Hid.mk' hW1
  have HZ0 := Hid.mk' hz0
  clear h hb0 hb1 hres hW0 hW1 hz0 hwd hrows hk hok hL hn hN hs
  go_enter Tryz.func14, Tryz.ntmps14
  go_upto_region 1 with fail
  rw [← HW0.out]
  go_upto_region 2 with fail
  rw [← HW1.out]
  go_wp2_with fail
  go_loopw [5] (fun i wr => ∃ (k : Nat) (vp vc : Value) (Lw : List Ent), k ≤ R ∧ i = .int .i64 k ∧ Hid (WPuts W0.heap.size N W0.heap.size W1 wr (fun x => sumN (givV ns zs x) k) (32 * k) [] vp vc Lw)) (fun i _ => R - (intOf i).toNat)
  case atStart => exact ⟨0, _, _, [], Nat.zero_le _, rfl, HI0⟩
  case round =>
    clear HI0
    obtain ⟨k, vp, vc, Lw, hk, rfl, HI⟩ := hrel
    have HBW : Hid (Below w.heap.size w wr) := below_chain HB0.out (HB1.out.trans HI.out.below)
    rcases Nat.lt_or_ge k R with h1 | h1
    · obtain ⟨b1, o1, cap1, hc, hr1⟩ := HR.out wr HBW.out k h1
      have HKS : Hid (∀ W, Below w.heap.size w W → W.cell? ⟨b, o + k, none⟩ = some (.slice (some ⟨b1, o1, none⟩) (ns 0) cap1) ∧ RowAt W b1 o1 (ns 0) (zs k)) := fun W hb => by
        obtain ⟨b2, o2, cap2, h2, h3⟩ := HR.out w (Below.refl _ _) k h1
        rw [HBW.out.cell (cell_lt h2), h2] at hc
        simp only [Option.some.injEq, Value.slice.injEq, Addr.mk.injEq, and_true, true_and] at hc
        obtain ⟨⟨rfl, rfl⟩, rfl⟩ := hc
        exact ⟨by rw [hb.cell (cell_lt h2)]; exact h2, h3.later hb⟩
      have hkn : (k : Int) < (R : Int) := by omega
      have he := HK.out.even k h1
      have hrow := HK.out.row h1
      obtain ⟨r, hr⟩ := Int.eq_ofNat_of_zero_le hrow.1
      have hr6 : r ≤ 4096 := by have := hrow.2; omega
      have HS1 : Hid (∀ W, Below w.heap.size w W → Calls Tryz.prog 32 #[.slice (some ⟨b1, o1, none⟩) (ns 0) cap1] W fun e w' => e = .returned (.int .i64 (r : Int)) ∧ w' = W) := fun W hb => by
        have := Sum_some b1 o1 cap1 (ns 0) (zs k) W (HKS.out W hb).2 (fun j hj => by have := HK.out.part h1 (k := j) (by omega); omega) (fun j hj => by have := HK.out.cell h1 (j := j) (by omega); omega) (by omega)
        rw [← he, hr] at this
        rw [he] at this
        exact this
      by_cases hr0 : r = 0
      · subst hr0
        have HV0 : Hid (∀ x, sumN (givV ns zs x) k = sumN (givV ns zs x) (k + 1)) := fun x => by
          show _ = sumN (givV ns zs x) k + givV ns zs x k
          rw [givV_zero HK.out h1 (by rw [hr]; rfl) x]; omega
        have hS := HS1.out wr HBW.out
        clear hr1 he hrow hr
        go_wp2_with (go_at_call 32; refine hS.mono ?_; rintro e w4 ⟨rfl, hw4⟩; rw [hw4]; clear hw4)
        exact ⟨⟨k + 1, vp, vc, Lw, h1, by go_num, HI.out.congr (by omega) HV0.out⟩, by simp [intOf]; omega⟩
      · have hrp : (0 : Int) < (r : Int) := by omega
        have HBD : Hid (∀ x, -100000000 ≤ atL (absL Lw) x ∧ atL (absL Lw) x ≤ 100000000) := fun x => by
          rw [HI.out.val]
          have h3 := sumN_bound (f := givV ns zs x) (B := 3200000) (n := k) (fun i hi => givV_le HK.out x (by omega))
          have : (k : Int) * 3200000 ≤ 51200000 := by omega
          simp only [absL, List.map_nil, atL]
          omega
        have hl0 : Lw.length ≤ 12000 := by have := HI.out.len; simp at this; omega
        have HRO : Hid (∀ W, Calls Tryz.prog 22 #[.int .i64 (r : Int), .int .i64 N] W fun e w' => ∃ q, e = .returned q ∧ RatioAt w' q (lowN N r) (lowD N r) ∧ Below W.heap.size W w') := fun W => RatioOf_low r N W (by omega) hN1.1 (by omega)
        have hBw := HI.out.wide.lt
        have HEN : Hid (∀ (W : World) (q : Value), Below wr.heap.size wr W → RatioAt W q (lowN N r) (lowD N r) → Calls Tryz.prog 21 #[.pointer (some ⟨W0.heap.size, 0, none⟩), .slice (some ⟨b1, o1, none⟩) (ns 0) cap1, q] W fun e w' => e = .returned (.tuple #[]) ∧ ∃ vp' vc' L', WPuts W0.heap.size N W0.heap.size W1 w' (fun x => sumN (givV ns zs x) (k + 1)) (32 * (k + 1)) [] vp' vc' L') := fun W q hb hq => by
          have hwl := HI.out.later hb
          refine (WEntropy_some W0.heap.size N W0.heap.size b1 o1 cap1 (ns 0) r (zs k) q vp vc Lw W hwl.wide hq hN1.1 hN1.2 hwl.rise (by omega) (fun x => by have := HBD.out x; omega) (HKS.out W (below_chain HBW.out hb)).2 (fun j hj => HK.out.nn k h1 j (by omega)) (by rw [← he]; exact hr) (by omega) hr6 (by omega)).mono ?_
          rintro e w' ⟨rfl, vp', vc', L', hq'⟩
          refine ⟨rfl, vp', vc', L', (hwl.trans hq').congr (by omega) (fun x => ?_)⟩
          show _ = sumN (givV ns zs x) k + givV ns zs x k
          unfold givV
          rw [hr, he]
          simp
        have HKC : Hid (∀ W, Below w.heap.size w W → W.cell? ⟨b, o + k, none⟩ = some (.slice (some ⟨b1, o1, none⟩) (ns 0) cap1)) := fun W hb => (HKS.out W hb).1
        have hcur0 : Below wr.heap.size wr wr := Below.refl _ _
        have hcur : Below wr.heap.size wr wr.drew := (Below.refl _ _).drew
        have hS := HS1.out wr HBW.out
        clear hr1 he hrow hr
        go_wp2_with (go_at_call 32; refine hS.mono ?_; rintro e w4 ⟨rfl, hw4⟩; rw [hw4]; clear hw4)
        clear hS hc
        go_region_held3 (fun W => W.cell? ⟨b, o + k, none⟩ = some (.slice (some ⟨b1, o1, none⟩) (ns 0) cap1))
          (first | exact HKC.out _ (below_chain HBW.out hcur0) | exact HKC.out _ (below_chain HBW.out hcur) | exact HKC.out _ (below_chain HBW.out hbw5) | exact HKC.out _ (below_chain HBW.out hbw6) | exact HKC.out _ HT7.out)
          (first
            | (go_at_call 21; refine (HEN.out _ _ hbw6 HR6.out).mono ?_; rintro e w7 ⟨rfl, vp7, vc7, L7, hq7⟩; have HT7 : Hid (Below w.heap.size w w7) := below_chain HB0.out (HB1.out.trans hq7.below); have HQ7 := Hid.mk' hq7; clear hq7)
            | (go_at_call 22; refine (HRO.out _).mono ?_; rintro e w6 ⟨q6, rfl, hq6, hb6⟩; have hbw6 := below_chain hbw5 hb6; have HR6 := Hid.mk' hq6; clear hq6 hb6)
            | (go_at_call_of 32 g5; refine (HS2.out _ g5 cp5 HR5.out).mono ?_; rintro e w8 ⟨rfl, hw8⟩; rw [hw8]; clear hw8)
            | (go_at_call_of 32 b1; refine (HS1.out _ ?_).mono ?_; (first | exact below_chain HBW.out hcur | exact below_chain HBW.out hbw5); rintro e w8 ⟨rfl, hw8⟩; rw [hw8]; clear hw8)
            | (go_at_call 10; refine (HFL.out _ (below_chain HBW.out hcur)).mono ?_; rintro e w5 ⟨g5, cp5, rfl, hr5, hb5⟩; have hbw5 := below_chain hcur hb5; have HR5 := Hid.mk' hr5; clear hr5 hb5))
        all_goals
          go_wp2_with fail
          exact ⟨⟨k + 1, vp7, vc7, L7, h1, by go_num, HQ7⟩, by simp [intOf]; omega⟩
    · obtain rfl : k = R := by omega
      have hbA : Below W0.heap.size W0 wr := HB1.out.trans HI.out.below
      have ht := WTold_by W0.heap.size N W0.heap.size vp vc Lw (fun x => sumN (givV ns zs x) k) wr HI.out.wide HI.out.rise hN1.1 hN1.2 (by have := HI.out.len; simp at this; omega) (fun x => by have := HI.out.val x; simpa [absL, atL] using this) (fun x => giv_bound HK.out x)
      go_wp2_with fail
      refine ht.mono ?_
      clear ht
      rintro e w4 ⟨dn, v, rfl, hlb, hb4⟩
      obtain ⟨c0, c1, q0, q1⟩ := HRES.out w4 (below_chain hbA hb4)
      have HBX := Hid.mk' (below_chain HB0.out (below_chain hbA hb4))
      have HLT : Hid (w.heap.size < wr.heap.size) := by have h1 := HZ0.out; have h2 := hbA.size; show _ < _; omega
      have HLB := Hid.mk' hlb
      obtain ⟨ad9, n9, c9, rfl⟩ := hlb.form
      clear hlb hbA hb4
      go_wp2_with fail
      refine bodyPost_ret (v := .tuple #[.agg #[.int .i64 dn, .slice ad9 n9 c9], .int .i64 0]) (by simp [results, Tryz.results14, go_sem, c0, c1]) rfl ⟨_, .slice ad9 n9 c9, rfl, (HLB.out.set HLT.out _ _).lower (Nat.le_of_lt HLT.out), ?_⟩
      exact (HBX.out.setCell (by simp) _).setCell (by simp) _
end Go.Proofs.YtfnmpkkfdljgcaaGreatDoor

/- The law DistGiven. -/
namespace Go.Proofs.YtfnmpkkfdljgcaaGreatDoor
open Go.RowKit

set_option maxRecDepth 100000 in
set_option maxHeartbeats 4000000 in
theorem DistGiven_all (a : Nat → Addr) (ad : Option Addr) (R cap : Nat) (vs : Nat → Value) (ns : Nat → Nat) (zs : Nat → Nat → Int) (w : World) (hE : Errs w a) (k : TabAt w (.slice ad R cap) R vs ns zs) (hm : R ≤ maxLen) (hs : sumT ns R ≤ 2000000) :
    Calls Tryz.prog 4 #[.slice ad R cap] w fun e w' => e = .returned (.bool true) ∧ Below w.heap.size w w' := by
  have hC := coin_any a w hE
  by_cases hf : R ≤ 40 ∧ sumT ns R ≤ 400
  · have HFW : Hid (∀ W, Below w.heap.size w W → Calls Tryz.prog 7 #[.slice ad R cap] W fun e w' => e = .returned (.bool true) ∧ Below W.heap.size W w') := fun W hb => few_any _ R vs ns zs W (k.later hb) hm hs true ⟨fun _ => hf, fun _ => rfl⟩
    have HK : Hid (∀ W, Below w.heap.size w W → TabAt W (.slice ad R cap) R vs ns zs) := fun W hb => k.later hb
    obtain ⟨hf1, hf2⟩ := hf
    by_cases h0 : tabErr R ns zs = 0
    · obtain ⟨hR16, _, _, hok, hn256⟩ := tabErr_ok h0
      obtain ⟨N, hkT, hNN⟩ := tabErr_okT h0
      obtain ⟨L, hL⟩ : ∃ L, L = flatL ns zs R := ⟨_, rfl⟩
      obtain ⟨n, hn⟩ : ∃ n, L.length = n := ⟨_, rfl⟩
      rw [← hL, hn] at hok hn256
      have hp := hok.posN
      have hN : sumN (atF L) n = N := by rw [← hn, hL]; exact hNN
      have hN1 : 1 ≤ N ∧ N ≤ 4096 := by have := hok.pos; have := hok.le; omega
      have HTE : Hid (∀ W, Below w.heap.size w W → Calls Tryz.prog 8 #[.slice ad R cap] W fun e w' => e = .returned (.int .i64 0) ∧ Below W.heap.size W w') := fun W hb => by
        have := TableError_any _ R vs ns zs W (k.later hb) hf1 hf2
        rw [h0] at this
        exact this
      have HEO : Hid (∀ W, Below w.heap.size w W → Calls Tryz.prog 14 #[.slice ad R cap] W fun e w' => ∃ dn v, e = .returned (.tuple #[.agg #[.int .i64 dn, v], .int .i64 0]) ∧ LogBy W.heap.size N (fun x => sumN (givV ns zs x) R) w' dn v ∧ Below W.heap.size W w') := fun W hb => GivenOf_ok ad R cap N n vs ns zs L W (k.later hb) hf2 hkT hok hL hn hN
      have HEN : Hid (∀ (W : World) (v : Value) (us : Nat → Value), Below w.heap.size w W → TabAt W v R us ns zs → Calls Tryz.prog 15 #[v] W fun e w' => ∃ dn v', e = .returned (.tuple #[.agg #[.int .i64 dn, v'], .nilIface]) ∧ LogBy W.heap.size N (fun x => sumN (givV ns zs x) R) w' dn v' ∧ Below W.heap.size W w') := fun W v us hb hv => by
        obtain ⟨ad1, cap1, rfl⟩ := hv.form
        exact Given_ok a ad1 R cap1 N n us ns zs L W (hE.below hb) hv hf1 hf2 h0 hkT hL hn hN
      clear hE k h0 hok hL hn hN hNN hkT
      go_enter Tryz.func4, Tryz.ntmps4
      go_wp2_with (first
        | (go_at_call 6; refine hC.mono ?_; rintro e w1 ⟨rfl, hb1⟩; have HB1 := Hid.mk' hb1; clear hb1)
        | (go_at_call 7; refine (HFW.out w1 HB1.out).mono ?_; rintro e w2 ⟨rfl, hb2⟩; have HB2 := Hid.mk' (below_chain HB1.out hb2); clear hb2)
        | (go_at_call 8; refine (HTE.out w2 HB2.out).mono ?_; rintro e w3 ⟨rfl, hb3⟩; have HB3 := Hid.mk' (below_chain HB2.out hb3); have HBX := Hid.mk' (below_chain HB3.out (new_below w3 (.cells #[.int .i64 0, .slice none 0 0] 28))); clear hb3))
      refine (HEO.out _ HBX.out).mono ?_
      clear HEO HTE HFW
      rintro e w5 ⟨dn, v, rfl, hlb, hb5⟩
      obtain ⟨ad5, n5, cap5, rfl⟩ := hlb.form
      have hb35 := hb5
      obtain ⟨c0, c1, q0, q1⟩ := box_past2 hb35
      have hz3 := HB3.out.size
      obtain ⟨W6, hW6⟩ : ∃ W6, W6 = (w5.setCell ⟨w3.heap.size, 0, none⟩ (.int .i64 dn)).setCell ⟨w3.heap.size, 1, none⟩ (.slice ad5 n5 cap5) := ⟨_, rfl⟩
      have HB6 : Hid (Below w.heap.size w W6) := by rw [hW6]; exact ((below_chain HBX.out hb35).setCell hz3 _).setCell hz3 _
      have HL6 : Hid (LogBy (w3.heap.size + 1) N (fun x => sumN (givV ns zs x) R) W6 dn (.slice ad5 n5 cap5)) := by
        rw [hW6]
        have := hlb.set (B := w3.heap.size) (by simp) (.int .i64 dn) (.slice ad5 n5 cap5)
        rw [World.size_alloc] at this
        exact this
      have HC6 : Hid (W6.cell? ⟨w3.heap.size, 0, none⟩ = some (.int .i64 dn) ∧ W6.cell? ⟨w3.heap.size, 1, none⟩ = some (.slice ad5 n5 cap5)) := by
        rw [hW6]
        exact ⟨by rw [World.cell?_setCell_other _ _ _ _ (by simp)]; exact World.cell?_setCell_same _ _ _ c0, World.cell?_setCell_same _ _ _ (by rw [World.cell?_setCell_other _ _ _ _ (by simp)]; exact c1)⟩
      have HW6 := Hid.mk' hW6
      clear hlb hb5 hb35 hW6
      go_upto_region 8 with fail
      rw [← HW6.out]
      go_wp2_with (first
        | (go_at_call 12; refine (lists_any _ R vs ns zs W6 (HK.out _ HB6.out) hf1 hf2).mono ?_; rintro e w7 ⟨v7, vs7, rfl, hv7, hb7⟩; obtain ⟨ad7, cap7, rfl⟩ := hv7.form; have HV7 := Hid.mk' hv7; have HB7 := Hid.mk' hb7; clear hv7 hb7)
        | (go_at_call 15; refine (HEN.out w7 _ vs7 (below_chain HB6.out HB7.out) HV7.out).mono ?_; rintro e w8 ⟨dn8, v8, rfl, hlb8, hb8⟩; obtain ⟨ad8, n8, cap8, rfl⟩ := hlb8.form; have hbY := below_chain (below_chain HB7.out hb8) (new_below w8 (.cells #[.int .i64 dn8, .slice ad8 n8 cap8] 28)); have y0 := (cell_past HC6.out.1 hbY).2; have y1 := (cell_past HC6.out.2 hbY).2; have HIS := Hid.mk' (isLog_by (hlb8.later (new_below w8 (.cells #[.int .i64 dn8, .slice ad8 n8 cap8] 28))) (HL6.out.later hbY) (fun _ => rfl)); have HBY := Hid.mk' (below_chain HB6.out hbY); clear hlb8 hb8 hbY)
        | (go_at_call 13; refine HIS.out.mono ?_; rintro e w9 ⟨rfl, hb9⟩; have HB9 := Hid.mk' (below_chain HBY.out hb9); clear hb9))
      go_ret
      exact ⟨rfl, HB9.out⟩
    · have HTE : Hid (∀ W, Below w.heap.size w W → Calls Tryz.prog 8 #[.slice ad R cap] W fun e w' => e = .returned (.int .i64 (tabErr R ns zs : Int)) ∧ Below W.heap.size W w') := fun W hb => TableError_any _ R vs ns zs W (k.later hb) hf1 hf2
      have HEN : Hid (∀ (W : World) (v : Value) (us : Nat → Value), Below w.heap.size w W → TabAt W v R us ns zs → Calls Tryz.prog 15 #[v] W fun e w' => e = .returned (.tuple #[.agg #[.int .i64 0, .slice none 0 0], errV a (tabErr R ns zs)]) ∧ Below W.heap.size W w') := fun W v us hb hv => Given_bad a v R us ns zs W (hE.below hb) hv hf1 hf2 h0
      have HIS : Hid (∀ W, Below w.heap.size w W → Calls Tryz.prog 13 #[.agg #[.int .i64 0, .slice none 0 0], errV a (tabErr R ns zs), .agg #[.int .i64 0, .slice none 0 0], .int .i64 (tabErr R ns zs : Int)] W fun e w' => e = .returned (.bool true) ∧ Below W.heap.size W w') := fun W hb => isLog_bad a _ h0 (by have := tabErr_le R ns zs; omega) 0 none 0 0 W (hE.below hb)
      obtain ⟨ev, hev⟩ : ∃ ev, ev = errV a (tabErr R ns zs) := ⟨_, rfl⟩
      rw [← hev] at HEN HIS
      generalize tabErr R ns zs = c at *
      clear hE k hev
      have hcb : ((c : Int) == 0) = false := by simpa using h0
      go_enter Tryz.func4, Tryz.ntmps4
      go_wp2_with (first
        | (go_at_call 6; refine hC.mono ?_; rintro e w1 ⟨rfl, hb1⟩; have HB1 := Hid.mk' hb1; clear hb1)
        | (go_at_call 7; refine (HFW.out w1 HB1.out).mono ?_; rintro e w2 ⟨rfl, hb2⟩; have HB2 := Hid.mk' (below_chain HB1.out hb2); clear hb2)
        | (go_at_call 8; refine (HTE.out w2 HB2.out).mono ?_; rintro e w3 ⟨rfl, hb3⟩; have HB3 := Hid.mk' (below_chain HB2.out hb3); have HBX := Hid.mk' (below_chain HB3.out (new_below w3 (.cells #[.int .i64 0, .slice none 0 0] 28))); clear hb3)
        | (go_at_call 12; refine (lists_any _ R vs ns zs _ (HK.out _ HBX.out) hf1 hf2).mono ?_; rintro e w7 ⟨v7, vs7, rfl, hv7, hb7⟩; obtain ⟨ad7, cap7, rfl⟩ := hv7.form; have HV7 := Hid.mk' hv7; have HB7 := Hid.mk' hb7; clear hv7 hb7)
        | (go_at_call 15; refine (HEN.out w7 _ vs7 (below_chain HBX.out HB7.out) HV7.out).mono ?_; rintro e w8 ⟨rfl, hb8⟩; have hbY := below_chain (below_chain HB7.out hb8) (new_below w8 (.cells #[.int .i64 0, .slice none 0 0] 28)); obtain ⟨c0, c1, _, _⟩ := box_past2 hbY; have HBY := Hid.mk' (below_chain HBX.out hbY); clear hb8 hbY)
        | (go_at_call 13; refine (HIS.out _ HBY.out).mono ?_; rintro e w9 ⟨rfl, hb9⟩; have HB9 := Hid.mk' (below_chain HBY.out hb9); clear hb9))
      go_ret
      exact ⟨rfl, HB9.out⟩
  · have HFW : Hid (∀ W, Below w.heap.size w W → Calls Tryz.prog 7 #[.slice ad R cap] W fun e w' => e = .returned (.bool false) ∧ Below W.heap.size W w') := fun W hb => few_any _ R vs ns zs W (k.later hb) hm hs false ⟨(fun e => by cases e), (fun e => absurd e hf)⟩
    clear hE k hf
    go_enter Tryz.func4, Tryz.ntmps4
    go_wp2_with (first
      | (go_at_call 6; refine hC.mono ?_; rintro e w1 ⟨rfl, hb1⟩; have HB1 := Hid.mk' hb1; clear hb1)
      | (go_at_call 7; refine (HFW.out w1 HB1.out).mono ?_; rintro e w2 ⟨rfl, hb2⟩; have HB2 := Hid.mk' (below_chain HB1.out hb2); clear hb2))
    go_ret
    exact ⟨rfl, HB2.out⟩
end Go.Proofs.YtfnmpkkfdljgcaaGreatDoor

/- What the rows' condition on package variables gives a walk: eight different sentinels with their texts, and the handle of the type error. -/
namespace Go.Proofs.YtfnmpkkfdljgcaaGreatDoor
open Go.ChangeShapes Go.WideShapes Go.RowKit

theorem Tryz.own : ownKnob Tryz.prog.godebug = none := by kernel_rfl
theorem Tryz.et : Tryz.prog.globalNamed "errors.errorType" = some 8 := by kernel_rfl
theorem Tryz.rt : (Tryz.prog.cutTypes.find? (·.1 == "internal/reflectlite.rtype")).map (·.2) = some 125 := by kernel_rfl
theorem Tryz.oneRow : ((List.range 192).filter fun t => Tryz.prog.rowNamed t [101, 114, 114, 111, 114]) = [34] := by kernel_rfl
theorem Tryz.size : Tryz.prog.types.size = 192 := by kernel_rfl
theorem Tryz.star : ("*" ++ "errors.errorString" : String) = "*errors.errorString" := by decide
theorem Tryz.rowE (u : TypeId) (h : Tryz.prog.typeName? 3 u = some "*errors.errorString") : u = 159 :=
  typeName_ptr_named (nm := "errors.errorString") (by rw [Tryz.star]; kernel_rfl) (by kernel_rfl) (by decide) u (by rw [Tryz.star]; exact h)
theorem Tryz.cellsE : Tryz.prog.cellsOf 180 = 1 := by kernel_rfl
theorem Tryz.cellsS : Tryz.prog.cellsOf 9 = 1 := by kernel_rfl
theorem Tryz.g0 : Tryz.prog.globalNamed "demon/api.ErrText" = some 2 := by kernel_rfl
theorem Tryz.g1 : Tryz.prog.globalNamed "demon/api.ErrBound" = some 0 := by kernel_rfl
theorem Tryz.g2 : Tryz.prog.globalNamed "demon/api.ErrShape" = some 1 := by kernel_rfl
theorem Tryz.g3 : Tryz.prog.globalNamed "demon/api.ErrZero" = some 3 := by kernel_rfl
theorem Tryz.g4 : Tryz.prog.globalNamed "demon/api.ErrName" = some 4 := by kernel_rfl
theorem Tryz.g5 : Tryz.prog.globalNamed "demon/api.ErrNone" = some 5 := by kernel_rfl
theorem Tryz.g6 : Tryz.prog.globalNamed "demon/api.ErrOrder" = some 6 := by kernel_rfl
theorem Tryz.g7 : Tryz.prog.globalNamed "demon/api.ErrKind" = some 7 := by kernel_rfl

/-- Any number of listed sentinels of one type: each one's pointer, text and row; no two are one. -/
theorem laid_list {P : Program} {W : World} {nm : String} {ti tp te ts : TypeId} {ms : Array (String × TypeId)} {f : Field}
    (hi : P.underlying ti = some (.interface ms)) (hrow : ∀ u, P.typeName? 3 u = some nm → u = tp)
    (hp : P.underlying tp = some (.pointer te)) (he : P.underlying te = some (.struct #[f])) (hft : f.type = ts) (hfo : f.offset = 0) (hs : P.underlying ts = some .string) (hc : P.cellsOf te = 1) (hcs : P.cellsOf ts = 1) :
    ∀ (L : List (String × List UInt8)) (ps : List MemPlace), (∀ x, x ∈ L → ∃ g, P.globalNamed x.1 = some g ∧ (P.globals[g]?).map (·.type) = some ti) →
      DataW.LaidVars P W (L.map fun x => (x.1, .iface nm (.ptr (.agg [.lit (.string x.2)])))) ps → ps.Nodup →
      (∀ b off, MemPlace.cell b off ∈ ps → (∃ c t, W.heap[b]? = some (.cells c t (0, 0))) ∧ ∀ u v, W.cell? ⟨b, off, none⟩ = some (.iface u v) → Value.okWide P W .any 0 u v) →
      ∃ a : Nat → Addr, (∀ i x, L[i]? = some x → W.var? P x.1 = some #[.iface tp (.pointer (some (a i)))] ∧ (∃ s, W.cell? (a i) = some (.string s) ∧ s.data.toList = x.2) ∧
          (∃ c t, W.heap[(a i).block]? = some (.cells c t (0, 0))) ∧ MemPlace.cell (a i).block (a i).off ∈ ps) ∧
        ∀ i j, i < L.length → j < L.length → i ≠ j → a i ≠ a j := by
  intro L
  induction L with
  | nil => intro ps _ _ _ _; exact ⟨fun _ => default, fun i x h => by simp at h, fun i j h => by simp at h⟩
  | cons x r ih =>
    intro ps hgs hv hnd hrows
    obtain ⟨n, text⟩ := x
    obtain ⟨g0, t0, cs0, f0, p0, q0, hg0, ht0, hv0, hd0, hvr, e0⟩ := hv
    obtain ⟨g, hg, ht⟩ := hgs (n, text) (List.mem_cons_self ..)
    obtain rfl := Option.some.inj (hg.symm.trans hg0)
    obtain rfl := Option.some.inj (ht.symm.trans ht0)
    subst e0
    obtain ⟨l0⟩ := cs0
    have ok0 : ∀ u v, l0 = [.iface u v] → Value.okWide P W .any 0 u v := fun u v e => by
      subst e
      exact (hrows g 0 (by simp [MemPlace.row])).2 u v (by simpa using World.var?_cell hg0 hv0 0)
    obtain ⟨a0, s0, rfl, hc0, hs0, hz0, rfl⟩ := errorString_of_trod hi hrow hp he hft hfo hs hc hcs hd0 ok0
    obtain ⟨c0, tt0, hb0⟩ := (hrows a0.block a0.off (by simp [MemPlace.row])).1
    have hnq : q0.Nodup := List.Nodup.sublist (List.sublist_append_right _ _) hnd
    obtain ⟨a', ha', hne'⟩ := ih q0 (fun x hx => hgs x (List.mem_cons_of_mem _ hx)) hvr hnq (fun b off hm => hrows b off (List.mem_append_right _ hm))
    have hnot : MemPlace.cell a0.block a0.off ∉ q0 := by
      intro hm
      have := (List.nodup_append.1 hnd).2.2
      exact this (.cell a0.block a0.off) (by simp [MemPlace.row]) (.cell a0.block a0.off) hm rfl
    refine ⟨fun i => match i with | 0 => a0 | k + 1 => a' k, ?_, ?_⟩
    · intro i x hx
      cases i with
      | zero =>
        simp only [List.getElem?_cons_zero, Option.some.injEq] at hx
        subst hx
        exact ⟨hv0, ⟨s0, hc0, hs0⟩, ⟨c0, tt0, hb0⟩, by simp [MemPlace.row]⟩
      | succ k =>
        simp only [List.getElem?_cons_succ] at hx
        obtain ⟨h1, h2, h3, h4⟩ := ha' k x hx
        exact ⟨h1, h2, h3, List.mem_append_right _ h4⟩
    · have far : ∀ k, k < r.length → a0 ≠ a' k := fun k hk e => by
        obtain ⟨_, _, _, h4⟩ := ha' k r[k] (by simp [hk])
        rw [← e] at h4
        exact hnot h4
      intro i j hi' hj' hij
      cases i with
      | zero =>
        cases j with
        | zero => exact absurd rfl hij
        | succ k => exact far k (by simpa using hj')
      | succ m =>
        cases j with
        | zero => exact (far m (by simpa using hi')).symm
        | succ k => exact hne' m k (by simpa using hi') (by simpa using hj') (by omega)

/-- The names and texts, in the rows' order. -/
def eightNames : List (String × List UInt8) := [("demon/api.ErrText", [100, 101, 109, 111, 110, 58, 32, 116, 101, 120, 116]), ("demon/api.ErrBound", [100, 101, 109, 111, 110, 58, 32, 98, 111, 117, 110, 100]), ("demon/api.ErrShape", [100, 101, 109, 111, 110, 58, 32, 115, 104, 97, 112, 101]), ("demon/api.ErrZero", [100, 101, 109, 111, 110, 58, 32, 122, 101, 114, 111]), ("demon/api.ErrName", [100, 101, 109, 111, 110, 58, 32, 110, 97, 109, 101]), ("demon/api.ErrNone", [100, 101, 109, 111, 110, 58, 32, 110, 111, 110, 101]), ("demon/api.ErrOrder", [100, 101, 109, 111, 110, 58, 32, 111, 114, 100, 101, 114]), ("demon/api.ErrKind", [100, 101, 109, 111, 110, 58, 32, 107, 105, 110, 100])]
def laidAll : List (String × DataW Unit) := [("errors.errorType", Rows.laid_errors_errorType), ("demon/api.ErrText", Rows.laid_demon_api_ErrText), ("demon/api.ErrBound", Rows.laid_demon_api_ErrBound), ("demon/api.ErrShape", Rows.laid_demon_api_ErrShape), ("demon/api.ErrZero", Rows.laid_demon_api_ErrZero), ("demon/api.ErrName", Rows.laid_demon_api_ErrName), ("demon/api.ErrNone", Rows.laid_demon_api_ErrNone), ("demon/api.ErrOrder", Rows.laid_demon_api_ErrOrder), ("demon/api.ErrKind", Rows.laid_demon_api_ErrKind)]
theorem laidAll_parts (W : World) : laidMetH Tryz.prog laidAll W = (laidMet Tryz.prog (eightNames.map fun x => (x.1, .iface "*errors.errorString" (.ptr (.agg [.lit (.string x.2)])))) W ∧ handlesMet Tryz.prog [("errors.errorType", Rows.laid_errors_errorType)] W) := by kernel_rfl

theorem var_at {W : World} {n : String} {g : Nat} {v : Value} (hg : Tryz.prog.globalNamed n = some g) (h : W.var? Tryz.prog n = some #[v]) : W.cell? ⟨g, 0, none⟩ = some v := by
  simpa using World.var?_cell hg h 0

theorem errs_of_laid {W : World} (h : laidMetH Tryz.prog laidAll W) : ∃ a : Nat → Addr, Errs W a ∧ ∀ i x, eightNames[i]? = some x → ∃ s, W.cell? (a i) = some (.string s) ∧ s.data.toList = x.2 := by
  rw [laidAll_parts] at h
  obtain ⟨⟨ps, hv, hnd, hrows⟩, hh⟩ := h
  obtain ⟨name, u, ty, e1, e2, e3, e4, e5⟩ := hh _ (List.mem_singleton.2 rfl)
  have en : name = [101, 114, 114, 111, 114] := (Option.some.inj e1).symm
  subst en
  obtain rfl := Option.some.inj (Tryz.rt.symm.trans e2)
  have hm : ty ∈ (List.range 192).filter fun t => Tryz.prog.rowNamed t [101, 114, 114, 111, 114] := List.mem_filter.2 ⟨List.mem_range.2 (by rw [← Tryz.size]; exact e3), e4⟩
  rw [Tryz.oneRow] at hm
  obtain rfl := List.mem_singleton.1 hm
  have hth : typeHandle Tryz.prog 34 = .pointer (some ⟨9, 34, none⟩) := by kernel_rfl
  rw [hth] at e5
  obtain ⟨a, ha, hne⟩ := laid_list Tryz.underlying34 Tryz.rowE Tryz.underlying159 Tryz.underlying180 rfl rfl Tryz.underlying9 Tryz.cellsE Tryz.cellsS eightNames ps
    (fun x hx => by
      simp only [eightNames, List.mem_cons, List.not_mem_nil, or_false] at hx
      rcases hx with rfl | rfl | rfl | rfl | rfl | rfl | rfl | rfl
      · exact ⟨_, Tryz.g0, by kernel_rfl⟩
      · exact ⟨_, Tryz.g1, by kernel_rfl⟩
      · exact ⟨_, Tryz.g2, by kernel_rfl⟩
      · exact ⟨_, Tryz.g3, by kernel_rfl⟩
      · exact ⟨_, Tryz.g4, by kernel_rfl⟩
      · exact ⟨_, Tryz.g5, by kernel_rfl⟩
      · exact ⟨_, Tryz.g6, by kernel_rfl⟩
      · exact ⟨_, Tryz.g7, by kernel_rfl⟩) hv hnd hrows
  refine ⟨a, ⟨var_at Tryz.g0 (ha 0 _ rfl).1, var_at Tryz.g1 (ha 1 _ rfl).1, var_at Tryz.g2 (ha 2 _ rfl).1, var_at Tryz.g3 (ha 3 _ rfl).1, var_at Tryz.g4 (ha 4 _ rfl).1, var_at Tryz.g5 (ha 5 _ rfl).1, var_at Tryz.g6 (ha 6 _ rfl).1, var_at Tryz.g7 (ha 7 _ rfl).1, var_at Tryz.et e5, ?_, ?_⟩, fun i x hx => (ha i x hx).2.1⟩
  · intro i hi
    have hl : eightNames.length = 8 := rfl
    exact (ha i eightNames[i] (List.getElem?_eq_getElem (by omega))).2.2.1
  · intro i j hi hj hij
    exact hne i j hi hj hij

/-- The door's own heap meets the condition. -/
theorem door_met (os : Os) (args : Array Value) : laidMetH Tryz.prog laidAll ((World.doorLaid Tryz.prog 168 os).forCall (fun _ _ => 0) ⟨#[], args, []⟩).memory :=
  laidMetH_of_parts3 (fuel := 8) (laidMet_of_run' 8 (by kernel_rfl) (by kernel_rfl)) (by kernel_rfl) (by kernel_rfl)
end Go.Proofs.YtfnmpkkfdljgcaaGreatDoor

/- A parameter of type []int opened. -/
namespace Go.Proofs.YtfnmpkkfdljgcaaGreatDoor
open Go.ChangeShapes Go.WideShapes Go.ChangeAt Go.RowKit Go.Joins Go.Deep

theorem Tryz.laidOut : laidOutB Tryz.prog = true := by kernel_rfl
theorem Tryz.cellsInt : Tryz.prog.cellsOf 3 = 1 := by kernel_rfl
theorem Tryz.cellsInts : Tryz.prog.cellsOf 31 = 1 := by kernel_rfl

set_option maxRecDepth 100000 in
/-- What a parameter of type []int gives: its slice, its numbers. -/
theorem open_nums {H : Type} {enc : TypeId × Value → H} {W : World} {base : Nat} {v : Value} {d : DataW H} {p : List MemPlace} (hv : Value.okWide Tryz.prog W .any base 31 v)
    (h : DataW.Trod enc Tryz.prog W 0 (fun _ => true) true 31 v d p) :
    ∃ (ad : Option Addr) (n cap : Nat) (z : Nat → Int), v = .slice ad n cap ∧ n ≤ maxLen ∧ NumsAt W (.slice ad n cap) n z := by
  obtain ⟨ad, n, cap, rfl⟩ := okWide_slice Tryz.underlying31 hv
  obtain ⟨fuel, hf⟩ := h
  rcases open_ints Tryz.underlying31 Tryz.underlying3 Tryz.cellsInt hf with ⟨hc, _⟩ | ⟨a, len, cap', zs, hc, _, hl, hm, hz, _, hcell, _⟩
  · simp [Value.cells] at hc
    obtain ⟨rfl, rfl, rfl⟩ := hc
    exact ⟨none, 0, 0, fun _ => 0, rfl, Nat.zero_le _, Or.inl ⟨none, 0, rfl, rfl⟩⟩
  · simp [Value.cells] at hc
    obtain ⟨rfl, rfl, rfl⟩ := hc
    simp only [if_true] at hz
    rcases Nat.eq_zero_or_pos n with rfl | hpos
    · exact ⟨some a, 0, cap, fun _ => 0, rfl, Nat.zero_le _, Or.inl ⟨some a, cap, rfl, rfl⟩⟩
    · obtain ⟨b, o, spot⟩ := a
      have hspot : spot = none := by simpa [Addr.add] using World.cell?_spot (hcell 0 (by omega))
      subst hspot
      refine ⟨_, n, cap, fun i => zs.getD i 0, rfl, by omega, Or.inr ⟨b, o, cap, rfl, hpos, fun i hi => ?_⟩⟩
      have := hcell i (by omega)
      rw [Go.Proofs.YtfnmpkkfdljgcaaGreatDoor.add_plain] at this
      exact this
end Go.Proofs.YtfnmpkkfdljgcaaGreatDoor

/- A parameter of type [][]int opened; how many numbers it holds at the most. -/
namespace Go.Proofs.YtfnmpkkfdljgcaaGreatDoor
open Go.ChangeShapes Go.WideShapes Go.ChangeAt Go.RowKit Go.Joins Go.Deep

theorem bulk_one {H : Type} (d : DataW H) : 1 ≤ Rows.uptoBulk d := by
  cases d with
  | lit l => cases l <;> simp [Rows.uptoBulk]
  | _ => simp [Rows.uptoBulk]
theorem bulk_len {H : Type} : ∀ l : List (DataW H), l.length ≤ Rows.uptoBulkAll l
  | [] => by simp [Rows.uptoBulkAll]
  | x :: r => by
    have h1 := bulk_one x
    have h2 := bulk_len r
    simp only [Rows.uptoBulkAll, List.length_cons]
    omega
theorem bulk_mem {H : Type} {d : DataW H} : ∀ {l : List (DataW H)}, d ∈ l → Rows.uptoBulk d ≤ Rows.uptoBulkAll l
  | x :: r, h => by
    simp only [Rows.uptoBulkAll]
    rcases List.mem_cons.1 h with rfl | h'
    · omega
    · have := bulk_mem h'; omega
theorem bulk_append {H : Type} : ∀ l r : List (DataW H), Rows.uptoBulkAll (l ++ r) = Rows.uptoBulkAll l + Rows.uptoBulkAll r
  | [], r => by simp [Rows.uptoBulkAll]
  | x :: l, r => by simp only [List.cons_append, Rows.uptoBulkAll, bulk_append l r]; omega
theorem bulk_sum {H : Type} (f : Nat → DataW H) (L : Nat → Nat) : ∀ n, (∀ r, r < n → L r ≤ Rows.uptoBulk (f r)) → sumT L n ≤ Rows.uptoBulkAll ((List.range n).map f)
  | 0, _ => Nat.zero_le _
  | n + 1, h => by
    have h1 := bulk_sum f L n (fun r hr => h r (by omega))
    have h2 := h n (by omega)
    show sumT L n + L n ≤ _
    rw [List.range_succ, List.map_append, bulk_append]
    simp only [List.map_cons, List.map_nil, Rows.uptoBulkAll]
    omega

set_option maxRecDepth 100000 in
theorem open_table {H : Type} {enc : TypeId × Value → H} {W : World} {base : Nat} {v : Value} {d : DataW H} {p : List MemPlace} (hv : Value.okWide Tryz.prog W .any base 22 v)
    (h : DataW.Trod enc Tryz.prog W 0 (fun _ => true) true 22 v d p) :
    ∃ (ad : Option Addr) (R cap : Nat) (vs : Nat → Value) (ns : Nat → Nat) (zs : Nat → Nat → Int), v = .slice ad R cap ∧ R ≤ maxLen ∧ TabAt W (.slice ad R cap) R vs ns zs ∧ sumT ns R ≤ Rows.uptoBulk d := by
  obtain ⟨ad, R, cap, rfl⟩ := okWide_slice Tryz.underlying22 hv
  obtain ⟨fuel, hf⟩ := h
  rcases open_int_rows Tryz.underlying22 Tryz.underlying31 Tryz.underlying3 Tryz.cellsInts Tryz.cellsInt hf with ⟨hc, _⟩ | ⟨a, len, cap', A, L, C, Z, hc, _, hl, hm, hx, hr⟩
  · simp [Value.cells] at hc
    obtain ⟨rfl, rfl, rfl⟩ := hc
    exact ⟨none, 0, 0, fun _ => .slice none 0 0, fun _ => 0, fun _ _ => 0, rfl, Nat.zero_le _, Or.inl ⟨none, 0, rfl, rfl⟩, Nat.zero_le _⟩
  · simp [Value.cells] at hc
    obtain ⟨rfl, rfl, rfl⟩ := hc
    simp only [Prod.mk.injEq] at hx
    obtain ⟨rfl, _⟩ := hx
    have hbulk : sumT L R ≤ Rows.uptoBulk (DataW.slice ((List.range R).map fun r => intRow .i64 (A r) (L r) (Z r)) ((List.range (cap - R)).map fun j => intRow .i64 (A (R + j)) (L (R + j)) (Z (R + j))) : DataW H) := by
      have h1 := bulk_sum (H := H) (fun r => intRow .i64 (A r) (L r) (Z r)) L R (fun r hr' => by
        obtain ⟨_, h2, _, h4, _, h6, _⟩ := hr r (by omega)
        cases hA : A r with
        | none => have := h6 hA; omega
        | some a' =>
          have h7 := bulk_len (H := H) (lits .i64 ((Z r).take (L r)))
          have h8 : (lits (H := H) .i64 ((Z r).take (L r))).length = L r := by simp [lits]; omega
          simp only [intRow, Rows.uptoBulk]
          omega)
      simp only [Rows.uptoBulk]
      omega
    rcases Nat.eq_zero_or_pos R with rfl | hpos
    · exact ⟨some a, 0, cap, fun _ => .slice none 0 0, L, fun _ _ => 0, rfl, Nat.zero_le _, Or.inl ⟨some a, cap, rfl, rfl⟩, hbulk⟩
    · obtain ⟨b, o, spot⟩ := a
      have hspot : spot = none := by simpa [Addr.add] using World.cell?_spot (hr 0 (by omega)).1
      subst hspot
      refine ⟨_, R, cap, fun r => .slice (A r) (L r) (C r), L, fun r i => (Z r).getD i 0, rfl, by omega, Or.inr ⟨b, o, cap, rfl, hpos, fun i hi => ?_⟩, hbulk⟩
      obtain ⟨h1, h2, _, h4, _, h6, h7⟩ := hr i (by omega)
      rw [Go.Proofs.YtfnmpkkfdljgcaaGreatDoor.add_plain] at h1
      refine ⟨h1, ?_⟩
      rcases Nat.eq_zero_or_pos (L i) with h0 | h0
      · exact Or.inl ⟨A i, C i, by dsimp only; rw [h0], h0⟩
      · cases hA : A i with
        | none => have := h6 hA; omega
        | some a' =>
          obtain ⟨_, h8⟩ := h7 a' hA
          obtain ⟨b', o', spot'⟩ := a'
          have hs' : spot' = none := by simpa [Addr.add] using World.cell?_spot (h8 0 (by omega))
          subst hs'
          refine Or.inr ⟨b', o', C i, by dsimp only; rw [hA], h0, fun j hj => ?_⟩
          have := h8 j (by omega)
          rw [Go.Proofs.YtfnmpkkfdljgcaaGreatDoor.add_plain] at this
          exact this
theorem bulk_bound {H : Type} {l : List (DataW H)} (hk : Rows.uptoSmall H l = true) : Rows.uptoBulkAll l ≤ 1048576 := of_decide_eq_true hk
end Go.Proofs.YtfnmpkkfdljgcaaGreatDoor
