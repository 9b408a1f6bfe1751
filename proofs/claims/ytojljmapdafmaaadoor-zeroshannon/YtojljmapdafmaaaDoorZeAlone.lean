/- zero.Alone: the first of the greatest sets without edges. -/
import Derived.Test.YtojljmapdafmaaaDoorZeGrow2
import Derived.Test.YtojljmapdafmaaaDoorZeNear
import Derived.BigQuiet
namespace Go.Proofs.YtojljmapdafmaaaDoor
open Go.RowKit

theorem tellA_asc {n : Nat} {s g l : List Nat} (hs : Asc n s) (hg : Asc n g) : Asc n (tellA s g l).1 := by
  show Asc n (pick s g)
  unfold pick
  split
  · exact hg
  · exact hs

set_option maxRecDepth 100000 in
set_option maxHeartbeats 4000000 in
theorem tell_any (gb n : Nat) (s g l : List Nat) (W : World) (hn : n ≤ 16) (hs : Asc n s) (hg : Asc n g) (hl : Asc n l) (hc : W.cell? ⟨gb, 0, none⟩ = some (.int .u64 (bitZ s : Nat))) (hf : W.frozen? ⟨gb, 0, none⟩ = false) :
    Calls Tryd.prog 45 #[.int .u64 (bitZ g : Nat), .int .u64 (bitZ l : Nat), .pointer (some ⟨gb, 0, none⟩)] W fun e W' => e = .returned (.bool (tellA s g l).2) ∧ W.grownBy W' (some gb) ∧ W'.cell? ⟨gb, 0, none⟩ = some (.int .u64 (bitZ (tellA s g l).1 : Nat)) ∧ W'.frozen? ⟨gb, 0, none⟩ = false := by
  have HG : Hid (∀ W, Calls Tryd.prog 46 #[.int .u64 (bitZ g : Nat)] W fun e w' => e = .returned (.int .i64 (g.length : Nat)) ∧ w' = W) := fun W => setSize_any g (hg.more hn) W
  have HS : Hid (∀ W, Calls Tryd.prog 46 #[.int .u64 (bitZ s : Nat)] W fun e w' => e = .returned (.int .i64 (s.length : Nat)) ∧ w' = W) := fun W => setSize_any s (hs.more hn) W
  have HL : Hid (∀ W, Calls Tryd.prog 46 #[.int .u64 (bitZ l : Nat)] W fun e w' => e = .returned (.int .i64 (l.length : Nat)) ∧ w' = W) := fun W => setSize_any l (hl.more hn) W
  have lg := asc_length hg
  have ls := asc_length hs
  have ll := asc_length hl
  have hgI : ((g.length : Nat) : Int) ≤ 16 := by omega
  have hsI : ((s.length : Nat) : Int) ≤ 16 := by omega
  have hlI : ((l.length : Nat) : Int) ≤ 16 := by omega
  have HT : Hid (tellA s g l = (pick s g, decide ((pick s g).length < g.length + l.length))) := rfl
  have HC1 : Hid (∀ m, (W.drewN m).cell? ⟨gb, 0, none⟩ = some (.int .u64 (bitZ s : Nat))) := fun m => by rw [World.cell?_drewN]; exact hc
  have HF1 : Hid (∀ m, (W.drewN m).frozen? ⟨gb, 0, none⟩ = false) := fun m => by rw [World.frozen?_drewN]; exact hf
  have hd0 : ∀ m, W.grownBy (W.drewN m) (some gb) := fun m => grownZ_below (below_drewN (Below.refl _ _) m)
  by_cases h1 : s.length < g.length
  · have hd : decide (s.length < g.length) = true := by simp; omega
    have hpk : pick s g = g := if_pos h1
    rw [HT.out, hpk]
    have HGR : Hid (∀ m, W.grownBy ((W.drewN m).setCell ⟨gb, 0, none⟩ (.int .u64 (bitZ g : Nat))) (some gb)) := fun m =>
      grown_trans (hd0 m) ⟨rfl, rfl, rfl, by simp, fun k _ hne => Below.heap_setCell _ _ _ _ (fun e => hne (by rw [e]))⟩
    have HDEC : Hid (decide ((g.length : Int) < (g.length : Int) + (l.length : Int)) = decide (g.length < g.length + l.length)) := by show _ = _; rw [decide_eq_decide]; omega
    clear HT hpk hg hs hl lg ls ll h1 hd0
    generalize bitZ g = G at *
    generalize bitZ s = S at *
    generalize bitZ l = L at *
    generalize g.length = gl at *
    generalize s.length = sl at *
    generalize l.length = ll at *
    go_enter Tryd.func45, Tryd.ntmps45
    go_wp2_with fail
    go_quiet (first | (go_at_call 46; exact Calls.quiet_of_same (HG.out _)) | (go_at_call 46; exact Calls.quiet_of_same (HS.out _)))
    have HG1 := Hid.mk' (HGR.out nq)
    have hf1 := HF1.out nq
    have hc1 := HC1.out nq
    clear HGR HF1 HC1 hf hc
    generalize W.drewN nq = W1 at *
    go_wp2_with fail
    have HC2 : Hid ((W1.setCell ⟨gb, 0, none⟩ (.int .u64 (G : Nat))).cell? ⟨gb, 0, none⟩ = some (.int .u64 (G : Nat)) ∧ (W1.setCell ⟨gb, 0, none⟩ (.int .u64 (G : Nat))).frozen? ⟨gb, 0, none⟩ = false) := ⟨World.cell?_setCell_same _ _ _ hc1, by rw [World.frozen?_setCell]; exact hf1⟩
    clear hf1 hc1
    generalize W1.setCell ⟨gb, 0, none⟩ (.int .u64 (G : Nat)) = W2 at *
    obtain ⟨hc2, hf2⟩ := HC2.out
    go_quiet (first | (go_at_call 46; exact Calls.quiet_of_same (HG.out _)) | (go_at_call 46; exact Calls.quiet_of_same (HL.out _)))
    go_wp2_with fail
    have HGE := Hid.mk' (grown_trans HG1.out (grownZ_below (b := gb) (below_drewN (Below.refl W2.heap.size W2) nq)))
    have HCE : Hid ((W2.drewN nq).cell? ⟨gb, 0, none⟩ = some (.int .u64 (G : Nat)) ∧ (W2.drewN nq).frozen? ⟨gb, 0, none⟩ = false) := ⟨by rw [World.cell?_drewN]; exact hc2, by rw [World.frozen?_drewN]; exact hf2⟩
    go_ret
    refine ⟨?_, HGE.out, HCE.out.1, HCE.out.2⟩
    show Ending.returned (Value.bool (decide ((gl : Int) < (gl : Int) + (ll : Int)))) = _
    rw [HDEC.out]
  · have hd : decide (s.length < g.length) = false := by simp; omega
    have hpk : pick s g = s := if_neg h1
    rw [HT.out, hpk]
    have HGR := Hid.mk' hd0
    have HDEC : Hid (decide ((s.length : Int) < (g.length : Int) + (l.length : Int)) = decide (s.length < g.length + l.length)) := by show _ = _; rw [decide_eq_decide]; omega
    clear HT hpk hg hs hl lg ls ll h1 hd0
    generalize bitZ g = G at *
    generalize bitZ s = S at *
    generalize bitZ l = L at *
    generalize g.length = gl at *
    generalize s.length = sl at *
    generalize l.length = ll at *
    go_enter Tryd.func45, Tryd.ntmps45
    go_wp2_with fail
    go_quiet (first | (go_at_call 46; exact Calls.quiet_of_same (HG.out _)) | (go_at_call 46; exact Calls.quiet_of_same (HS.out _)))
    have HG1 := Hid.mk' (HGR.out nq)
    have hf2 := HF1.out nq
    have hc2 := HC1.out nq
    clear HGR HF1 HC1 hf hc
    generalize W.drewN nq = W1 at *
    go_wp2_with fail
    go_quiet (first | (go_at_call 46; exact Calls.quiet_of_same (HG.out _)) | (go_at_call 46; exact Calls.quiet_of_same (HL.out _)) | (go_at_call 46; exact Calls.quiet_of_same (HS.out _)))
    go_wp2_with fail
    have HGE := Hid.mk' (grown_trans HG1.out (grownZ_below (b := gb) (below_drewN (Below.refl W1.heap.size W1) nq)))
    have HCE : Hid ((W1.drewN nq).cell? ⟨gb, 0, none⟩ = some (.int .u64 (S : Nat)) ∧ (W1.drewN nq).frozen? ⟨gb, 0, none⟩ = false) := ⟨by rw [World.cell?_drewN]; exact hc2, by rw [World.frozen?_drewN]; exact hf2⟩
    go_ret
    refine ⟨?_, HGE.out, HCE.out.1, HCE.out.2⟩
    show Ending.returned (Value.bool (decide ((sl : Int) < (gl : Int) + (ll : Int)))) = _
    rw [HDEC.out]
end Go.Proofs.YtojljmapdafmaaaDoor
