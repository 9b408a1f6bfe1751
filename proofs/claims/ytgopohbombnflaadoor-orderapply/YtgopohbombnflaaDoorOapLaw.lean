/- The law OrderApply. -/
import Derived.Test.YtgopohbombnflaaDoorOrDo
import Derived.Test.YtgopohbombnflaaDoorOrMo
import Derived.Test.YtgopohbombnflaaDoorOrUn
import Derived.Test.YtgopohbombnflaaDoorHtFlt
import Derived.Test.YtgopohbombnflaaDoorSameN
namespace Go.Proofs.YtgopohbombnflaaDoor
open Go.RowKit

theorem apE_le {n : Nat} {z : Nat → Int} {l : List MvI} (h : (apE n z l).1 = 0) : apE n z l = (0, -1) := by
  unfold apE at h ⊢
  split at h
  · cases h
  · rename_i h1
    rw [if_neg h1]
    split at h
    · cases h
    · rename_i h2
      rw [if_neg h2]
      cases hr : runM n z l 0 with
      | inl i => rw [hr] at h; cases h
      | inr f => rfl
theorem own_form {w W : World} {v : Value} {n : Nat} {z : Nat → Int} {t : TypeId} (h : W.ownsRow w.heap.size t 1 v n (numCells z n)) (hb : Below w.heap.size w W) : (v = .slice none 0 0 ∧ n = 0) ∨ ∃ g cap, v = .slice (some ⟨g, 0, none⟩) n cap ∧ RowAt W g 0 n z := by
  rcases (own_fill h hb).2 with ⟨h0, hv⟩ | ⟨g, cap, hv, hf⟩
  · exact Or.inl ⟨hv, h0⟩
  · exact Or.inr ⟨g, cap, hv, hf.row⟩
theorem nums_nil (w : World) : NumsAt w (.slice none 0 0) 0 (fun _ => 0) := Or.inl ⟨_, _, rfl, rfl⟩

set_option maxRecDepth 100000 in
set_option maxHeartbeats 4000000 in
theorem OrderApply_all (a : Nat → Addr) (v : Value) (n : Nat) (z : Nat → Int) (lv : Value) (l : List MvI) (w : World) (hE : Errs w a) (h : NumsAt w v n z) (hl : MvAt w lv l) :
    Calls Tryd.prog 5 #[v, lv] w fun e w' => e = .returned (.bool true) ∧ Below w.heap.size w w' := by
  have hU := unlike_any a w hE
  have HN := Hid.mk' (fun (W : World) (hb : Below w.heap.size w W) => h.later hb)
  have HL := Hid.mk' (fun (W : World) (hb : Below w.heap.size w W) => hl.later hb)
  have HE := Hid.mk' (fun (W : World) (hb : Below w.heap.size w W) => hE.below hb)
  obtain ⟨ad, cap, rfl⟩ := h.form
  obtain ⟨lad, lcap, rfl⟩ := hl.form
  clear h hl hE
  by_cases hb : 200 < n ∨ (200 < l.length ∧ l.length ≤ 4000) ∨ 5000 < l.length
  · have hd : (200 : Int) < (n : Int) ∨ (¬ (200 : Int) < (n : Int) ∧ (200 : Int) < (l.length : Int) ∧ (l.length : Int) ≤ 4000) ∨ (¬ (200 : Int) < (n : Int) ∧ (200 : Int) < (l.length : Int) ∧ ¬ (l.length : Int) ≤ 4000 ∧ (5000 : Int) < (l.length : Int)) := by omega
    clear hb
    rcases hd with h1 | ⟨h1, h2, h3⟩ | ⟨h1, h2, h3, h4⟩
    all_goals
      go_enter Tryd.func5, Tryd.ntmps5
      go_wp2_with fail
      refine hU.mono ?_
      rintro e w1 ⟨rfl, hb1⟩
      have HB1 := Hid.mk' hb1
      clear hb1 hU
      go_wp2_with fail
      go_ret
      exact ⟨rfl, HB1.out⟩
  · have hl6 : l.length ≤ 5000 := by omega
    have hn2 : n ≤ 200 := by omega
    have hd : (¬ (200 : Int) < (n : Int) ∧ ¬ (200 : Int) < (l.length : Int) ∧ ¬ (5000 : Int) < (l.length : Int)) ∨ (¬ (200 : Int) < (n : Int) ∧ (200 : Int) < (l.length : Int) ∧ ¬ (l.length : Int) ≤ 4000 ∧ ¬ (5000 : Int) < (l.length : Int)) := by omega
    have HDF := Hid.mk' (fun (W : World) (hb : Below w.heap.size w W) => ApplyFault_any _ _ n z l W (HN.out W hb) (HL.out W hb) (by omega) (by omega))
    have HIN := Hid.mk' (fun (W : World) (hb : Below w.heap.size w W) => ints_row _ n z W (HN.out W hb) (by omega))
    have HMO := Hid.mk' (fun (W : World) (hb : Below w.heap.size w W) => movesOf_any _ l W (HL.out W hb) (by omega))
    have HAP := Hid.mk' (fun (W : World) (pv mv : Value) (hb : Below w.heap.size w W) (hp : (pv = .slice none 0 0 ∧ n = 0) ∨ ∃ g cap, pv = .slice (some ⟨g, 0, none⟩) n cap ∧ RowAt W g 0 n z) (hm : MvAt W mv l) => Apply_any a pv mv n z l W (HE.out W hb) hp hm (by omega) (by omega))
    have HFT := Hid.mk' (fun (W : World) (x : Value) (hb : Below w.heap.size w W) (hx : ErrPl a W x (apE n z l)) => faulted_pl a x (apE n z l) W (HE.out W hb) hx)
    have HSI := Hid.mk' (fun (W : World) (x y : Value) (m : Nat) (f : Nat → Int) (hx : NumsAt W x m f) (hy : NumsAt W y m f) (hm : m ≤ 1000000) => SameInts_any x y m f W hx hy hm)
    clear hb HN HL
    rcases hd with ⟨h1, h2, h3⟩ | ⟨h1, h2, h3, h4⟩
    all_goals
      go_enter Tryd.func5, Tryd.ntmps5
      go_wp2_with fail
      refine hU.mono ?_
      rintro e w1 ⟨rfl, hb1⟩
      have HB1 := Hid.mk' hb1
      clear hb1 hU
      go_wp2_with fail
      refine (HDF.out w1 HB1.out).mono ?_
      rintro e w2 ⟨r, rfl, hr0, hr1, hb2⟩
      have HB2 := Hid.mk' (below_chain HB1.out hb2)
      have HR0 := Hid.mk' hr0
      have hle2 := HB2.out.size
      have HBF := Hid.mk' (HB2.out.alloc hle2 (.cells #[.int .i64 ((apE n z l).1 : Int), .int .i64 (apE n z l).2] 40))
      have hbF : Below w2.heap.size w2 (w2.alloc (.cells #[.int .i64 ((apE n z l).1 : Int), .int .i64 (apE n z l).2] 40)) := (Below.refl _ _).alloc (Nat.le_refl _) _
      have HTF := Hid.mk' (FltBx.fresh w2 ((apE n z l).1 : Int) (apE n z l).2 40)
      have HRF : Hid ((apE n z l).1 = 0 → NumsAt (w2.alloc (.cells #[.int .i64 ((apE n z l).1 : Int), .int .i64 (apE n z l).2] 40)) r n (apZ n z l)) := fun h => (hr1 h).later hbF
      clear hb2 hr0 hr1 hbF HB2 HB1
      generalize hWF : w2.alloc (.cells #[.int .i64 ((apE n z l).1 : Int), .int .i64 (apE n z l).2] 40) = WF at *
      go_wp2_with fail
      clear hWF
      refine (HIN.out WF HBF.out).mono ?_
      rintro e w3 ⟨v3, rfl, ho3, hb3⟩
      have HF3 := Hid.mk' (own_form ho3 hb3)
      have HB3 := Hid.mk' (below_chain HBF.out hb3)
      have HT3 := Hid.mk' (HTF.out.later hb3)
      have HR3 : Hid ((apE n z l).1 = 0 → NumsAt w3 r n (apZ n z l)) := fun h => (HRF.out h).later hb3
      clear ho3 hb3 HTF HRF HBF
      go_wp2_with fail
      refine (HMO.out w3 HB3.out).mono ?_
      rintro e w4 ⟨v4, rfl, hm4, hb4⟩
      have HM4 := Hid.mk' hm4
      have HB4 := Hid.mk' (below_chain HB3.out hb4)
      have HT4 := Hid.mk' (HT3.out.later hb4)
      have HR4 : Hid ((apE n z l).1 = 0 → NumsAt w4 r n (apZ n z l)) := fun h => (HR3.out h).later hb4
      have HF4 : Hid ((v3 = .slice none 0 0 ∧ n = 0) ∨ ∃ g cap, v3 = .slice (some ⟨g, 0, none⟩) n cap ∧ RowAt w4 g 0 n z) := by
        rcases HF3.out with h | ⟨g, c, h, h'⟩
        · exact Or.inl h
        · exact Or.inr ⟨g, c, h, h'.later hb4⟩
      clear hm4 hb4 HT3 HR3 HF3 HB3
      go_wp2_with fail
      refine (HAP.out w4 v3 v4 HB4.out HF4.out HM4.out).mono ?_
      rintro e w5 ⟨s, x, rfl, hx5, hs0, hs1, hb5⟩
      have HX5 := Hid.mk' hx5
      have HB5 := Hid.mk' (below_chain HB4.out hb5)
      have HT5 := Hid.mk' (HT4.out.later hb5)
      have HR5 : Hid ((apE n z l).1 = 0 → NumsAt w5 r n (apZ n z l)) := fun h => (HR4.out h).later hb5
      have HS0 := Hid.mk' hs0
      have HS1 := Hid.mk' hs1
      clear hx5 hs0 hs1 hb5 HT4 HR4 HF4 HB4 HM4
      have y0 := HT5.out.c0
      have y1 := HT5.out.c1
      go_wp2_with fail
      refine (HFT.out w5 x HB5.out HX5.out).mono ?_
      rintro e w6 ⟨rfl, hb6⟩
      have HB6 := Hid.mk' (below_chain HB5.out hb6)
      have hsame : ∃ (m : Nat) (f : Nat → Int), NumsAt w6 s m f ∧ NumsAt w6 r m f ∧ m ≤ 1000000 := by
        by_cases h0 : (apE n z l).1 = 0
        · exact ⟨n, apZ n z l, (HS1.out h0).later hb6, (HR5.out h0).later hb6, by omega⟩
        · exact ⟨0, fun _ => 0, by rw [HS0.out h0]; exact nums_nil _, by rw [HR0.out h0]; exact nums_nil _, by omega⟩
      obtain ⟨m, f, k1, k2, k3⟩ := hsame
      have HK := Hid.mk' (HSI.out w6 s r m f k1 k2 k3)
      clear hb6 k1 k2 k3 HT5 HR5 HS0 HS1 HR0
      go_wp2_with fail
      refine HK.out.mono ?_
      rintro e w7 ⟨rfl, hb7⟩
      have HB7 := Hid.mk' (below_chain HB6.out hb7)
      clear hb7
      go_wp2_with fail
      go_ret
      exact ⟨rfl, HB7.out⟩
theorem OrderApply_main (a : Nat → Addr) (ad : Option Addr) (n cap : Nat) (z : Nat → Int) (lad : Option Addr) (lcap : Nat) (l : List MvI) (w : World) (hE : Errs w a) (h : NumsAt w (.slice ad n cap) n z) (_ : n ≤ maxLen) (hl : MvAt w (.slice lad l.length lcap) l) :
    Calls Tryd.prog 5 #[.slice ad n cap, .slice lad l.length lcap] w fun e w' => e = .returned (.bool true) ∧ Below w.heap.size w w' :=
  OrderApply_all a _ n z _ l w hE h hl
end Go.Proofs.YtgopohbombnflaaDoor
