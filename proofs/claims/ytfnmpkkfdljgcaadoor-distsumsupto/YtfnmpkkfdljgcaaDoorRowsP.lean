/- dist.Rows and dist.Columns. -/
import Derived.Test.YtfnmpkkfdljgcaaDoorCols
namespace Go.Proofs.YtfnmpkkfdljgcaaDoor
open Go.RowKit

set_option maxRecDepth 100000 in
set_option maxHeartbeats 1000000 in
theorem Rows_ok (a : Nat → Addr) (ad : Option Addr) (R cap N : Nat) (vs : Nat → Value) (ns : Nat → Nat) (zs : Nat → Nat → Int) (w : World) (hE : Errs w a) (h : TabAt w (.slice ad R cap) R vs ns zs) (hR : R ≤ 40) (hs : sumT ns R ≤ 400) (h0 : tabErr R ns zs = 0) (hk : OkT R ns zs N) :
    Calls Tryd.prog 9 #[.slice ad R cap] w fun e w' => ∃ g cp, e = .returned (.tuple #[.slice (some ⟨g, 0, none⟩) R cp, .nilIface]) ∧ RowAt w' g 0 R (rowSum ns zs) ∧ Below w.heap.size w w' := by
  have ht := Table_any a _ R vs ns zs w hE h hR hs
  rw [h0, errV_zero] at ht
  have HI : Hid (∀ W, Below w.heap.size w W → Calls Tryd.prog 27 #[.slice ad R cap] W fun e w' => ∃ g cp, e = .returned (.slice (some ⟨g, 0, none⟩) R cp) ∧ RowAt w' g 0 R (rowSum ns zs) ∧ Below W.heap.size W w') := fun W hb => rowSums_any ad R cap N vs ns zs W (h.later hb) hk
  clear hE h h0
  go_enter Tryd.func9, Tryd.ntmps9
  go_wp2_with (first
    | (go_at_call 26; refine ht.mono ?_; rintro e w1 ⟨rfl, hb1⟩; have HB1 := Hid.mk' hb1; clear hb1)
    | (go_at_call 27; refine (HI.out w1 HB1.out).mono ?_; rintro e w2 ⟨g, cp, rfl, hr2, hb2⟩; have HR2 := Hid.mk' hr2; have HB2 := Hid.mk' (HB1.out.trans (hb2.mono HB1.out.size)); clear hr2 hb2))
  go_ret2
  exact ⟨g, cp, rfl, HR2.out, HB2.out⟩
set_option maxRecDepth 100000 in
set_option maxHeartbeats 1000000 in
theorem Rows_bad (a : Nat → Addr) (v : Value) (R : Nat) (vs : Nat → Value) (ns : Nat → Nat) (zs : Nat → Nat → Int) (w : World) (hE : Errs w a) (h : TabAt w v R vs ns zs) (hR : R ≤ 40) (hs : sumT ns R ≤ 400) (h0 : tabErr R ns zs ≠ 0) :
    Calls Tryd.prog 9 #[v] w fun e w' => e = .returned (.tuple #[.slice none 0 0, errV a (tabErr R ns zs)]) ∧ Below w.heap.size w w' := by
  obtain ⟨ad, cap, rfl⟩ := h.form
  have ht := Table_any a _ R vs ns zs w hE h hR hs
  rw [errV_pos a h0] at ht ⊢
  clear hE h h0
  go_enter Tryd.func9, Tryd.ntmps9
  go_wp2_with (go_at_call 26; refine ht.mono ?_; rintro e w1 ⟨rfl, hb1⟩; have HB1 := Hid.mk' hb1; clear hb1)
  go_ret2
  exact ⟨rfl, HB1.out⟩

set_option maxRecDepth 100000 in
set_option maxHeartbeats 1000000 in
theorem Columns_ok (a : Nat → Addr) (ad : Option Addr) (R cap N : Nat) (vs : Nat → Value) (ns : Nat → Nat) (zs : Nat → Nat → Int) (w : World) (hE : Errs w a) (h : TabAt w (.slice ad R cap) R vs ns zs) (hR : R ≤ 40) (hs : sumT ns R ≤ 400) (h0 : tabErr R ns zs = 0) (hk : OkT R ns zs N) :
    Calls Tryd.prog 11 #[.slice ad R cap] w fun e w' => ∃ g cp, e = .returned (.tuple #[.slice (some ⟨g, 0, none⟩) (ns 0) cp, .nilIface]) ∧ RowAt w' g 0 (ns 0) (colV zs R) ∧ Below w.heap.size w w' := by
  have ht := Table_any a _ R vs ns zs w hE h hR hs
  rw [h0, errV_zero] at ht
  have HI : Hid (∀ W, Below w.heap.size w W → Calls Tryd.prog 29 #[.slice ad R cap] W fun e w' => ∃ g cp, e = .returned (.slice (some ⟨g, 0, none⟩) (ns 0) cp) ∧ RowAt w' g 0 (ns 0) (colV zs R) ∧ Below W.heap.size W w') := fun W hb => columnSums_any ad R cap N vs ns zs W (h.later hb) hk
  clear hE h h0
  go_enter Tryd.func11, Tryd.ntmps11
  go_wp2_with (first
    | (go_at_call 26; refine ht.mono ?_; rintro e w1 ⟨rfl, hb1⟩; have HB1 := Hid.mk' hb1; clear hb1)
    | (go_at_call 29; refine (HI.out w1 HB1.out).mono ?_; rintro e w2 ⟨g, cp, rfl, hr2, hb2⟩; have HR2 := Hid.mk' hr2; have HB2 := Hid.mk' (HB1.out.trans (hb2.mono HB1.out.size)); clear hr2 hb2))
  go_ret2
  exact ⟨g, cp, rfl, HR2.out, HB2.out⟩
set_option maxRecDepth 100000 in
set_option maxHeartbeats 1000000 in
theorem Columns_bad (a : Nat → Addr) (v : Value) (R : Nat) (vs : Nat → Value) (ns : Nat → Nat) (zs : Nat → Nat → Int) (w : World) (hE : Errs w a) (h : TabAt w v R vs ns zs) (hR : R ≤ 40) (hs : sumT ns R ≤ 400) (h0 : tabErr R ns zs ≠ 0) :
    Calls Tryd.prog 11 #[v] w fun e w' => e = .returned (.tuple #[.slice none 0 0, errV a (tabErr R ns zs)]) ∧ Below w.heap.size w w' := by
  obtain ⟨ad, cap, rfl⟩ := h.form
  have ht := Table_any a _ R vs ns zs w hE h hR hs
  rw [errV_pos a h0] at ht ⊢
  clear hE h h0
  go_enter Tryd.func11, Tryd.ntmps11
  go_wp2_with (go_at_call 26; refine ht.mono ?_; rintro e w1 ⟨rfl, hb1⟩; have HB1 := Hid.mk' hb1; clear hb1)
  go_ret2
  exact ⟨rfl, HB1.out⟩

end Go.Proofs.YtfnmpkkfdljgcaaDoor
