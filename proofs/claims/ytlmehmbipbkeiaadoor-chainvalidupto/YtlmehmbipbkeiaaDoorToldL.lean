/- chain.told: numbers over one denominator, as fractions. -/
import Derived.Test.YtlmehmbipbkeiaaDoorFold
import Derived.Test.YtlmehmbipbkeiaaDoorChainV
namespace Go.Proofs.YtlmehmbipbkeiaaDoor
open Go.RowKit

theorem Tryd.infoFrac : (Tryd.prog.info? 36).map (fun i => (i.zero, i.size, i.bytes)) = some (some (.agg #[.int .i64 0, .int .i64 0]), 2, 16) := by kernel_rfl
/-- A fraction that can be told. -/
def TellsOk (N D : Nat) : Prop := N / Nat.gcd N D ≤ 4611686018427387904 ∧ D / Nat.gcd N D ≤ 4611686018427387904
/-- Fractions of the numbers V over D, as cells. -/
def fracCell (V : Nat → Nat) (D j : Nat) : Value := if j % 2 = 0 then .int .i64 ((V (j / 2) / Nat.gcd (V (j / 2)) D : Nat) : Int) else .int .i64 ((D / Nat.gcd (V (j / 2)) D : Nat) : Int)
theorem made_frac (n j : Nat) (hj : j < 2 * n) : (madeCells (Value.agg #[.int .i64 0, .int .i64 0]).cells (n * 2)).toList[j]? = some (.int .i64 0) := by
  have : j < n * 2 := by omega
  simp [madeCells, this, Value.cells]
  rcases (show j % 2 = 0 ∨ j % 2 = 1 by omega) with h | h <;> simp [h]
theorem rowIs_made2 {w w2 : World} {g n m : Nat} {t : TypeId} {z : Value} {xs : List Value} (h : w2.ownsRow w.heap.size t 2 (.slice (some ⟨g, 0, none⟩) n n) n xs) (hm : m = 2 * n) (hx : ∀ i, i < m → xs[i]? = some z) : RowIs w2 g m (fun _ => z) := by
  obtain ⟨hl, hr⟩ := h
  rcases hr with ⟨hx, _⟩ | ⟨g', cap', cur, hv, hb, hh, _, _, hs, ht⟩
  · cases hx
  · obtain ⟨rfl, rfl⟩ : g = g' ∧ n = cap' := by simpa using hv
    refine ⟨fun i hi => ?_, fun i hi => ?_⟩
    · rw [← hx i hi, ← ht, List.getElem?_take_of_lt (by omega)]
      simp [World.cell?, hh]
    · simp [World.frozen?, hh]
theorem RowIs.set {W : World} {g m j : Nat} {f f' : Nat → Value} (h : RowIs W g m f) (hj : j < m) (y : Value) (hf : ∀ i, i < m → f' i = if i = j then y else f i) : RowIs (W.setCell ⟨g, j, none⟩ y) g m f' :=
  ⟨fun i hi => by
    rw [cell_put _ (h.row j hj), hf i hi]
    by_cases hij : i = j
    · subst hij; rw [if_pos rfl, if_pos rfl]
    · rw [if_neg (fun e => hij (congrArg Addr.off e)), if_neg hij]; exact h.row i hi, fun i hi => by rw [World.frozen?_setCell]; exact h.fz i hi⟩

set_option maxRecDepth 100000 in
set_option maxHeartbeats 4000000 in
theorem told_all (a : Nat → Addr) (v dv : Value) (n D k : Nat) (V : Nat → Nat) (w : World) (hE : Errs w a) (h : NatsAt w v n V) (hd : NatAt w dv D) (hD : 0 < D) (hk : k ≤ 100000) (hkD : D < 18446744073709551616 ^ k) (hkV : ∀ i, i < n → V i < 18446744073709551616 ^ k) (hn : n ≤ 8) (hok : ∀ i, i < n → TellsOk (V i) D) :
    Calls Tryd.prog 26 #[v, dv] w fun e w' => ∃ g, e = .returned (.tuple #[.slice (some ⟨g, 0, none⟩) n n, .nilIface]) ∧ RowIs w' g (2 * n) (fracCell V D) ∧ Below w.heap.size w w' := by
  obtain ⟨i0, hi, hz0, hz1, hz2⟩ := info_parts Tryd.infoFrac
  have HINF : Hid (Tryd.prog.info? 36 = some i0 ∧ i0.zero = some (.agg #[.int .i64 0, .int .i64 0]) ∧ i0.size = 2 ∧ i0.bytes = 16) := ⟨hi, hz0, hz1, hz2⟩
  clear hi hz0 hz1 hz2
  obtain ⟨vb, vo, vc, fv, rfl, hrows⟩ := h
  have HR : Hid (∀ W, Below w.heap.size w W → ∀ i, i < n → W.cell? ⟨vb, vo + i, none⟩ = some (fv i) ∧ NatAt W (fv i) (V i)) := fun W hb i hi => ⟨by rw [hb.cell (cell_lt (hrows i hi).1)]; exact (hrows i hi).1, (hrows i hi).2.later hb⟩
  have HD := Hid.mk' hd
  have HEE := Hid.mk' hE
  have HK := Hid.mk' (And.intro hkD hkV)
  have HOK := Hid.mk' hok
  clear hrows hd hE hkD hkV hok
  go_enter Tryd.func26, Tryd.ntmps26
  go_wp2_with (at_make; go_must (refine wpList_make_full _ rfl _ _ _ rfl w.heap.size 36 i0 _ 2 Tryd.underlying31 HINF.out.1 HINF.out.2.1 HINF.out.2.2.1 .i64 .i64 _ _ n rfl rfl rfl rfl (by rw [HINF.out.2.2.2]; omega) (by unfold maxLen; omega) (Nat.le_refl _) ?_; intro w2 hown2 hgrow2; have HF2 := Hid.mk' (rowIs_made2 hown2 rfl (made_frac n)); have HB2 := Hid.mk' (made_below hgrow2); clear hown2 hgrow2))
  go_loopw [16] (fun t wr => ∃ (i : Nat) (f : Nat → Value), i ≤ n ∧ t = .int .i64 i ∧ Hid (RowIs wr w.heap.size (2 * n) f ∧ ∀ j, j < 2 * i → f j = fracCell V D j) ∧ Hid (Below w.heap.size w wr)) (fun t _ => n - (intOf t).toNat)
  case atStart => exact ⟨0, _, Nat.zero_le _, rfl, ⟨HF2.out, fun j hj => by omega⟩, HB2⟩
  case round =>
    clear HF2 HB2
    obtain ⟨i, f, hi, rfl, HF, HB⟩ := hrel
    rcases Nat.lt_or_ge i n with h1 | h1
    · have hiI : (i : Int) < (n : Int) := by omega
      have hi0 : (0 : Int) ≤ (i : Int) := by omega
      obtain ⟨hc, hnat⟩ := HR.out wr HB.out i h1
      have htl := Told_any a (fv i) dv (V i) D k wr (HEE.out.below HB.out) hnat (HD.out.later HB.out) hD (HK.out.2 i h1) HK.out.1 hk
      have htv : toldV a (V i) D = .tuple #[.agg #[.int .i64 ((V i / Nat.gcd (V i) D : Nat) : Int), .int .i64 ((D / Nat.gcd (V i) D : Nat) : Int)], .nilIface] := by unfold toldV; exact if_pos (HOK.out i h1)
      rw [htv] at htl
      have HP : Hid (fracCell V D (i * 2) = .int .i64 ((V i / Nat.gcd (V i) D : Nat) : Int) ∧ fracCell V D (i * 2 + 1) = .int .i64 ((D / Nat.gcd (V i) D : Nat) : Int)) := by
        refine ⟨?_, ?_⟩
        · unfold fracCell; rw [if_pos (by omega), show i * 2 / 2 = i by omega]
        · unfold fracCell; rw [if_neg (by omega), show (i * 2 + 1) / 2 = i by omega]
      generalize V i / Nat.gcd (V i) D = p at *
      generalize D / Nat.gcd (V i) D = q at *
      generalize fv i = x at *
      clear htv
      go_wp2_with fail
      refine htl.mono ?_
      clear htl
      rintro e w4 ⟨rfl, hb4⟩
      have hba : Below w4.heap.size w4 (w4.alloc (.cells #[.int .i64 (p : Int), .int .i64 (q : Int)] 36)) := (Below.refl _ _).alloc (Nat.le_refl _) _
      have hF5 := (HF.out.1.later hb4).later hba
      have y0 := hF5.row (i * 2) (by omega)
      have y1 := hF5.row (i * 2 + 1) (by omega)
      have z0 := hF5.fz (i * 2) (by omega)
      have z1 := hF5.fz (i * 2 + 1) (by omega)
      have HS : Hid (RowIs (((w4.alloc (.cells #[.int .i64 (p : Int), .int .i64 (q : Int)] 36)).setCell ⟨w.heap.size, i * 2, none⟩ (.int .i64 (p : Int))).setCell ⟨w.heap.size, i * 2 + 1, none⟩ (.int .i64 (q : Int))) w.heap.size (2 * n) (fun j => if j = i * 2 + 1 then .int .i64 (q : Int) else if j = i * 2 then .int .i64 (p : Int) else f j)) := (hF5.set (j := i * 2) (f' := fun j => if j = i * 2 then .int .i64 (p : Int) else f j) (by omega) _ (fun _ _ => rfl)).set (by omega) _ (fun _ _ => rfl)
      have HB5 := Hid.mk' (below_chain (below_chain HB.out hb4) hba)
      clear hF5 hba hb4
      go_wp2_with fail
      refine ⟨⟨i + 1, _, h1, by go_num, ⟨HS.out, fun j hj => ?_⟩, ?_⟩, by simp [intOf]; omega⟩
      · by_cases h2 : j = i * 2 + 1
        · rw [if_pos h2, h2]; exact HP.out.2.symm
        · rw [if_neg h2]
          by_cases h3 : j = i * 2
          · rw [if_pos h3, h3]; exact HP.out.1.symm
          · rw [if_neg h3]; exact HF.out.2 j (by omega)
      · exact (HB5.out.setCell (Nat.le_refl _) _).setCell (Nat.le_refl _) _
    · obtain rfl : n = i := by omega
      go_wp2_with fail
      go_ret2
      exact ⟨_, rfl, ⟨fun j hj => by rw [← HF.out.2 j hj]; exact HF.out.1.row j hj, HF.out.1.fz⟩, HB.out⟩
end Go.Proofs.YtlmehmbipbkeiaaDoor
