/- The document's JoinOf: NEWTON's differences in place. -/
import Derived.Test.YtgklaadkglbclaaDoorSkJd
namespace Go.Proofs.YtgklaadkglbclaaDoor
open Go.RowKit

theorem fills_own {w w2 : World} {g n cap : Nat} {t : TypeId} {z : Nat → Int} (h : w2.ownsRow w.heap.size t 1 (.slice (some ⟨g, 0, none⟩) n cap) n (numCells z n)) (hb : Below w.heap.size w w2) : Fills w w2 g n z := by
  have hr := rowAt_of_row h
  rcases h.2 with ⟨hx, _⟩ | ⟨g', cap', cur, hv, hge, hh, _⟩
  · cases hx
  · obtain ⟨rfl, rfl⟩ : g = g' ∧ cap = cap' := by simpa using hv
    exact ⟨hr, fun i _ => by simp [World.frozen?, hh], hb, hge⟩
theorem Fills.congr {w wr : World} {g T : Nat} {f f' : Nat → Int} (h : Fills w wr g T f) (hf : ∀ i, i < T → f' i = f i) : Fills w wr g T f' := ⟨fun i hi => by rw [hf i hi]; exact h.row i hi, h.fz, h.below, h.hg⟩
/-- Which difference stands at place j when, in round s + 1, the places above i are done. -/
def stN (s i j : Nat) : Nat := if i < j then min (s + 1) j else min s j
theorem stN_same {s i j : Nat} (h : i = s) : stN s i j = min (s + 1) j := by
  unfold stN; split <;> omega
theorem stN_start {s i j : Nat} (h : j ≤ i) : stN s i j = min s j := by
  unfold stN; rw [if_neg (by omega)]

set_option maxRecDepth 100000 in
set_option maxHeartbeats 8000000 in
theorem JoinOf_any (P m b o cap b' o' cap' : Nat) (A V : Nat → Nat) (w : World) (hr : RowAt w b o m (fun i => (A i : Int))) (hv : RowAt w b' o' m (fun i => (V i : Int))) (hF : FldN P) (hPl : Places P m A) (hV : ∀ i, V i < P) (h0 : 0 < m) (hm : m ≤ 12) :
    Calls Tryd.prog 21 #[.int .i64 (P : Int), .slice (some ⟨b, o, none⟩) m cap, .slice (some ⟨b', o', none⟩) m cap'] w fun e w' => e = .returned (.int .i64 (hoN P m A V m : Int)) ∧ Below w.heap.size w w' := by
  have hp2 := hF.two
  have hp9 := hF.le
  have hpz : ¬ (P : Int) = 0 := by omega
  have hp0 : ¬ P = 0 := by omega
  have hpI : (P : Int) ≤ 997 := by omega
  have hmI : (m : Int) ≤ 12 := by omega
  have h0I : (0 : Int) < (m : Int) := by omega
  have HR : Hid (∀ W, Below w.heap.size w W → ∀ i, i < m → W.cell? ⟨b, o + i, none⟩ = some (.int .i64 (A i : Int))) := fun W hb i hi => hr.later hb i hi
  have HIV : Hid (∀ i j, i < m → j < m → i ≠ j → ∀ W, Calls Tryd.prog 37 #[.int .i64 (((A i + P - A j) % P : Nat) : Int), .int .i64 (P : Int)] W fun e w' => e = .returned (.int .i64 (ivN P ((A i + P - A j) % P) : Int)) ∧ w' = W) := fun i j hi hj hij W => Dinverse_any P _ W hF (gap_pos hPl hi hj hij).1 (gap_pos hPl hi hj hij).2
  have HIL : Hid (∀ a, ivN P a < P) := fun a => ivN_lt hF a
  have HAL := Hid.mk' hPl.lt
  have HDL := Hid.mk' (dfN_lt (A := A) hp2 hV)
  have HHL := Hid.mk' (hoN_lt (m := m) (A := A) (V := V) hp2)
  obtain ⟨i0, hi, hz0, hz1, hz2⟩ := info_parts Tryd.infoInt
  have HINF : Hid (Tryd.prog.info? 3 = some i0 ∧ i0.zero = some (.int .i64 0) ∧ i0.size = 1 ∧ i0.bytes = 8) := ⟨hi, hz0, hz1, hz2⟩
  have HC1 : Hid (∀ u, u ∈ numCells (fun i => (V i : Int)) m → u.oneCell' = true) := fun u hu => by obtain ⟨x, rfl⟩ := numCells_ints _ m u hu; rfl
  have HL : Hid ((numCells (fun i => (V i : Int)) m).length = m * 1) := by show _ = _; rw [numCells_length, Nat.mul_one]
  have HV := Hid.mk' hv
  clear hr hv hF hPl hV hi hz0 hz1 hz2
  go_enter Tryd.func21, Tryd.ntmps21
  go_wp2_with (at_builtin; go_must (refine wpList_append_lies _ rfl _ _ _ rfl w.heap.size 3 i0 _ 1 8 Tryd.underlying22 HINF.out.1 HINF.out.2.1 HINF.out.2.2.1 HINF.out.2.2.2 rfl (by omega) (.slice none 0 0) 0 [] rfl ⟨rfl, Or.inl ⟨rfl, rfl⟩⟩ ⟨b', o', none⟩ m cap' (numCells (fun i => (V i : Int)) m) rfl HL.out (fun j u hu => numCells_news HV.out j u hu) HC1.out h0 (by unfold maxLen; omega) (by omega) (by simp) _ rfl ?_; intro g cap2 w1 hown hgrow hat hlt; have HF1 : Hid (Fills w w1 g m (fun i => (V i : Int))) := fills_own (by simpa using hown) ((Below.refl _ _).grown hgrow (Nat.le_refl _) (fun k hk => by cases hk)); clear hown hgrow hat))
  go_loopw [8] (fun t wr => ∃ s : Nat, s + 1 ≤ m ∧ t = .int .i64 ((s : Int) + 1) ∧ Hid (Fills w wr g m (fun j => (dfN P A V (min s j) j : Int)))) (fun t _ => ((m : Int) - intOf t).toNat)
  case atStart => exact ⟨0, by omega, rfl, Hid.mk' (HF1.out.congr fun j _ => by simp [dfN])⟩
  case round =>
    clear HF1
    obtain ⟨s, hs, rfl, HF⟩ := hrel
    rcases Nat.lt_or_ge (s + 1) m with h1 | h1
    · have hsI : (s : Int) + 1 < (m : Int) := by omega
      obtain ⟨wo, hwo⟩ : ∃ wo, wo = wr := ⟨_, rfl⟩
      rw [← hwo] at HF ⊢
      clear hwo
      go_wp2_with fail
      go_loopw [9] (fun t wx => ∃ r : Nat, r + s + 1 ≤ m ∧ t = .int .i64 ((m : Int) - 1 - (r : Int)) ∧ Hid (Fills w wx g m (fun j => (dfN P A V (stN s (m - 1 - r) j) j : Int)))) (fun t _ => (intOf t - (s : Int)).toNat)
      case atStart => exact ⟨0, by omega, by go_num, Hid.mk' (HF.out.congr fun j hj => by rw [stN_start (by omega)])⟩
      case round =>
        clear HF
        obtain ⟨r, hr, rfl, HX⟩ := hrel
        rcases Nat.lt_or_ge (r + s + 1) m with h2 | h2
        · obtain ⟨i, hi⟩ : ∃ i, i = m - 1 - r := ⟨_, rfl⟩
          have hiI : (m : Int) - 1 - (r : Int) = (i : Int) := by omega
          have him : i < m := by omega
          have his : s + 1 ≤ i := by omega
          rw [← hi] at HX
          rw [hiI]
          have e1 : stN s i i = s := by unfold stN; rw [if_neg (by omega)]; omega
          have e2 : stN s i (i - 1) = s := by unfold stN; rw [if_neg (by omega)]; omega
          have hc1 := HX.out.row i him
          have hc2 := HX.out.row (i - 1) (by omega)
          rw [e1, Nat.zero_add] at hc1
          rw [e2, Nat.zero_add] at hc2
          have hf1 := HX.out.fz i him
          rw [Nat.zero_add] at hf1
          have ha1 := HR.out wr HX.out.below i him
          have ha2 := HR.out wr HX.out.below (i - (s + 1)) (by omega)
          have hIV := HIV.out i (i - (s + 1)) him (by omega) (by omega)
          have HN := Hid.mk' (HX.out.set him ((dfN P A V (s + 1) i : Nat) : Int) (f' := fun j => (dfN P A V (stN s (m - 1 - (r + 1)) j) j : Int)) (fun j hj => by
            by_cases e : j = i
            · rw [if_pos e, e]
              have : stN s (m - 1 - (r + 1)) i = s + 1 := by unfold stN; rw [if_pos (by omega)]; omega
              rw [this]
            · rw [if_neg e]
              have : stN s (m - 1 - (r + 1)) j = stN s i j := by unfold stN; by_cases h5 : i < j <;> simp only [h5, if_true, if_false] <;> (split <;> omega)
              rw [this]))
          have HD : Hid (dfN P A V (s + 1) i = (dfN P A V s i + P - dfN P A V s (i - 1)) % P * ivN P ((A i + P - A (i - (s + 1))) % P) % P) := rfl
          have l1 := HDL.out s i
          have l2 := HDL.out s (i - 1)
          have l3 := HAL.out i
          have l4 := HAL.out (i - (s + 1))
          obtain ⟨q, hq⟩ : ∃ q, q = i - (s + 1) := ⟨_, rfl⟩
          obtain ⟨i1, hi1⟩ : ∃ i1, i1 = i - 1 := ⟨_, rfl⟩
          rw [← hq] at ha2 hIV HD l4
          rw [← hi1] at hc2 HD l2
          have hqI : (i : Int) - ((s : Int) + 1) = (q : Int) := by omega
          have hi1I : (i : Int) - 1 = (i1 : Int) := by omega
          have hqm : (q : Int) < (m : Int) := by omega
          have hi1m : (i1 : Int) < (m : Int) := by omega
          have hq0 : (0 : Int) ≤ (q : Int) := by omega
          have hi10 : (0 : Int) ≤ (i1 : Int) := by omega
          have hi0 : (0 : Int) ≤ (i : Int) := by omega
          have hiM : (i : Int) < (m : Int) := by omega
          have hsi : (s : Int) + 1 ≤ (i : Int) := by omega
          generalize dfN P A V s i = x at *
          generalize dfN P A V s i1 = y at *
          generalize A i = ai at *
          generalize A q = aq at *
          obtain ⟨u0, hu0⟩ : ∃ u0, u0 = x + P - y := ⟨_, rfl⟩
          obtain ⟨g0, hg0⟩ : ∃ g0, g0 = ai + P - aq := ⟨_, rfl⟩
          rw [← hu0, ← hg0] at HD
          rw [← hg0] at hIV
          have hu0I : (x : Int) - (y : Int) + (P : Int) = (u0 : Int) := by omega
          have hg0I : (ai : Int) - (aq : Int) + (P : Int) = (g0 : Int) := by omega
          have lu : u0 % P < P := Nat.mod_lt _ (by omega)
          have lv := HIL.out (g0 % P)
          have hu1 : (u0 : Int) % (P : Int) = ((u0 % P : Nat) : Int) := (Int.natCast_emod _ _).symm
          have hg1 : (g0 : Int) % (P : Int) = ((g0 % P : Nat) : Int) := (Int.natCast_emod _ _).symm
          have hu2 : (u0 : Int).tmod (P : Int) = ((u0 % P : Nat) : Int) := by rw [Int.tmod_eq_emod_of_nonneg (by omega)]; exact hu1
          have hg2 : (g0 : Int).tmod (P : Int) = ((g0 % P : Nat) : Int) := by rw [Int.tmod_eq_emod_of_nonneg (by omega)]; exact hg1
          have bx : u0 ≤ 2000 := by omega
          have bg : g0 ≤ 2000 := by omega
          have HII := Hid.mk' hiI
          clear hu0 hg0 hq hi1 e1 e2 hi hiI
          generalize u0 % P = U at *
          generalize g0 % P = G at *
          generalize ivN P G = I at *
          generalize dfN P A V (s + 1) i = dn at *
          have m1 : U * I ≤ 997 * 997 := Nat.mul_le_mul (by omega) (by omega)
          go_wp2_with fail
          go_region
          all_goals
            go_wp2_with fail
            go_region
            all_goals
              go_wp2_with fail
              refine (hIV _).mono ?_
              rintro e w5 ⟨rfl, hw5⟩
              rw [hw5]
              clear hw5 w5
              go_wp2_with fail
              have hE : (U : Int) * (I : Int) % (P : Int) = (dn : Int) := by rw [HD.out, Int.natCast_emod, Int.natCast_mul]
              rw [hE]
              have hII := HII.out
              refine ⟨⟨r + 1, by omega, by congr 1; omega, Hid.mk' HN.out.drew.drew⟩, by simp [intOf]; omega⟩
        · have hre : m - 1 - r = s := by omega
          have hrI : ¬ (s : Int) + 1 ≤ (m : Int) - 1 - (r : Int) := by omega
          rw [hre] at HX
          go_wp2_with fail
          exact ⟨⟨s + 1, by omega, by go_num, Hid.mk' (HX.out.congr fun j _ => by rw [stN_same rfl])⟩, by simp [intOf]; omega⟩
    · have hsm : s + 1 = m := by omega
      have hsI : ¬ (s : Int) + 1 < (m : Int) := by omega
      have HF' : Hid (Fills w wr g m (fun j => (dfN P A V j j : Int))) := HF.out.congr fun j hj => by rw [show min s j = j by omega]
      clear HF
      obtain ⟨wo, hwo⟩ : ∃ wo, wo = wr := ⟨_, rfl⟩
      rw [← hwo] at HF' ⊢
      clear hwo hsm
      go_wp2_with fail
      go_loopw [12, 13] (fun yv t wx => ∃ r : Nat, r ≤ m ∧ t = .int .i64 ((m : Int) - 1 - (r : Int)) ∧ yv = .int .i64 (hoN P m A V r : Int) ∧ Hid (Fills w wx g m (fun j => (dfN P A V j j : Int)))) (fun _ t _ => (intOf t + 1).toNat)
      case atStart => exact ⟨0, by omega, by go_num, rfl, HF'⟩
      case round =>
        clear HF'
        obtain ⟨r, hr, rfl, rfl, HX⟩ := hrel
        rcases Nat.lt_or_ge r m with h2 | h2
        · obtain ⟨i, hi⟩ : ∃ i, i = m - 1 - r := ⟨_, rfl⟩
          have hiI : (m : Int) - 1 - (r : Int) = (i : Int) := by omega
          have him : i < m := by omega
          have hiM : (i : Int) < (m : Int) := by omega
          have hi0 : (0 : Int) ≤ (i : Int) := by omega
          have hc1 := HX.out.row i him
          rw [Nat.zero_add] at hc1
          have ha1 := HR.out wr HX.out.below i him
          have l1 := HDL.out i i
          have l3 := HAL.out i
          have hy := HHL.out r
          have HN : Hid (hoN P m A V (r + 1) = (hoN P m A V r * (P - A i) + dfN P A V i i) % P) := by show _ = _; rw [hi]; rfl
          rw [hiI]
          generalize hoN P m A V r = y at *
          generalize dfN P A V i i = d at *
          obtain ⟨c, hc⟩ : ∃ c, c = P - A i := ⟨_, rfl⟩
          rw [← hc] at HN
          have hcI : (P : Int) - (A i : Int) = (c : Int) := by omega
          generalize A i = ai at *
          have m1 : y * c ≤ 997 * 997 := Nat.mul_le_mul (by omega) (by omega)
          have HII := Hid.mk' hiI
          clear hc hi hiI
          go_wp2_with fail
          go_region
          all_goals
            go_wp2_with fail
            have hII := HII.out
            exact ⟨⟨r + 1, by omega, by congr 1; omega, by rw [HN.out]; simp, Hid.mk' HX.out.drew⟩, by simp [intOf]⟩
        · have hrm : r = m := by omega
          subst hrm
          have hneg : ¬ (0 : Int) ≤ (r : Int) - 1 - (r : Int) := by omega
          go_wp2_with fail
          go_ret
          exact ⟨rfl, HX.out.below⟩
end Go.Proofs.YtgklaadkglbclaaDoor
