/- The document's RunOf. -/
import Derived.Test.YtdfcipdknfebpaaDoorMacE
import Derived.Test.YtdfcipdknfebpaaDoorMacR
namespace Go.Proofs.YtdfcipdknfebpaaDoor
open Go.RowKit

/-- What the document says of a program: what is written, the error's number and its place. -/
structure DocIs (p : List UInt8) (s : List UInt8) (c : Nat) (t : Int) : Prop where
  long : 40 < p.length → s = [] ∧ c = 2 ∧ t = -1
  text : p.length ≤ 40 → (∀ ks, p ≠ fla ks) → s = [] ∧ c = 1 ∧ t = -1
  good : p.length ≤ 40 → ∀ ks, p = fla ks → oks ks → s = stp ks ∧ c = 0 ∧ t = -1
  over : p.length ≤ 40 → ∀ ks i, p = fla ks → i < ks.length → (∀ j, j ≤ i → (stp (ks.take j)).length ≤ 24) → 24 < (stp (ks.take (i + 1))).length → s = [] ∧ c = 2 ∧ t = (i : Int)
/-- Two numbers in a box of their own. -/
structure TwoM (w : World) (b : Nat) (x y : Int) : Prop where
  c0 : w.cell? ⟨b, 0, none⟩ = some (.int .i64 x)
  c1 : w.cell? ⟨b, 1, none⟩ = some (.int .i64 y)
  f0 : w.frozen? ⟨b, 0, none⟩ = false
  f1 : w.frozen? ⟨b, 1, none⟩ = false
theorem TwoM.later {w w' : World} {b : Nat} {x y : Int} (h : TwoM w b x y) (hb : Below w.heap.size w w') : TwoM w' b x y :=
  ⟨by rw [hb.cell (cell_lt h.c0)]; exact h.c0, by rw [hb.cell (cell_lt h.c1)]; exact h.c1, by rw [hb.frozen (show b < w.heap.size from cell_lt h.c0)]; exact h.f0, by rw [hb.frozen (show b < w.heap.size from cell_lt h.c0)]; exact h.f1⟩
theorem TwoM.fresh (w : World) (x y : Int) (t : TypeId) : TwoM (w.alloc (.cells #[.int .i64 x, .int .i64 y] t)) w.heap.size x y := ⟨by simp, by simp, by simp, by simp⟩
theorem TwoM.set {w : World} {b : Nat} {x y : Int} (h : TwoM w b x y) (x' y' : Int) : TwoM ((w.setCell ⟨b, 0, none⟩ (.int .i64 x')).setCell ⟨b, 1, none⟩ (.int .i64 y')) b x' y' := by
  refine ⟨?_, ?_, ?_, ?_⟩
  · rw [World.cell?_setCell_other _ _ _ _ (by simp)]; exact World.cell?_setCell_same _ _ _ h.c0
  · exact World.cell?_setCell_same _ _ _ (by rw [World.cell?_setCell_other _ _ _ _ (by simp)]; exact h.c1)
  · rw [World.frozen?_setCell, World.frozen?_setCell]; exact h.f0
  · rw [World.frozen?_setCell, World.frozen?_setCell]; exact h.f1
theorem oks_or (ks : Pg) : oks ks ∨ ∃ i, i < ks.length ∧ (∀ j, j ≤ i → (stp (ks.take j)).length ≤ 24) ∧ 24 < (stp (ks.take (i + 1))).length := by
  have : ∀ m, m ≤ ks.length → (∀ j, j ≤ m → (stp (ks.take j)).length ≤ 24) ∨ ∃ i, i < ks.length ∧ (∀ j, j ≤ i → (stp (ks.take j)).length ≤ 24) ∧ 24 < (stp (ks.take (i + 1))).length := by
    intro m
    induction m with
    | zero => intro _; left; intro j hj; rw [Nat.le_zero.1 hj]; simp [stp]
    | succ m ih =>
      intro hm
      rcases ih (by omega) with h | h
      · by_cases h2 : 24 < (stp (ks.take (m + 1))).length
        · exact Or.inr ⟨m, by omega, h, h2⟩
        · left
          intro j hj
          rcases Nat.lt_or_ge m j with h3 | h3
          · obtain rfl : j = m + 1 := by omega
            omega
          · exact h j h3
      · exact Or.inr h
  exact this ks.length (Nat.le_refl _)
theorem strC_at {L : List (List UInt8)} {i : Nat} {l : List UInt8} (h : L[i]? = some l) : (strC L)[i]? = some (.string (bt l)) := by simp [strC, h]

set_option maxRecDepth 100000 in
set_option maxHeartbeats 4000000 in
theorem RunOf_any (p : List UInt8) (w : World) (hp : p.length ≤ 1000000) :
    Calls Tryd.prog 9 #[.string (bt p)] w fun e w' => ∃ s c t, e = .returned (.tuple #[.string (bt s), .agg #[.int .i64 ((c : Nat) : Int), .int .i64 t]]) ∧ DocIs p s c t ∧ Below w.heap.size w w' := by
  obtain ⟨W, hW⟩ : ∃ W, W = w.alloc (.cells #[.int .i64 0, .int .i64 0] 28) := ⟨_, rfl⟩
  have hbW : Below w.heap.size w W := by rw [hW]; exact (Below.refl _ _).alloc (Nat.le_refl _) _
  have hsW : W.heap.size = w.heap.size + 1 := by rw [hW]; simp
  have HT : Hid (TwoM W w.heap.size 0 0) := by rw [hW]; exact TwoM.fresh _ _ _ _
  have HBW := Hid.mk' (fun (V : World) (hb : Below W.heap.size W V) => below_chain hbW hb)
  have HTW := Hid.mk' (fun (V : World) (hb : Below W.heap.size W V) => HT.out.later hb)
  have HFIN : Hid (∀ (V : World) (x y : Int), Below W.heap.size W V → TwoM ((V.setCell ⟨w.heap.size, 0, none⟩ (.int .i64 x)).setCell ⟨w.heap.size, 1, none⟩ (.int .i64 y)) w.heap.size x y ∧ Below w.heap.size w ((V.setCell ⟨w.heap.size, 0, none⟩ (.int .i64 x)).setCell ⟨w.heap.size, 1, none⟩ (.int .i64 y))) := fun V x y hb => ⟨(HT.out.later hb).set x y, ((below_chain hbW hb).setCell (Nat.le_refl _) _).setCell (Nat.le_refl _) _⟩
  clear HT hbW
  have hz := bt_size p
  by_cases h40 : 40 < p.length
  · have HR : Hid (DocIs p [] 2 (-1)) := ⟨fun _ => ⟨rfl, rfl, rfl⟩, fun h => by omega, fun h => by omega, fun h => by omega⟩
    generalize bt p = B at *
    have hzI : (40 : Int) < (B.size : Int) := by omega
    have hzJ : (B.size : Int) ≤ 1000000 := by omega
    clear hz hW
    go_enter Tryd.func9, Tryd.ntmps9
    go_wp2_with fail
    exact bodyPost_ret (v := .tuple #[.string ⟨#[]⟩, .agg #[.int .i64 2, .int .i64 (-1)]]) (by simp [results, Tryd.results9, go_sem]) rfl ⟨[], 2, -1, rfl, HR.out, (Below.refl _ _).alloc (Nat.le_refl _) _⟩
  · have h40' : p.length ≤ 40 := by omega
    have HPP := Hid.mk' (PartsOf_any p W h40')
    have HBI : Hid (∀ V, Calls Tryd.prog 13 #[.string (bt p)] V fun e w' => e = .returned (.bool (bitL p)) ∧ Below V.heap.size V w') := fun V => by
      have := DocBits_any (bt p) V (by rw [bt_size]; omega)
      unfold bitB at this
      rw [bt_list] at this
      exact this
    generalize bt p = B at *
    have hzI : ¬ (40 : Int) < (B.size : Int) := by omega
    have hzJ : (B.size : Int) ≤ 1000000 := by omega
    have HH := Hid.mk' h40
    clear hz h40
    go_enter Tryd.func9, Tryd.ntmps9
    go_wp2_with fail
    rw [← hW]
    clear hW
    refine HPP.out.mono ?_
    clear HPP
    rintro e W1 ⟨d, b, rfl, hB1, hPK⟩
    have HB1 := Hid.mk' hB1
    have HPK := Hid.mk' hPK
    clear hB1 hPK
    go_wp2_with fail
    refine (HBI.out W1).mono ?_
    clear HBI
    rintro e W2 ⟨rfl, hB2⟩
    have HB12 := Hid.mk' hB2
    have HB2 := Hid.mk' (below_chain HB1.out hB2)
    clear hB2
    have q := HTW.out W2 HB2.out
    have q0' := q.c0
    have q1' := q.c1
    have q2' := q.f0
    have q3' := q.f1
    clear q
    by_cases hbad : bitL p = true ∧ b = true
    · obtain ⟨hb1, hb2⟩ := hbad
      rcases HPK.out hb1 with ⟨_, ks, hks, hO⟩ | ⟨h, _⟩
      · have HO := Hid.mk' (own_laterM hO HB12.out)
        have HK := Hid.mk' hks
        have hkl : ks.length ≤ 20 := by have := fla_len ks; rw [← hks] at this; omega
        clear hO hks HPK
        rw [hb1, hb2]
        obtain ⟨n, hn⟩ : ∃ n, n = ks.length := ⟨_, rfl⟩
        rw [← hn] at HO hkl
        have HN := Hid.mk' hn
        clear hn hb1 hb2
        have hform : ∃ ad cap, d = .slice ad n cap := by
          rcases HO.out.2 with ⟨h1, h2⟩ | ⟨g, cap, cur, h1, _⟩
          · exact ⟨none, 0, by rw [h1, h2]⟩
          · exact ⟨_, cap, h1⟩
        obtain ⟨ad, cap, rfl⟩ := hform
        have hnI : (n : Int) ≤ 20 := by omega
        go_wp2_with fail
        go_loopw [7, 8] (fun sv t wr => ∃ k : Nat, k ≤ n ∧ t = .int .i64 (k : Int) ∧ sv = .string (bt (stp (ks.take k))) ∧ Hid (∀ m, m ≤ k → (stp (ks.take m)).length ≤ 24) ∧ wr = W2) (fun _ t _ => n - (intOf t).toNat)
        case atStart => exact ⟨0, Nat.zero_le _, rfl, rfl, fun m hm => by rw [Nat.le_zero.1 hm]; simp [stp], rfl⟩
        case round =>
          obtain ⟨k, hk, rfl, rfl, H24, rfl⟩ := hrel
          have hk0 : (0 : Int) ≤ (k : Int) := by omega
          rcases Nat.lt_or_ge k n with h1 | h1
          · have hkI : (k : Int) < (n : Int) := by omega
            obtain ⟨c, hc⟩ : ∃ c, ks[k]? = some c := ⟨_, List.getElem?_eq_getElem (by have := HN.out; omega)⟩
            have hx := strC_at (L := ks.map mW) (i := k) (l := mW c) (by rw [List.getElem?_map, hc]; rfl)
            obtain ⟨g, hg⟩ : ∃ g, ad = some ⟨g, 0, none⟩ := by
              rcases HO.out.2 with ⟨h2, h3⟩ | ⟨g, cap, cur, h2, _⟩
              · omega
              · exact ⟨g, by injection h2⟩
            subst hg
            have x0 : wr.cell? ⟨g, k, none⟩ = some (.string (bt (mW c))) := (own_cell HO.out (by omega)).trans hx
            have hl24 := H24.out k (Nat.le_refl _)
            have hD := PartOf_any c (stp (ks.take k)) wr (by omega) (stp_bit _)
            have HNX : Hid (mD c (stp (ks.take k)) = stp (ks.take (k + 1))) := by
              show _ = _
              have : ks.take (k + 1) = ks.take k ++ [c] := by rw [List.take_add_one, hc]; rfl
              rw [this, stp_snoc]
            rw [HNX.out] at hD
            have hm2 := mD_len c (stp (ks.take k))
            rw [HNX.out] at hm2
            clear HNX hx
            generalize bt (mW c) = Mc at *
            generalize bt (stp (ks.take k)) = Sk at *
            have hzS := bt_size (stp (ks.take (k + 1)))
            have HD := Hid.mk' hD
            clear hD
            by_cases hov : 24 < (stp (ks.take (k + 1))).length
            · have HQ : Hid (DocIs p [] 2 (k : Int)) := by
                refine ⟨fun h => absurd h HH.out, fun _ h => absurd HK.out (h ks), fun _ q hq ho => ?_, fun _ q i hq hi h2 h3 => ?_⟩
                · obtain rfl := fla_inj (HK.out.symm.trans hq)
                  have := ho (k + 1) (by have := HN.out; omega)
                  omega
                · obtain rfl := fla_inj (HK.out.symm.trans hq)
                  obtain rfl := fst_over h2 h3 H24.out hov
                  exact ⟨rfl, rfl, rfl⟩
              generalize bt (stp (ks.take (k + 1))) = S2 at *
              have hI1 : (24 : Int) < (S2.size : Int) := by omega
              have hI2 : (S2.size : Int) ≤ 1000 := by omega
              clear hzS hov hm2 hl24 hc
              obtain ⟨g2, gb⟩ := HFIN.out _ 2 (k : Int) HB2.out
              have HG := Hid.mk' (And.intro g2.c0 g2.c1)
              have HGB := Hid.mk' gb
              clear g2 gb
              go_wp2_with fail
              refine HD.out.mono ?_
              clear HD
              rintro e W3 ⟨rfl, rfl⟩
              go_wp2_with fail
              obtain ⟨g0, g1⟩ := HG.out
              exact bodyPost_ret (v := .tuple #[.string ⟨#[]⟩, .agg #[.int .i64 2, .int .i64 (k : Int)]]) (by simp [results, Tryd.results9, go_sem, g0, g1]) rfl ⟨[], 2, _, rfl, HQ.out, HGB.out⟩
            · generalize hS2 : bt (stp (ks.take (k + 1))) = S2 at *
              have hI1 : ¬ (24 : Int) < (S2.size : Int) := by omega
              have hI2 : (S2.size : Int) ≤ 1000 := by omega
              have HS2 := Hid.mk' hS2
              have HOV := Hid.mk' hov
              clear hzS hov hm2 hl24 hc hS2
              go_wp2_with fail
              refine HD.out.mono ?_
              clear HD
              rintro e W3 ⟨rfl, rfl⟩
              go_wp2_with fail
              go_roundw
              case rel => exact ⟨k + 1, by omega, by simp, by rw [HS2.out], fun m hm => by
                rcases Nat.lt_or_ge k m with h | h
                · have e : m = k + 1 := by omega
                  rw [e]; have := HOV.out; omega
                · exact H24.out m h, by trivial⟩
              case measure => simp [intOf]; omega
          · obtain rfl : k = n := by omega
            have HE : Hid (ks.take k = ks) := by show _ = _; rw [HN.out, List.take_length]
            have HQ : Hid (DocIs p (stp (ks.take k)) 0 (-1)) := by
              rw [HE.out]
              refine ⟨fun h => absurd h HH.out, fun _ h => absurd HK.out (h ks), fun _ q hq _ => ?_, fun _ q i hq hi h2 h3 => ?_⟩
              · obtain rfl := fla_inj (HK.out.symm.trans hq); exact ⟨rfl, rfl, rfl⟩
              · obtain rfl := fla_inj (HK.out.symm.trans hq)
                have := H24.out (i + 1) (by rw [HN.out]; exact hi)
                omega
            generalize stp (ks.take k) = S at *
            obtain ⟨g2, gb⟩ := HFIN.out _ 0 (-1) HB2.out
            have HG := Hid.mk' (And.intro g2.c0 g2.c1)
            have HGB := Hid.mk' gb
            clear g2 gb
            go_wp2_with fail
            obtain ⟨g0, g1⟩ := HG.out
            exact bodyPost_ret (v := .tuple #[.string (bt S), .agg #[.int .i64 0, .int .i64 (-1)]]) (by simp [results, Tryd.results9, go_sem, g0, g1]) rfl ⟨S, 0, _, rfl, HQ.out, HGB.out⟩
      · rw [hb2] at h; exact absurd h (by simp)
    · have HNO : Hid (∀ ks, p ≠ fla ks) := fun ks e => by
        have h1 : bitL p = true := by rw [e]; exact fla_bit ks
        rcases HPK.out h1 with ⟨h2, _⟩ | ⟨_, h2⟩
        · exact hbad ⟨h1, h2⟩
        · exact h2 ks e
      have HR : Hid (DocIs p [] 1 (-1)) := ⟨fun h => absurd h HH.out, fun _ _ => ⟨rfl, rfl, rfl⟩, fun _ ks h => absurd h (HNO.out ks), fun _ ks i h => absurd h (HNO.out ks)⟩
      obtain ⟨g2, gb⟩ := HFIN.out _ 1 (-1) HB2.out
      have HG := Hid.mk' (And.intro g2.c0 g2.c1)
      have HGB := Hid.mk' gb
      clear g2 gb HPK
      cases hq : bitL p with
      | false =>
        clear hbad
        go_wp2_with fail
        obtain ⟨g0, g1⟩ := HG.out
        exact bodyPost_ret (v := .tuple #[.string ⟨#[]⟩, .agg #[.int .i64 1, .int .i64 (-1)]]) (by simp [results, Tryd.results9, go_sem, g0, g1]) rfl ⟨[], 1, -1, rfl, HR.out, HGB.out⟩
      | true =>
        have hbf : b = false := by cases b with | false => rfl | true => exact absurd ⟨hq, rfl⟩ hbad
        subst hbf
        clear hbad
        go_wp2_with fail
        obtain ⟨g0, g1⟩ := HG.out
        exact bodyPost_ret (v := .tuple #[.string ⟨#[]⟩, .agg #[.int .i64 1, .int .i64 (-1)]]) (by simp [results, Tryd.results9, go_sem, g0, g1]) rfl ⟨[], 1, -1, rfl, HR.out, HGB.out⟩
end Go.Proofs.YtdfcipdknfebpaaDoor
