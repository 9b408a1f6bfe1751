/- machine.Run: what a program writes. -/
import Derived.Test.YtdfcipdknfebpaaDoorMacS
import Derived.Laws.EntriesVeiled
namespace Go.Proofs.YtdfcipdknfebpaaDoor
open Go.RowKit

theorem ret_two {a b c d : Value} (h1 : a = c) (h2 : b = d) : Ending.returned (.tuple #[a, b]) = .returned (.tuple #[c, d]) := by rw [h1, h2]
/-- What Run answers: e is the error's value, of which the place is kept in memory. -/
structure RunIs (vB vT : Value) (W : World) (p : List UInt8) (s : List UInt8) (v : Value) : Prop where
  long : 40 < p.length → s = [] ∧ v = vB
  text : p.length ≤ 40 → (∀ ks, p ≠ fla ks) → s = [] ∧ v = vT
  good : p.length ≤ 40 → ∀ ks, p = fla ks → oks ks → s = stp ks ∧ v = .nilIface
  over : p.length ≤ 40 → ∀ ks i, p = fla ks → i < ks.length → (∀ j, j ≤ i → (stp (ks.take j)).length ≤ 24) → 24 < (stp (ks.take (i + 1))).length → s = [] ∧ ∃ pb, v = .iface 45 (.pointer (some ⟨pb, 0, none⟩)) ∧ W.cell? ⟨pb, 0, none⟩ = some (.int .i64 (i : Int)) ∧ W.cell? ⟨pb, 1, none⟩ = some vB
theorem fst_over {ks : Pg} {i j : Nat} (hi : ∀ m, m ≤ i → (stp (ks.take m)).length ≤ 24) (hi2 : 24 < (stp (ks.take (i + 1))).length) (hj : ∀ m, m ≤ j → (stp (ks.take m)).length ≤ 24) (hj2 : 24 < (stp (ks.take (j + 1))).length) : i = j := by
  rcases Nat.lt_trichotomy i j with h | h | h
  · have := hj (i + 1) (by omega); omega
  · exact h
  · have := hi (j + 1) (by omega); omega

theorem own_cell {W : World} {B : Nat} {e : TypeId} {sz n m cap g j : Nat} {xs : List Value} (h : W.ownsRow B e sz (.slice (some ⟨g, 0, none⟩) m cap) n xs) (hj : j < n * sz) : W.cell? ⟨g, j, none⟩ = xs[j]? := by
  rcases h.2 with ⟨h2, _⟩ | ⟨g', cap', cur, h2, _, h3, _, _, _, h4⟩
  · cases h2
  · injection h2 with h5 _ _
    injection h5 with h5
    injection h5 with h5 _ _
    subst h5
    rw [← h4, List.getElem?_take_of_lt hj]
    simp [World.cell?, h3]
set_option maxRecDepth 100000 in
set_option maxHeartbeats 4000000 in
theorem Run_any (p : List UInt8) (vB vT : Value) (w : World) (hp : p.length ≤ 1000000) (hvT : w.cell? ⟨1, 0, none⟩ = some vT) (hvB : w.cell? ⟨0, 0, none⟩ = some vB) (hTi : ∃ t x, vT = .iface t x) (hBi : ∃ t x, vB = .iface t x) :
    Calls Tryd.prog 8 #[.string (bt p)] w fun e w' => ∃ s v, e = .returned (.tuple #[.string (bt s), v]) ∧ RunIs vB vT w' p s v ∧ Below w.heap.size w w' := by
  obtain ⟨tB, xB, rfl⟩ := hBi
  have hz := bt_size p
  by_cases h40 : 40 < p.length
  · have HR : Hid (∀ W, RunIs (.iface tB xB) vT W p [] (.iface tB xB)) := fun W => ⟨fun _ => ⟨rfl, rfl⟩, fun h => by omega, fun h => by omega, fun h => by omega⟩
    generalize bt p = B at *
    have hzI : (40 : Int) < (B.size : Int) := by omega
    have hzJ : (B.size : Int) ≤ 1000000 := by omega
    clear hz
    go_enter Tryd.func8, Tryd.ntmps8
    go_wp2_with fail
    go_region
    all_goals (go_wp2_with fail; go_ret2; exact ⟨[], _, rfl, HR.out _, (Below.refl _ _).drew⟩)
  · have h40' : p.length ≤ 40 := by omega
    have hS := split_any p vT w h40' hvT
    have HVB : Hid (∀ W, Below w.heap.size w W → W.cell? ⟨0, 0, none⟩ = some (.iface tB xB)) := fun W hb => by rw [hb.cell (cell_lt hvB)]; exact hvB
    generalize bt p = B at *
    have hzI : ¬ (40 : Int) < (B.size : Int) := by omega
    have hzJ : (B.size : Int) ≤ 1000000 := by omega
    have HH := Hid.mk' h40
    clear hz h40 hvT hvB
    go_enter Tryd.func8, Tryd.ntmps8
    go_wp2_with fail
    refine hS.mono ?_
    clear hS
    rintro e W1 ⟨⟨ks, d, hks, rfl, hO⟩ | ⟨hno, rfl⟩, hB1⟩
    · have HO := Hid.mk' hO
      have HB1 := Hid.mk' hB1
      have HK := Hid.mk' hks
      have hkl : ks.length ≤ 20 := by have := fla_len ks; rw [← hks] at this; omega
      clear hO hB1 hks
      obtain ⟨n, hn⟩ : ∃ n, n = ks.length := ⟨_, rfl⟩
      rw [← hn] at HO hkl
      have HN := Hid.mk' hn
      clear hn
      have hform : ∃ ad cap, d = .slice ad n cap := by
        rcases HO.out.2 with ⟨h1, h2⟩ | ⟨g, cap, cur, h1, _⟩
        · exact ⟨none, 0, by rw [h1, h2]⟩
        · exact ⟨_, cap, h1⟩
      obtain ⟨ad, cap, rfl⟩ := hform
      have hnI : (n : Int) ≤ 20 := by omega
      go_wp2_with fail
      go_loopw [6, 23] (fun sv t wr => ∃ k : Nat, k ≤ n ∧ t = .int .i64 (k : Int) ∧ sv = .string (bt (stp (ks.take k))) ∧ Hid (∀ m, m ≤ k → (stp (ks.take m)).length ≤ 24) ∧ Hid (Below W1.heap.size W1 wr)) (fun _ t _ => n - (intOf t).toNat)
      case atStart => exact ⟨0, Nat.zero_le _, rfl, rfl, fun m hm => by rw [Nat.le_zero.1 hm]; simp [stp], Below.refl _ _⟩
      case round =>
        obtain ⟨k, hk, rfl, rfl, H24, HB⟩ := hrel
        have hk0 : (0 : Int) ≤ (k : Int) := by omega
        rcases Nat.lt_or_ge k n with h1 | h1
        · have hkI : (k : Int) < (n : Int) := by omega
          obtain ⟨c, hc⟩ : ∃ c, ks[k]? = some c := ⟨_, List.getElem?_eq_getElem (by have := HN.out; omega)⟩
          obtain ⟨hx0, hx1⟩ := ptCells_at ks k c hc
          have hL := own_laterM HO.out HB.out
          obtain ⟨g, hg⟩ : ∃ g, ad = some ⟨g, 0, none⟩ := by
            rcases HO.out.2 with ⟨h2, h3⟩ | ⟨g, cap, cur, h2, _⟩
            · omega
            · exact ⟨g, by injection h2⟩
          subst hg
          have x0 : wr.cell? ⟨g, k * 2, none⟩ = some (.string (bt (mW c))) := (own_cell hL (by omega)).trans hx0
          have x1 : wr.cell? ⟨g, k * 2 + 1, none⟩ = some (.func (.func (mFn c)) #[] #[]) := (own_cell hL (by omega)).trans hx1
          have hl24 := H24.out k (Nat.le_refl _)
          have hD := do_any c (stp (ks.take k)) (wr.alloc (.cells #[.string (bt (mW c)), .func (.func (mFn c)) #[] #[]] 44)) (by omega) (stp_bit _)
          have HEN := Hid.mk' (do_enters c)
          have HNX : Hid (mD c (stp (ks.take k)) = stp (ks.take (k + 1))) := by
            show _ = _
            have : ks.take (k + 1) = ks.take k ++ [c] := by rw [List.take_add_one, hc]; rfl
            rw [this, stp_snoc]
          rw [HNX.out] at hD
          have hm2 := mD_len c (stp (ks.take k))
          rw [HNX.out] at hm2
          clear HNX hx0 hx1 hL
          generalize mFn c = fnc at *
          generalize bt (mW c) = Mc at *
          generalize bt (stp (ks.take k)) = Sk at *
          have hzS := bt_size (stp (ks.take (k + 1)))
          have HBW : Hid (Below W1.heap.size W1 (wr.alloc (.cells #[.string Mc, .func (.func fnc) #[] #[]] 44))) := HB.out.alloc HB.out.size _
          have z1 : (wr.alloc (.cells #[.string Mc, .func (.func fnc) #[] #[]] 44)).cell? ⟨wr.heap.size, 1, none⟩ = some (.func (.func fnc) #[] #[]) := by simp
          have hen := HEN.out
          by_cases hov : 24 < (stp (ks.take (k + 1))).length
          · have HQ : Hid (∀ W pb, W.cell? ⟨pb, 0, none⟩ = some (.int .i64 (k : Int)) → W.cell? ⟨pb, 1, none⟩ = some (.iface tB xB) → RunIs (.iface tB xB) vT W p [] (.iface 45 (.pointer (some ⟨pb, 0, none⟩)))) := fun W pb q0 q1 => by
              refine ⟨fun h => absurd h HH.out, fun _ h => absurd HK.out (h ks), fun _ q hq ho => ?_, fun _ q i hq hi h2 h3 => ?_⟩
              · obtain rfl := fla_inj (HK.out.symm.trans hq)
                have := ho (k + 1) (by have := HN.out; omega)
                omega
              · obtain rfl := fla_inj (HK.out.symm.trans hq)
                obtain rfl := fst_over h2 h3 H24.out hov
                exact ⟨rfl, pb, rfl, q0, q1⟩
            generalize bt (stp (ks.take (k + 1))) = S2 at *
            have hI1 : (24 : Int) < (S2.size : Int) := by omega
            have hI2 : (S2.size : Int) ≤ 1000 := by omega
            clear hzS hov hm2 hl24 hc
            go_wp2_with (go_at_fn fnc; refine hD.mono ?_; rintro e W3 ⟨rfl, hB3⟩; have HB3 := Hid.mk' (below_chain HBW.out hB3); clear hB3; have hgb := HVB.out W3 (below_chain HB1.out HB3.out))
            go_region
            all_goals
              go_wp2_with fail
              go_ret2
              refine ⟨[], _, rfl, HQ.out _ _ (by simp) (by simp), ?_⟩
              exact ((below_chain HB1.out HB3.out).drew.alloc (below_chain HB1.out HB3.out).size _)
          · generalize hS2 : bt (stp (ks.take (k + 1))) = S2 at *
            have hI1 : ¬ (24 : Int) < (S2.size : Int) := by omega
            have hI2 : (S2.size : Int) ≤ 1000 := by omega
            have HS2 := Hid.mk' hS2
            have HOV := Hid.mk' hov
            clear hzS hov hm2 hl24 hc hS2
            go_wp2_with (go_at_fn fnc; refine hD.mono ?_; rintro e W3 ⟨rfl, hB3⟩; have HB3 := Hid.mk' (below_chain HBW.out hB3); clear hB3)
            go_roundw
            case rel => exact ⟨k + 1, by omega, by simp, by rw [HS2.out], fun m hm => by
              rcases Nat.lt_or_ge k m with h | h
              · have e : m = k + 1 := by omega
                rw [e]; have := HOV.out; omega
              · exact H24.out m h, HB3⟩
            case measure => simp [intOf]; omega
        · obtain rfl : k = n := by omega
          have HE : Hid (ks.take k = ks) := by show _ = _; rw [HN.out, List.take_length]
          have HQ : Hid (∀ W, RunIs (.iface tB xB) vT W p (stp (ks.take k)) .nilIface) := fun W => by
            rw [HE.out]
            refine ⟨fun h => absurd h HH.out, fun _ h => absurd HK.out (h ks), fun _ q hq _ => ?_, fun _ q i hq hi h2 h3 => ?_⟩
            · obtain rfl := fla_inj (HK.out.symm.trans hq); exact ⟨rfl, rfl⟩
            · obtain rfl := fla_inj (HK.out.symm.trans hq)
              have := H24.out (i + 1) (by rw [HN.out]; exact hi)
              omega
          generalize stp (ks.take k) = S at *
          go_wp2_with fail
          go_ret2
          exact ⟨S, _, rfl, HQ.out _, below_chain HB1.out HB.out⟩
    · obtain ⟨tT, xT, rfl⟩ := hTi
      have HR : Hid (∀ W, RunIs (.iface tB xB) (.iface tT xT) W p [] (.iface tT xT)) := fun W => ⟨fun h => absurd h HH.out, fun _ _ => ⟨rfl, rfl⟩, fun _ ks h => absurd h (hno ks), fun _ ks i h => absurd h (hno ks)⟩
      go_wp2_with fail
      go_ret2
      exact ⟨[], _, rfl, HR.out _, hB1⟩
end Go.Proofs.YtdfcipdknfebpaaDoor
