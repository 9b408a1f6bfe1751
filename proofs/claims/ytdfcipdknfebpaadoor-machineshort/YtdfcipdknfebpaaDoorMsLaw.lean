/- The law MachineShort. -/
import Derived.Test.YtdfcipdknfebpaaDoorMacU
import Derived.Test.YtdfcipdknfebpaaDoorMacF
import Derived.Test.YtdfcipdknfebpaaDoorMacW
namespace Go.Proofs.YtdfcipdknfebpaaDoor
open Go.RowKit

theorem less_ltU : ∀ a b : List UInt8, Op.bytesLess a b = ltU a b
  | [], [] => rfl
  | [], _ :: _ => rfl
  | _ :: _, [] => rfl
  | a :: s, b :: t => by
    unfold Op.bytesLess ltU
    by_cases h : a < b
    · simp [h]
    · by_cases h2 : b < a
      · have hne : ¬ a = b := fun e => by rw [e] at h2; exact absurd h2 (UInt8.lt_irrefl _)
        simp [h, h2, hne]
      · have e : a = b := by
          rw [UInt8.lt_iff_toNat_lt] at h h2
          exact UInt8.toNat_inj.1 (by omega)
        subst e
        simp [less_ltU s t]
/-- What the premises say of package api's two errors. -/
structure TwoE (w : World) (vB vT : Value) : Prop where
  cT : w.cell? ⟨1, 0, none⟩ = some vT
  cB : w.cell? ⟨0, 0, none⟩ = some vB
  iT : ∃ t x, vT = .iface t x
  iB : ∃ t x, vB = .iface t x
theorem TwoE.below {w w' : World} {vB vT : Value} (h : TwoE w vB vT) (hb : Below w.heap.size w w') : TwoE w' vB vT := ⟨by rw [hb.cell (cell_lt h.cT)]; exact h.cT, by rw [hb.cell (cell_lt h.cB)]; exact h.cB, h.iT, h.iB⟩
theorem twice_E {w : World} {vB vT : Value} (h : TwoE w vB vT) : Calls Tryd.prog 7 #[] w fun e w' => e = .returned (.bool true) ∧ Below w.heap.size w w' := twice_any vB vT w h.cT h.cB h.iT h.iB
theorem Run_E {w : World} {vB vT : Value} (h : TwoE w vB vT) (p : List UInt8) (hp : p.length ≤ 1000000) : Calls Tryd.prog 8 #[.string (bt p)] w fun e w' => ∃ s v, e = .returned (.tuple #[.string (bt s), v]) ∧ RunIs vB vT w' p s v ∧ Below w.heap.size w w' := Run_any p vB vT w hp h.cT h.cB h.iT h.iB
theorem Bits_bt (s : List UInt8) (w : World) (hs : s.length ≤ 1000000) : Calls Tryd.prog 13 #[.string (bt s)] w fun e w' => e = .returned (.bool (bitL s)) ∧ Below w.heap.size w w' := by
  have := DocBits_any (bt s) w (by rw [bt_size]; omega)
  rwa [bitB_bt] at this
/-- Another program that writes the same is not ahead. -/
theorem other_not {x o : List UInt8} {q : Pg} (hb : bitL x = true) (hx : x.length ≤ 8) (ho : o = fla q) (hk : oks q) (hs : stp q = x) : ¬ o.length < (fla (lstM x)).length ∧ (o.length = (fla (lstM x)).length → ltU o (fla (lstM x)) = false) := by
  obtain ⟨h1, h2, _⟩ := lst_all hb hx
  subst ho
  rcases Nat.lt_or_ge 16 (fla q).length with h | h
  · exact ⟨by omega, fun e => by omega⟩
  · obtain ⟨p, hp1, hp2⟩ := lst_least q hk h
    rw [hs, h1] at hp1
    obtain rfl := Option.some.inj hp1
    unfold slP at hp2
    by_cases y : (fla (lstM x)).length < (fla q).length
    · exact ⟨by omega, fun e => by omega⟩
    · rw [if_neg y] at hp2
      by_cases y2 : (fla (lstM x)).length = (fla q).length
      · rw [if_pos y2] at hp2
        refine ⟨by omega, fun _ => ?_⟩
        simpa [ltP] using hp2
      · rw [if_neg y2] at hp2; exact absurd hp2 (by simp)

set_option maxRecDepth 100000 in
set_option maxHeartbeats 4000000 in
/-- Behind Run of the other program. -/
theorem Short_head (vB vT : Value) (x o : List UInt8) (w : World) (hE : TwoE w vB vT) (hx : 8 < x.length ∨ bitL x = false ∨ 40 < o.length) (hx2 : x.length ≤ 9223372036854775807) (ho2 : o.length ≤ 9223372036854775807) :
    Calls Tryd.prog 5 #[.string (bt x), .string (bt o)] w fun e w' => e = .returned (.bool true) ∧ Below w.heap.size w w' := by
  have hzx := bt_size x
  have hzo := bt_size o
  have HT := Hid.mk' (twice_E hE)
  rcases Nat.lt_or_ge 8 x.length with h8 | h8
  · generalize bt x = X at *
    generalize bt o = O at *
    have hI : (8 : Int) < (X.size : Int) := by omega
    have hI2 : (X.size : Int) ≤ 9223372036854775807 := by omega
    clear hzx hzo hx hE
    go_enter Tryd.func5, Tryd.ntmps5
    go_wp2_with fail
    refine HT.out.mono ?_
    rintro e w1 ⟨rfl, hB1⟩
    have HB1 := Hid.mk' hB1
    clear hB1 HT
    go_wp2_with fail
    go_ret
    exact ⟨rfl, HB1.out⟩
  · have HBI := Hid.mk' (fun W => Bits_bt x W (by omega))
    by_cases hbx : bitL x = true
    · have h40 : 40 < o.length := by
        rcases hx with h | h | h
        · omega
        · rw [hbx] at h; exact absurd h (by simp)
        · exact h
      rw [hbx] at HBI
      generalize bt x = X at *
      generalize bt o = O at *
      have hI : ¬ (8 : Int) < (X.size : Int) := by omega
      have hI2 : (X.size : Int) ≤ 9223372036854775807 := by omega
      have hI3 : (40 : Int) < (O.size : Int) := by omega
      have hI4 : (O.size : Int) ≤ 9223372036854775807 := by omega
      clear hzx hzo hx hE hbx
      go_enter Tryd.func5, Tryd.ntmps5
      go_wp2_with fail
      refine HT.out.mono ?_
      rintro e w1 ⟨rfl, hB1⟩
      have HB1 := Hid.mk' hB1
      clear hB1 HT
      go_wp2_with fail
      refine (HBI.out w1).mono ?_
      rintro e w2 ⟨rfl, hB2⟩
      have HB2 := Hid.mk' (below_chain HB1.out hB2)
      clear hB2 HBI
      go_wp2_with fail
      go_ret
      exact ⟨rfl, HB2.out⟩
    · have hbx : bitL x = false := by simpa using hbx
      rw [hbx] at HBI
      generalize bt x = X at *
      generalize bt o = O at *
      have hI : ¬ (8 : Int) < (X.size : Int) := by omega
      have hI2 : (X.size : Int) ≤ 9223372036854775807 := by omega
      clear hzx hzo hx hE hbx
      go_enter Tryd.func5, Tryd.ntmps5
      go_wp2_with fail
      refine HT.out.mono ?_
      rintro e w1 ⟨rfl, hB1⟩
      have HB1 := Hid.mk' hB1
      clear hB1 HT
      go_wp2_with fail
      refine (HBI.out w1).mono ?_
      rintro e w2 ⟨rfl, hB2⟩
      have HB2 := Hid.mk' (below_chain HB1.out hB2)
      clear hB2 HBI
      go_wp2_with fail
      go_ret
      exact ⟨rfl, HB2.out⟩
set_option maxRecDepth 100000 in
set_option maxHeartbeats 8000000 in
theorem Short_main (vB vT : Value) (x o : List UInt8) (w : World) (hE : TwoE w vB vT) (hx : x.length ≤ 8) (hb : bitL x = true) (ho : o.length ≤ 40) :
    Calls Tryd.prog 5 #[.string (bt x), .string (bt o)] w fun e w' => e = .returned (.bool true) ∧ Below w.heap.size w w' := by
  have hzx := bt_size x
  have hzo := bt_size o
  obtain ⟨hl1, hl2, hl3, hl4, hl5⟩ := lst_all hb hx
  have HT := Hid.mk' (twice_E hE)
  have HBI := Hid.mk' (fun W => Bits_bt x W (by omega))
  rw [hb] at HBI
  have HLE := Hid.mk' (fun W => Least_ok x W hx hb)
  have hzp := bt_size (fla (lstM x))
  have HR1 : Hid (∀ W, Below w.heap.size w W → Calls Tryd.prog 8 #[.string (bt (fla (lstM x)))] W fun e w' => e = .returned (.tuple #[.string (bt x), .nilIface]) ∧ Below W.heap.size W w') := fun W hW => by
    refine (Run_E (hE.below hW) (fla (lstM x)) (by omega)).mono ?_
    rintro e w' ⟨s, v, rfl, hI, hB⟩
    obtain ⟨rfl, rfl⟩ := hI.good (by omega) (lstM x) rfl hl3
    exact ⟨by rw [hl4], hB⟩
  have HR2 : Hid (∀ W, Below w.heap.size w W → Calls Tryd.prog 8 #[.string (bt o)] W fun e w' => ((∃ s t y, e = .returned (.tuple #[.string (bt s), .iface t y])) ∨ ∃ q, o = fla q ∧ oks q ∧ e = .returned (.tuple #[.string (bt (stp q)), .nilIface])) ∧ Below W.heap.size W w') := fun W hW => by
    refine (Run_E (hE.below hW) o (by omega)).mono ?_
    rintro e w' ⟨s, v, rfl, hI, hB⟩
    refine ⟨?_, hB⟩
    by_cases hk : ∃ ks, o = fla ks
    · obtain ⟨ks, hk⟩ := hk
      rcases oks_or ks with hok | ⟨i, h1, h2, h3⟩
      · obtain ⟨rfl, rfl⟩ := hI.good ho ks hk hok
        exact Or.inr ⟨ks, hk, hok, rfl⟩
      · obtain ⟨rfl, pb, rfl, _⟩ := hI.over ho ks i hk h1 h2 h3
        exact Or.inl ⟨_, _, _, rfl⟩
    · obtain ⟨rfl, rfl⟩ := hI.text ho (fun ks e => hk ⟨ks, e⟩)
      obtain ⟨t, y, rfl⟩ := hE.iT
      exact Or.inl ⟨_, t, y, rfl⟩
  have HON : Hid (∀ q, o = fla q → oks q → stp q = x → ¬ o.length < (fla (lstM x)).length ∧ (o.length = (fla (lstM x)).length → ltU o (fla (lstM x)) = false)) := fun q h1 h2 h3 => other_not hb hx h1 h2 h3
  have HLES : Hid (Op.bytesLess (bt o).toList (bt (fla (lstM x))).toList = ltU o (fla (lstM x))) := by show _ = _; rw [bt_toList, bt_toList, less_ltU]
  have HEQX : Hid (∀ s, ((bt s).toList == (bt x).toList) = decide (s = x)) := fun s => bt_eqB s x
  have HXX : Hid (x.length ≤ 4 → ∀ W, Calls Tryd.prog 11 #[.string (bt x ++ bt x)] W fun e w' => e = .returned (.tuple #[.string (bt (fla (lstM (x ++ x)))), .nilIface]) ∧ Below W.heap.size W w') := fun h4 W => by
    rw [bt_app]
    exact Least_ok (x ++ x) W (by rw [List.length_append]; omega) (by rw [bitL_app, hb]; rfl)
  have HL5 := Hid.mk' hl5
  have hzq := bt_size (fla (lstM (x ++ x)))
  have hxxB : ((bt x).toList == (bt x).toList) = true := by rw [bt_eqB]; simp
  generalize fla (lstM x) = fp at *
  generalize fla (lstM (x ++ x)) = fq at *
  clear hl1 hl3 hl4 hl5 hE hb
  obtain ⟨nx, hnx⟩ : ∃ nx, nx = x.length := ⟨_, rfl⟩
  obtain ⟨no, hno⟩ : ∃ no, no = o.length := ⟨_, rfl⟩
  obtain ⟨np, hnp⟩ : ∃ np, np = fp.length := ⟨_, rfl⟩
  obtain ⟨nq, hnq⟩ : ∃ nq, nq = fq.length := ⟨_, rfl⟩
  rw [← hnx] at hzx hx hl2 HXX HL5
  rw [← hno] at hzo ho HON
  rw [← hnp] at hzp hl2 HON HL5
  rw [← hnq] at hzq HL5
  clear hnx hno hnp hnq
  generalize hX : bt x = X at *
  generalize hO : bt o = O at *
  generalize bt fp = P at *
  generalize bt fq = Q at *
  clear hX hO
  have i1 : ¬ (8 : Int) < (nx : Int) := by omega
  have i2 : ¬ (40 : Int) < (no : Int) := by omega
  have i3 : ¬ (2 : Int) * (nx : Int) < (np : Int) := by omega
  have i4 : (np : Int) ≤ 100 := by omega
  have i5 : (nx : Int) ≤ 100 := by omega
  have i6 : (no : Int) ≤ 100 := by omega
  go_enter Tryd.func5, Tryd.ntmps5
  go_wp2_with fail
  refine HT.out.mono ?_
  clear HT
  rintro e w1 ⟨rfl, hB1⟩
  have HB1 := Hid.mk' hB1
  clear hB1
  go_wp2_with fail
  refine (HBI.out w1).mono ?_
  clear HBI
  rintro e w2 ⟨rfl, hB2⟩
  have HB2 := Hid.mk' (below_chain HB1.out hB2)
  clear hB2 HB1
  go_wp2_with fail
  refine (HLE.out w2).mono ?_
  clear HLE
  rintro e w3 ⟨rfl, hB3⟩
  have HB3 := Hid.mk' (below_chain HB2.out hB3)
  clear hB3 HB2
  go_wp2_with fail
  refine (HR1.out w3 HB3.out).mono ?_
  clear HR1
  rintro e w4 ⟨rfl, hB4⟩
  have HB4 := Hid.mk' (below_chain HB3.out hB4)
  clear hB4 HB3
  go_wp2_with fail
  refine (HR2.out w4 HB4.out).mono ?_
  clear HR2
  rintro e w5 ⟨hcase, hB5⟩
  have HB5 := Hid.mk' (below_chain HB4.out hB5)
  clear hB5 HB4
  rcases hcase with ⟨s, t, y, rfl⟩ | ⟨q, hq1, hq2, rfl⟩
  · generalize bt s = S at *
    clear HON HLES HEQX
    rcases Nat.lt_or_ge 4 nx with h4 | h4
    · have j1 : (4 : Int) < (nx : Int) := by omega
      go_wp2_with fail
      go_ret
      exact ⟨rfl, HB5.out⟩
    · have j1 : ¬ (4 : Int) < (nx : Int) := by omega
      have HX := Hid.mk' (HXX.out h4 w5)
      have HQ := Hid.mk' (HL5.out h4)
      have hXs : X.size ≤ 8 := by omega
      clear HXX HL5
      go_wp2_with fail
      refine HX.out.mono ?_
      clear HX
      rintro e w6 ⟨rfl, hB6⟩
      have HB6 := Hid.mk' (below_chain HB5.out hB6)
      clear hB6
      have j2 : (nq : Int) ≤ (np : Int) + 3 := by have := HQ.out; omega
      have j3 : (nq : Int) ≤ 1000 := by omega
      go_wp2_with fail
      go_ret
      exact ⟨rfl, HB6.out⟩
  · have heq := HEQX.out (stp q)
    by_cases hsx : stp q = x
    · obtain ⟨hn1, hn2⟩ := HON.out q hq1 hq2 hsx
      rw [decide_eq_true hsx] at heq
      generalize bt (stp q) = S at *
      clear HON HEQX hq1 hq2 hsx
      rcases Nat.lt_or_ge np no with h5 | h5
      · have k1 : ¬ (no : Int) < (np : Int) := by omega
        have k2 : ¬ (no : Int) = (np : Int) := by omega
        have k3 : ((no : Int) == (np : Int)) = false := by simpa using k2
        clear HLES hn1 hn2
        rcases Nat.lt_or_ge 4 nx with h4 | h4
        · have j1 : (4 : Int) < (nx : Int) := by omega
          go_wp2_with fail
          go_ret
          exact ⟨rfl, HB5.out⟩
        · have j1 : ¬ (4 : Int) < (nx : Int) := by omega
          have HX := Hid.mk' (HXX.out h4 w5)
          have HQ := Hid.mk' (HL5.out h4)
          have hXs : X.size ≤ 8 := by omega
          clear HXX HL5
          go_wp2_with fail
          refine HX.out.mono ?_
          clear HX
          rintro e w6 ⟨rfl, hB6⟩
          have HB6 := Hid.mk' (below_chain HB5.out hB6)
          clear hB6
          have j2 : (nq : Int) ≤ (np : Int) + 3 := by have := HQ.out; omega
          have j3 : (nq : Int) ≤ 1000 := by omega
          go_wp2_with fail
          go_ret
          exact ⟨rfl, HB6.out⟩
      · have k0 : np = no := by omega
        have hless := HLES.out
        rw [hn2 k0.symm] at hless
        subst k0
        have k1 : ¬ (np : Int) < (np : Int) := by omega
        clear HLES hn1 hn2
        rcases Nat.lt_or_ge 4 nx with h4 | h4
        · have j1 : (4 : Int) < (nx : Int) := by omega
          go_wp2_with fail
          go_ret
          exact ⟨rfl, HB5.out⟩
        · have j1 : ¬ (4 : Int) < (nx : Int) := by omega
          have HX := Hid.mk' (HXX.out h4 w5)
          have HQ := Hid.mk' (HL5.out h4)
          have hXs : X.size ≤ 8 := by omega
          clear HXX HL5
          go_wp2_with fail
          refine HX.out.mono ?_
          clear HX
          rintro e w6 ⟨rfl, hB6⟩
          have HB6 := Hid.mk' (below_chain HB5.out hB6)
          clear hB6
          have j2 : (nq : Int) ≤ (np : Int) + 3 := by have := HQ.out; omega
          have j3 : (nq : Int) ≤ 1000 := by omega
          go_wp2_with fail
          go_ret
          exact ⟨rfl, HB6.out⟩
    · rw [decide_eq_false hsx] at heq
      generalize bt (stp q) = S at *
      clear HON HLES HEQX hq1 hq2 hsx
      rcases Nat.lt_or_ge 4 nx with h4 | h4
      · have j1 : (4 : Int) < (nx : Int) := by omega
        go_wp2_with fail
        go_ret
        exact ⟨rfl, HB5.out⟩
      · have j1 : ¬ (4 : Int) < (nx : Int) := by omega
        have HX := Hid.mk' (HXX.out h4 w5)
        have HQ := Hid.mk' (HL5.out h4)
        have hXs : X.size ≤ 8 := by omega
        clear HXX HL5
        go_wp2_with fail
        refine HX.out.mono ?_
        clear HX
        rintro e w6 ⟨rfl, hB6⟩
        have HB6 := Hid.mk' (below_chain HB5.out hB6)
        clear hB6
        have j2 : (nq : Int) ≤ (np : Int) + 3 := by have := HQ.out; omega
        have j3 : (nq : Int) ≤ 1000 := by omega
        go_wp2_with fail
        go_ret
        exact ⟨rfl, HB6.out⟩
theorem MachineShort_any (vB vT : Value) (x o : ByteArray) (w : World) (hE : TwoE w vB vT) (hx : x.size ≤ 9223372036854775807) (ho : o.size ≤ 9223372036854775807) :
    Calls Tryd.prog 5 #[.string x, .string o] w fun e w' => e = .returned (.bool true) ∧ Below w.heap.size w w' := by
  rw [← bt_of x, bt_size] at hx
  rw [← bt_of o, bt_size] at ho
  rw [← bt_of x, ← bt_of o]
  generalize x.data.toList = X at *
  generalize o.data.toList = O at *
  by_cases h : 8 < X.length ∨ bitL X = false ∨ 40 < O.length
  · exact Short_head vB vT X O w hE h hx ho
  · have h1 : X.length ≤ 8 := Nat.le_of_not_lt fun e => h (Or.inl e)
    have h2 : O.length ≤ 40 := Nat.le_of_not_lt fun e => h (Or.inr (Or.inr e))
    have h3 : bitL X = true := by
      cases hb : bitL X with
      | true => rfl
      | false => exact absurd (Or.inr (Or.inl hb)) h
    exact Short_main vB vT X O w hE h1 h3 h2
end Go.Proofs.YtdfcipdknfebpaaDoor
