/- The document's PeriodOf. -/
import Derived.Test.YtndjnmnanldgeaaDoorPackA
import Derived.Test.YtndjnmnanldgeaaDoorRows
import Derived.Test.YtndjnmnanldgeaaDoorCode
import Derived.ChangeSame
import Derived.ChangeVars
import Derived.JoinedOf
import Derived.LaidLaws
import Derived.LaidHandle
import Derived.LaidMore
import Derived.Stop.Joined
import Derived.Test.YtndjnmnanldgeaaDoorInts
import Derived.Test.YtndjnmnanldgeaaDoorCards
import Derived.Test.YtndjnmnanldgeaaDoorTie
import Derived.SevenTiedAt
import Derived.ProofKit
import Derived.OpenShut
import Derived.ChangeOld
import Derived.Lib.SmallJoins
import Derived.Deep.Matrix
import Derived.Test.YtndjnmnanldgeaaDoorTab
import Derived.Deep.DeepHandedRow
import Derived.Deep.DeepWitnessRowRef
namespace Go.Proofs.YtndjnmnanldgeaaDoor
open Go.RowKit

theorem docIn_same {c c' : Nat → Nat → Bool} {d d' : Nat → Nat → Int} {x n : Nat} {g : Nat} (hc : ∀ k, k < n → c x k = c' x k) (hd : ∀ k, k < n → c x k = true → d x k = d' x k) : ∀ k, k ≤ n → docIn c d x k g = perIn c' d' x k g
  | 0, _ => rfl
  | k + 1, hk => by
    rw [docIn, perIn, docIn_same hc hd k (by omega), ← hc k (by omega)]
    by_cases h : c x k = true
    · rw [if_pos h, if_pos h, hd k (by omega) h, Int.gcd_comm]
    · rw [if_neg h, if_neg h]
theorem docOut_same {c c' : Nat → Nat → Bool} {d d' : Nat → Nat → Int} {n : Nat} (hc : ∀ x k, x < n → k < n → c x k = c' x k) (hd : ∀ x k, x < n → k < n → c x k = true → d x k = d' x k) : ∀ x, x ≤ n → docOut c d n x = perOut c' d' n x
  | 0, _ => rfl
  | x + 1, hx => by
    rw [docOut, perOut, docOut_same hc hd x (by omega)]
    exact docIn_same (fun k hk => hc x k (by omega) hk) (fun k hk => hd x k (by omega) hk) n (Nat.le_refl n)
theorem perIn_none {c : Nat → Nat → Bool} {d : Nat → Nat → Int} {x n g : Nat} (hc : ∀ k, k < n → c x k = false) : ∀ k, k ≤ n → perIn c d x k g = g
  | 0, _ => rfl
  | k + 1, hk => by rw [perIn, hc k (by omega), perIn_none hc k (by omega)]; rfl
theorem perOut_none {c : Nat → Nat → Bool} {d : Nat → Nat → Int} {n : Nat} (hc : ∀ x k, x < n → k < n → c x k = false) : ∀ x, x ≤ n → perOut c d n x = 0
  | 0, _ => rfl
  | x + 1, hx => by rw [perOut, perOut_none hc x (by omega)]; exact perIn_none (fun k hk => hc x k (by omega) hk) n (Nat.le_refl n)
/-- The same number, where the state comes back. -/
theorem period_same {zs : Nat → Nat → Int} {n i : Nat} (hi : i < n) (hw : war (edge zs) n i i = true) : docOut (docBack (edge zs) n i) (docD (edge zs) n i) n n = perOut (onBack zs n i) (stepD zs n i) n n :=
  docOut_same (fun _ _ _ _ => docBack_of hi hw) (fun x k _ hk hc => by
    have : 0 ≤ lens (edge zs) n i x ∧ edge zs x k = true := by
      rw [docBack_of hi hw] at hc
      simp only [Bool.and_eq_true, decide_eq_true_eq] at hc
      exact hc.1
    exact docD_of hi hk this.1 this.2) n (Nat.le_refl n)
theorem period_none {zs : Nat → Nat → Int} {n i : Nat} (hi : i < n) (hw : war (edge zs) n i i = false) : perOut (onBack zs n i) (stepD zs n i) n n = 0 :=
  perOut_none (fun _ _ _ hk => back_none hi hk hw) n (Nat.le_refl n)
theorem docIn_le {c : Nat → Nat → Bool} {d : Nat → Nat → Int} {x g : Nat} (hg : g ≤ 100) (hd : ∀ k, -100 ≤ d x k ∧ d x k ≤ 100) : ∀ k, docIn c d x k g ≤ 100
  | 0 => hg
  | k + 1 => by
    rw [docIn]; split
    · rw [Int.gcd_comm]; exact gcd_small (docIn_le hg hd k) (hd k)
    · exact docIn_le hg hd k
theorem docOut_le {c : Nat → Nat → Bool} {d : Nat → Nat → Int} {n : Nat} (hd : ∀ x k, -100 ≤ d x k ∧ d x k ≤ 100) : ∀ x, docOut c d n x ≤ 100
  | 0 => by simp [docOut]
  | x + 1 => docIn_le (docOut_le hd x) (hd x) n
theorem up0_le {e : Nat → Nat → Bool} {n i : Nat} (hi : i < n) (a : Nat) : 0 ≤ up0 (lens e n i a) ∧ up0 (lens e n i a) ≤ n := by
  have := lens_bound (e := e) hi a
  unfold up0; split <;> omega
theorem docD_le {e : Nat → Nat → Bool} {n i : Nat} (hn : n ≤ 8) (hi : i < n) (x k : Nat) : -100 ≤ docD e n i x k ∧ docD e n i x k ≤ 100 := by
  have h1 := up0_le (e := e) hi x
  have h2 := up0_le (e := e) hi k
  unfold docD; omega
theorem own_setLow {w : World} {base : Nat} {t : TypeId} {sz : Nat} {v : Value} {n : Nat} {xs : List Value} {p : Addr} {x : Value} (h : w.ownsRow base t sz v n xs) (hp : p.block < base) : (w.setCell p x).ownsRow base t sz v n xs := by
  obtain ⟨hl, hr⟩ := h
  refine ⟨hl, ?_⟩
  rcases hr with hr | ⟨g, cap, cur, hv, hb1, hh, rest⟩
  · exact Or.inl hr
  · exact Or.inr ⟨g, cap, cur, hv, hb1, (Below.heap_setCell _ _ _ _ (by omega)).trans hh, rest⟩
theorem push_above {B : Nat} {wr w3 : World} {v : Value} {e : TypeId} {size n : Nat} {xs : List Value} {X : Obj} (hB : B ≤ wr.heap.size) (hR : wr.ownsRow B e size v n xs) (hg : (wr.alloc X).grownBy w3 v.ownBlock) : Below B wr w3 :=
  ((Below.refl _ _).alloc hB _).grown hg (by simp; omega) (fun k e => (hR.lt k e).1)
theorem ret_nat {a b : Nat} (h : a = b) : Ending.returned (.int .i64 (a : Int)) = .returned (.int .i64 (b : Int)) := by rw [h]
theorem seen_in {e : Nat → Nat → Bool} {n i : Nat} (hi : i < n) (a : Nat) : decide (a ∈ (seen e n i n).q) = decide (0 ≤ lens e n i a) := by
  have h := (seen_ok (e := e) hi n).1
  by_cases hm : a ∈ (seen e n i n).q
  · rw [decide_eq_true hm, decide_eq_true (show 0 ≤ lens e n i a from (h.yes a hm).1)]
  · rw [decide_eq_false hm, decide_eq_false]
    have := h.no a hm
    unfold lens; omega

set_option maxRecDepth 100000 in
set_option maxHeartbeats 8000000 in
theorem PeriodOf_any (v : Value) (n i : Nat) (zs : Nat → Nat → Int) (w : World) (h : RowsAt w v n zs) (hn : n ≤ 8) (hi : i < n) :
    Calls Tryd.prog 7 #[v, .int .i64 i] w fun e w' => e = .returned (.int .i64 (perOut (onBack zs n i) (stepD zs n i) n n : Nat)) ∧ Below w.heap.size w w' := by
  obtain ⟨i0, hii, hz0, hz1, hz2⟩ := info_parts Tryd.infoInt
  have HINF : Hid (Tryd.prog.info? 3 = some i0 ∧ i0.zero = some (.int .i64 0) ∧ i0.size = 1 ∧ i0.bytes = 8) := ⟨hii, hz0, hz1, hz2⟩
  clear hii hz0 hz1 hz2
  have HV : Hid (∀ W, Below w.heap.size w W → RowsAt W v n zs) := fun W hb => h.later hb
  have hfr := From_any v n i (-1) zs w h hn hi
  obtain ⟨b, o, cap, rfl, hr⟩ := h
  have HR : Hid (∀ W, Below w.heap.size w W → ∀ i, i < n → ∃ b1 o1 cap1, W.cell? ⟨b, o + i, none⟩ = some (.slice (some ⟨b1, o1, none⟩) n cap1) ∧ ∀ k, k < n → W.cell? ⟨b1, o1 + k, none⟩ = some (.int .i64 (zs i k))) := fun W hb i hi => by
    obtain ⟨b1, o1, c1, h1, h2⟩ := hr i hi
    exact ⟨b1, o1, c1, by rw [hb.cell (cell_lt h1)]; exact h1, fun k hk => by rw [hb.cell (cell_lt (h2 k hk))]; exact h2 k hk⟩
  clear hr
  have hin : (i : Int) < (n : Int) := by omega
  have hi0 : (0 : Int) ≤ (i : Int) := by omega
  go_enter Tryd.func7, Tryd.ntmps7
  go_wp2_with fail
  refine hfr.mono ?_
  clear hfr
  rintro e w1 ⟨r1, l1, rfl, hs1, _, hf1, hl1, hb1⟩
  have hcn := Contains_any r1 l1 i w1 hs1 (by omega)
  rw [mem_war hi hi hf1] at hcn
  have HB1 := Hid.mk' hb1
  clear hs1 hf1 hl1 hb1
  cases hwi : war (edge zs) n i i with
  | false =>
    have HP := Hid.mk' (period_none hi hwi)
    rw [hwi] at hcn
    clear hwi
    go_wp2_with fail
    refine hcn.mono ?_
    clear hcn
    rintro e w2 ⟨rfl, hw2⟩
    rw [hw2]
    clear hw2
    go_wp2_with fail
    go_ret
    exact ⟨by rw [HP.out]; rfl, HB1.out⟩
  | true =>
    have HP := Hid.mk' (period_same hi hwi)
    rw [hwi] at hcn
    clear hwi
    go_wp2_with fail
    refine hcn.mono ?_
    clear hcn
    rintro e w2 ⟨rfl, hw2⟩
    rw [hw2]
    clear hw2
    go_wp2_with (first
      | (at_make; go_must (refine wpList_make_full _ rfl _ _ _ rfl w1.heap.size 3 i0 _ 1 Tryd.underlying37 HINF.out.1 HINF.out.2.1 HINF.out.2.2.1 .i64 .i64 _ _ n rfl rfl rfl rfl (by rw [HINF.out.2.2.2]; omega) (by unfold maxLen; omega) (Nat.le_refl _) ?_; intro w3 hown3 hgrow3; have HF3 := Hid.mk' (fills_made hown3 (made_zero n) hgrow3); clear hown3 hgrow3; have hszw : w1.heap.size < w3.heap.size := cell_lt (HF3.out.row i hi); have HN3 : Hid (w3.ownsRow (w1.heap.size + 1) 3 1 (.slice none 0 0) 0 []) := ⟨rfl, Or.inl ⟨rfl, rfl⟩⟩))
      | (at_builtin; go_must (refine wpList_append_lies _ rfl _ _ _ rfl (w1.heap.size + 1) 3 i0 _ 1 8 Tryd.underlying37 HINF.out.1 HINF.out.2.1 HINF.out.2.2.1 HINF.out.2.2.2 rfl (by omega) _ _ _ rfl (HN3.out.alloc _) ⟨w3.heap.size, 0, none⟩ 1 1 [.int .i64 (i : Int)] rfl rfl (one_new _ _ _) (by simp [Value.oneCell']) (by omega) (by unfold maxLen; omega) (by omega) (by simp; omega) _ rfl ?_; intro g' cap2 w4 hown4 hgrow4 hat4 hlt4; have HO4 := Hid.mk' hown4; have HF4 := Hid.mk' (HF3.out.past (push_above (by omega) HN3.out hgrow4)); clear hown4 hgrow4 hat4)))
    clear HF3 HN3
    go_loopw [8, 9] (fun u t wr => ∃ s : Nat, s ≤ (seen (edge zs) n i s).q.length ∧ t = .int .i64 s ∧ Hid (wr.ownsRow (w1.heap.size + 1) 3 1 u (seen (edge zs) n i s).q.length (cellL (natL (seen (edge zs) n i s).q))) ∧ Hid (Fills w1 wr w1.heap.size n (fun j => up0 ((seen (edge zs) n i s).L j)))) (fun _ t _ => n - (intOf t).toNat)
    case atStart =>
      refine ⟨0, by simp, rfl, by simpa [seen, natL, cellL] using HO4, HF4.out.congrF fun j _ => ?_⟩
      show (0 : Int) = up0 (if j = i then 0 else -1)
      split <;> simp [up0]
    case round =>
      clear HO4 HF4
      obtain ⟨s, hs, rfl, HO, HF⟩ := hrel
      have hok := seen_ok (e := edge zs) hi s
      have hlen := hok.1.len
      obtain ⟨ua, uc, hue, _⟩ := row_shape HO.out
      subst hue
      rcases Nat.lt_or_ge s (seen (edge zs) n i s).q.length with h2 | h2
      · obtain ⟨S, hS⟩ : ∃ S, S = seen (edge zs) n i s := ⟨_, rfl⟩
        rw [← hS] at hok HO HF h2 hlen hs ⊢
        have hxm : S.q[s] ∈ S.q := List.getElem_mem h2
        obtain ⟨x, hx⟩ : ∃ x, x = S.q[s] := ⟨_, rfl⟩
        rw [← hx] at hxm
        have hxn : x < n := hok.1.lt x hxm
        have hnext : seen (edge zs) n i (s + 1) = look (edge zs) x n S := by
          rw [seen, ← hS, if_pos h2, hx]
          simp [List.getD, h2]
        have HOK := Hid.mk' hok.1
        have HXM := Hid.mk' hxm
        have HX := Hid.mk' hx
        have HN := Hid.mk' hnext
        clear hok hxm hx hnext hS
        have hsl : (s : Int) < (S.q.length : Int) := by omega
        have hs0 : (0 : Int) ≤ (s : Int) := by omega
        have hx0 : (0 : Int) ≤ (x : Int) := by omega
        have hxI : (x : Int) < (n : Int) := by omega
        go_wp2_with fail
        obtain ⟨Wr, hWr⟩ : ∃ Wr, Wr = wr := ⟨_, rfl⟩
        rw [← hWr] at HO HF ⊢
        clear hWr
        go_loopw [8, 10] (fun u t wr => ∃ k : Nat, k ≤ n ∧ t = .int .i64 k ∧ Hid (wr.ownsRow (w1.heap.size + 1) 3 1 u (look (edge zs) x k S).q.length (cellL (natL (look (edge zs) x k S).q))) ∧ Hid (Fills w1 wr w1.heap.size n (fun j => up0 ((look (edge zs) x k S).L j)))) (fun _ t _ => n - (intOf t).toNat)
        case atStart => exact ⟨0, Nat.zero_le _, rfl, HO, HF⟩
        case round =>
          clear HO HF
          obtain ⟨k, hk, rfl, HO, HF⟩ := hrel
          obtain ⟨ua, uc, hue, _⟩ := row_shape HO.out
          subst hue
          rcases Nat.lt_or_ge k n with h3 | h3
          · have hkI : (k : Int) < (n : Int) := by omega
            have hk0 : (0 : Int) ≤ (k : Int) := by omega
            obtain ⟨hlk, ⟨rr, hrr⟩, hlx, _⟩ := look_ok HOK.out HXM.out k (by omega)
            have hln := hlk.len
            have hsl2 : s < (look (edge zs) x k S).q.length := by rw [hrr]; simp; omega
            have hsI : (s : Int) < ((look (edge zs) x k S).q.length : Int) := by omega
            have hst := statesAt_row HO.out
            have hcon := Contains_any _ (look (edge zs) x k S).q k wr hst (by omega)
            obtain ⟨gb, go, hgo, y0⟩ : ∃ gb go, ua = some ⟨gb, go, none⟩ ∧ wr.cell? ⟨gb, go + s, none⟩ = some (.int .i64 (x : Int)) := by
              rcases hst with ⟨_, _, _, h0⟩ | ⟨b, o, c, h5, _, h4⟩
              · omega
              · simp only [Value.slice.injEq, true_and] at h5
                refine ⟨b, o, h5.1, ?_⟩
                have := h4 s hsl2
                rw [this]
                show some (Value.int .i64 (((look (edge zs) x k S).q.getD s 0 : Nat) : Int)) = _
                rw [hrr, List.getD_eq_getElem?_getD, List.getElem?_append_left h2, List.getElem?_eq_getElem h2, HX.out]
                rfl
            subst hgo
            obtain ⟨b1, o1, cap1, y1, hr1⟩ := HR.out wr (below_chain HB1.out HF.out.below) x hxn
            have y2 := hr1 k h3
            have y3 := HF.out.row x hxn
            have y4 := HF.out.row k h3
            have hfz := HF.out.fz k h3
            rw [Nat.zero_add] at y3 y4 hfz
            have hLx : 0 ≤ S.L x ∧ S.L x ≤ 8 := by have := HOK.out.yes x HXM.out; omega
            rw [show up0 ((look (edge zs) x k S).L x) = S.L x by rw [hlx, up0_of hLx.1]] at y3
            have hszr : w1.heap.size < wr.heap.size := cell_lt y3
            have hup := up0_ge ((look (edge zs) x k S).L k)
            clear hr1 hst
            by_cases hp : 0 < zs x k
            · have hedge : edge zs x k = true := by unfold edge; exact decide_eq_true hp
              by_cases hmem : k ∈ (look (edge zs) x k S).q
              · rw [decide_eq_true hmem] at hcon
                have HLK : Hid (look (edge zs) x (k + 1) S = look (edge zs) x k S) := by show _ = _; rw [look, if_neg (fun h => ((hlk.neg k).1 h.2) hmem)]
                clear hmem hedge hlk hlx hrr hup
                generalize zs x k = z at y2 hp
                generalize up0 ((look (edge zs) x k S).L k) = y at y4
                generalize S.L x = y5 at y3 hLx
                go_wp2_with fail
                refine hcon.mono ?_
                clear hcon
                rintro e w5 ⟨rfl, hw5⟩
                rw [hw5]
                clear hw5
                go_wp2_with fail
                exact ⟨⟨k + 1, h3, by go_num, by rw [HLK.out]; exact HO, by rw [HLK.out]; exact HF⟩, by simp [intOf]; omega⟩
              · rw [decide_eq_false hmem] at hcon
                have HLK : Hid (look (edge zs) x (k + 1) S = ⟨(look (edge zs) x k S).q ++ [k], fun j => if j = k then (look (edge zs) x k S).L x + 1 else (look (edge zs) x k S).L j⟩) := by show _ = _; rw [look, if_pos ⟨hedge, (hlk.neg k).2 hmem⟩]
                have HSET := Hid.mk' (HF.out.set h3 (S.L x + 1) (f' := fun j => up0 ((look (edge zs) x (k + 1) S).L j)) (fun c hc => by
                  rw [HLK.out]
                  show up0 (if c = k then _ else _) = _
                  by_cases hck : c = k
                  · rw [if_pos hck, if_pos hck, hlx, up0_of (by omega)]
                  · rw [if_neg hck, if_neg hck]))
                have HOS : Hid ((wr.setCell ⟨w1.heap.size, k, none⟩ (.int .i64 (S.L x + 1))).ownsRow (w1.heap.size + 1) 3 1 (.slice (some ⟨gb, go, none⟩) (look (edge zs) x k S).q.length uc) (look (edge zs) x k S).q.length (cellL (natL (look (edge zs) x k S).q))) := own_setLow HO.out (by show w1.heap.size < w1.heap.size + 1; omega)
                have HOP : Hid (∀ (W : World) (v : Value), W.ownsRow (w1.heap.size + 1) 3 1 v ((look (edge zs) x k S).q.length + 1) (cellL (natL (look (edge zs) x k S).q) ++ [.int .i64 (k : Int)]) → W.ownsRow (w1.heap.size + 1) 3 1 v (look (edge zs) x (k + 1) S).q.length (cellL (natL (look (edge zs) x (k + 1) S).q))) := fun W v hW => by rw [HLK.out]; show W.ownsRow _ _ _ _ ((look (edge zs) x k S).q ++ [k]).length (cellL (natL ((look (edge zs) x k S).q ++ [k]))); rw [natL_push]; simpa using hW
                clear hmem hedge hlk hlx hrr hup HLK HO HF
                generalize zs x k = z at y2 hp
                generalize up0 ((look (edge zs) x k S).L k) = y at y4
                generalize S.L x = y5 at y3 hLx HSET HOS
                generalize (look (edge zs) x k S).q.length = ql at *
                go_wp2_with fail
                refine hcon.mono ?_
                clear hcon
                rintro e w5 ⟨rfl, hw5⟩
                rw [hw5]
                clear hw5
                go_wp2_with (at_builtin; go_must (refine wpList_append_lies _ rfl _ _ _ rfl (w1.heap.size + 1) 3 i0 _ 1 8 Tryd.underlying37 HINF.out.1 HINF.out.2.1 HINF.out.2.2.1 HINF.out.2.2.2 rfl (by omega) _ _ _ rfl (HOS.out.alloc _) ⟨wr.heap.size, 0, none⟩ 1 1 [.int .i64 (k : Int)] rfl rfl (by simpa using one_new (wr.setCell ⟨w1.heap.size, k, none⟩ (.int .i64 (y5 + 1))) (.int .i64 (k : Int)) 3) (by simp [Value.oneCell']) (by omega) (by unfold maxLen; omega) (by omega) (by simp; omega) _ rfl ?_; intro g' cap2 w6 hown6 hgrow6 hat6 hlt6; have HO6 := Hid.mk' (HOP.out _ _ hown6); have HF6 := Hid.mk' (HSET.out.past (push_above (by simp; omega) HOS.out hgrow6)); clear hown6 hgrow6 hat6))
                exact ⟨⟨k + 1, h3, by go_num, HO6, HF6⟩, by simp [intOf]; omega⟩
            · have HLK : Hid (look (edge zs) x (k + 1) S = look (edge zs) x k S) := by show _ = _; rw [look, if_neg (fun h => hp (by simpa [edge] using h.1))]
              clear hlk hlx hrr hup
              generalize decide (k ∈ (look (edge zs) x k S).q) = q at hcon
              have hp' : zs x k ≤ 0 := by omega
              clear hp
              generalize zs x k = z at y2 hp'
              generalize up0 ((look (edge zs) x k S).L k) = y at y4
              generalize S.L x = y5 at y3 hLx
              go_wp2_with fail
              refine hcon.mono ?_
              clear hcon
              rintro e w5 ⟨rfl, hw5⟩
              rw [hw5]
              clear hw5
              go_wp2_with fail
              exact ⟨⟨k + 1, h3, by go_num, by rw [HLK.out]; exact HO, by rw [HLK.out]; exact HF⟩, by simp [intOf]; omega⟩
          · obtain rfl : n = k := by omega
            have hl2 := look_le HOK.out HXM.out (Nat.le_refl n)
            go_wp2_with fail
            exact ⟨⟨s + 1, by rw [HN.out]; omega, by go_num, by rw [HN.out]; exact HO, by rw [HN.out]; exact HF⟩, by simp [intOf]; omega⟩
      · have hlast : seen (edge zs) n i s = seen (edge zs) n i n := seen_last hi h2
        have hsq : s = (seen (edge zs) n i s).q.length := by omega
        rw [hlast] at HO HF hsq hlen ⊢
        clear hok hs h2 hlast
        have hsI : ¬ ((s : Int) < ((seen (edge zs) n i n).q.length : Int)) := by omega
        clear hsq
        have HST := Hid.mk' (statesAt_row HO.out)
        have HFD : Hid (RowAt wr w1.heap.size 0 n (fun j => up0 (lens (edge zs) n i j))) := HF.out.row
        have HBW := Hid.mk' (below_chain HB1.out HF.out.below)
        have HIN := Hid.mk' (seen_in (e := edge zs) hi)
        clear HO HF
        generalize (seen (edge zs) n i n).q = Q at *
        go_wp2_with fail
        obtain ⟨W, hW⟩ : ∃ W, W = wr := ⟨_, rfl⟩
        rw [← hW] at HST HFD HBW ⊢
        clear hW
        go_loopw [12, 13] (fun gg t wr => ∃ a : Nat, a ≤ n ∧ t = .int .i64 a ∧ gg = .int .i64 (docOut (docBack (edge zs) n i) (docD (edge zs) n i) n a : Nat) ∧ Hid (Below W.heap.size W wr)) (fun _ t _ => n - (intOf t).toNat)
        case atStart => exact ⟨0, Nat.zero_le _, rfl, rfl, Below.refl _ _⟩
        case round =>
          obtain ⟨a, ha, rfl, rfl, HB⟩ := hrel
          rcases Nat.lt_or_ge a n with h3 | h3
          · have haI : (a : Int) < (n : Int) := by omega
            have ha0 : (0 : Int) ≤ (a : Int) := by omega
            have hgo := docOut_le (c := docBack (edge zs) n i) (n := n) (docD_le (e := edge zs) hn hi) a
            have HGD : Hid (docOut (docBack (edge zs) n i) (docD (edge zs) n i) n (a + 1) = docIn (docBack (edge zs) n i) (docD (edge zs) n i) a n (docOut (docBack (edge zs) n i) (docD (edge zs) n i) n a)) := rfl
            generalize docOut (docBack (edge zs) n i) (docD (edge zs) n i) n a = G0 at *
            go_wp2_with fail
            go_loopw [12, 14] (fun gg t wr => ∃ b : Nat, b ≤ n ∧ t = .int .i64 b ∧ gg = .int .i64 (docIn (docBack (edge zs) n i) (docD (edge zs) n i) a b G0 : Nat) ∧ Hid (Below W.heap.size W wr)) (fun _ t _ => n - (intOf t).toNat)
            case atStart => exact ⟨0, Nat.zero_le _, rfl, rfl, HB⟩
            case round =>
              clear HB
              obtain ⟨m, hm, rfl, rfl, HB⟩ := hrel
              rcases Nat.lt_or_ge m n with h4 | h4
              · have hmI : (m : Int) < (n : Int) := by omega
                have hm0 : (0 : Int) ≤ (m : Int) := by omega
                have hgi := docIn_le (c := docBack (edge zs) n i) (x := a) hgo (docD_le (e := edge zs) hn hi a) m
                have hcon := Contains_any _ Q a wr (HST.out.later HB.out) (by omega)
                rw [HIN.out a] at hcon
                obtain ⟨b1, o1, cap1, y1, hr1⟩ := HR.out wr (below_chain HBW.out HB.out) a h3
                have y2 := hr1 m h4
                have hfr := From_any _ n m (-1) zs wr (HV.out _ (below_chain HBW.out HB.out)) hn h4
                have hua := up0_le (e := edge zs) hi a
                have hum := up0_le (e := edge zs) hi m
                have HD : Hid (docD (edge zs) n i a m = up0 (lens (edge zs) n i a) + 1 - up0 (lens (edge zs) n i m)) := rfl
                have HC : Hid (docBack (edge zs) n i a m = ((decide (0 ≤ lens (edge zs) n i a) && edge zs a m) && (war (edge zs) n m i || decide (m = i)))) := rfl
                have HLR := Hid.mk' (HFD.out.later HB.out)
                clear hr1
                by_cases hla : 0 ≤ lens (edge zs) n i a
                · by_cases hp : 0 < zs a m
                  · rw [decide_eq_true hla] at hcon
                    have hed : edge zs a m = true := by unfold edge; exact decide_eq_true hp
                    cases hwm : war (edge zs) n m i with
                    | true =>
                      have HG : Hid (docIn (docBack (edge zs) n i) (docD (edge zs) n i) a (m + 1) G0 = Int.gcd (up0 (lens (edge zs) n i a) + 1 - up0 (lens (edge zs) n i m)) (docIn (docBack (edge zs) n i) (docD (edge zs) n i) a m G0 : Nat)) := by show _ = _; rw [docIn, if_pos (by rw [HC.out]; rw [decide_eq_true hla, hed, hwm]; rfl), HD.out]
                      clear HC HD hed
                      generalize docIn (docBack (edge zs) n i) (docD (edge zs) n i) a m G0 = G1 at *
                      go_wp2_with fail
                      refine hcon.mono ?_
                      clear hcon
                      rintro e w5 ⟨rfl, hw5⟩
                      rw [hw5]
                      clear hw5
                      go_wp2_with fail
                      refine hfr.mono ?_
                      clear hfr
                      rintro e w6 ⟨r6, l6, rfl, hs6, _, hf6, hl6, hb6⟩
                      have hcon := Contains_any r6 l6 i w6 hs6 (by omega)
                      rw [mem_war h4 hi hf6] at hcon
                      have HB6 := Hid.mk' (below_chain HB.out hb6)
                      clear hs6 hf6 hl6 hb6
                      rw [hwm] at hcon
                      clear hwm
                      have HLR6 : Hid (RowAt w6 w1.heap.size 0 n (fun j => up0 (lens (edge zs) n i j))) := HFD.out.later HB6.out
                      have y3 : w6.cell? ⟨w1.heap.size, a, none⟩ = some (.int .i64 (up0 (lens (edge zs) n i a))) := by have := HLR6.out a h3; rwa [Nat.zero_add] at this
                      have y4 : w6.cell? ⟨w1.heap.size, m, none⟩ = some (.int .i64 (up0 (lens (edge zs) n i m))) := by have := HLR6.out m h4; rwa [Nat.zero_add] at this
                      generalize up0 (lens (edge zs) n i a) = y at *
                      generalize up0 (lens (edge zs) n i m) = y5 at *
                      generalize zs a m = z at *
                      go_wp2_with fail
                      refine hcon.mono ?_
                      clear hcon
                      rintro e w7 ⟨rfl, hw7⟩
                      rw [hw7]
                      clear hw7
                      go_wp2_with (go_quiet ((go_at_call 17; exact Calls.quiet_of (gcd_any _ _ _ (by omega) (by omega) (by omega) (by omega)))))
                      exact ⟨⟨m + 1, h4, by go_num, by rw [HG.out], below_drewN HB6.out nq⟩, by simp [intOf]; omega⟩
                    | false =>
                      by_cases hmi : m = i
                      · have hbi : ((m : Int) == (i : Int)) = true := by rw [hmi]; simp
                        have HG : Hid (docIn (docBack (edge zs) n i) (docD (edge zs) n i) a (m + 1) G0 = Int.gcd (up0 (lens (edge zs) n i a) + 1 - up0 (lens (edge zs) n i m)) (docIn (docBack (edge zs) n i) (docD (edge zs) n i) a m G0 : Nat)) := by show _ = _; rw [docIn, if_pos (by rw [HC.out]; rw [decide_eq_true hla, hed, hwm, decide_eq_true hmi]; rfl), HD.out]
                        clear HC HD hed hmi
                        generalize docIn (docBack (edge zs) n i) (docD (edge zs) n i) a m G0 = G1 at *
                        go_wp2_with fail
                        refine hcon.mono ?_
                        clear hcon
                        rintro e w5 ⟨rfl, hw5⟩
                        rw [hw5]
                        clear hw5
                        go_wp2_with fail
                        refine hfr.mono ?_
                        clear hfr
                        rintro e w6 ⟨r6, l6, rfl, hs6, _, hf6, hl6, hb6⟩
                        have hcon := Contains_any r6 l6 i w6 hs6 (by omega)
                        rw [mem_war h4 hi hf6] at hcon
                        have HB6 := Hid.mk' (below_chain HB.out hb6)
                        clear hs6 hf6 hl6 hb6
                        rw [hwm] at hcon
                        clear hwm
                        have HLR6 : Hid (RowAt w6 w1.heap.size 0 n (fun j => up0 (lens (edge zs) n i j))) := HFD.out.later HB6.out
                        have y3 : w6.cell? ⟨w1.heap.size, a, none⟩ = some (.int .i64 (up0 (lens (edge zs) n i a))) := by have := HLR6.out a h3; rwa [Nat.zero_add] at this
                        have y4 : w6.cell? ⟨w1.heap.size, m, none⟩ = some (.int .i64 (up0 (lens (edge zs) n i m))) := by have := HLR6.out m h4; rwa [Nat.zero_add] at this
                        generalize up0 (lens (edge zs) n i a) = y at *
                        generalize up0 (lens (edge zs) n i m) = y5 at *
                        generalize zs a m = z at *
                        go_wp2_with fail
                        refine hcon.mono ?_
                        clear hcon
                        rintro e w7 ⟨rfl, hw7⟩
                        rw [hw7]
                        clear hw7
                        go_wp2_with (go_quiet ((go_at_call 17; exact Calls.quiet_of (gcd_any _ _ _ (by omega) (by omega) (by omega) (by omega)))))
                        exact ⟨⟨m + 1, h4, by go_num, by rw [HG.out], below_drewN HB6.out nq⟩, by simp [intOf]; omega⟩
                      · have hbi : ((m : Int) == (i : Int)) = false := by rw [beq_eq_false_iff_ne]; omega
                        have HG : Hid (docIn (docBack (edge zs) n i) (docD (edge zs) n i) a (m + 1) G0 = docIn (docBack (edge zs) n i) (docD (edge zs) n i) a m G0) := by show _ = _; rw [docIn, if_neg (by rw [HC.out]; simp [hla, hed, hwm, hmi])]
                        clear HC HD hed hmi
                        generalize docIn (docBack (edge zs) n i) (docD (edge zs) n i) a m G0 = G1 at *
                        go_wp2_with fail
                        refine hcon.mono ?_
                        clear hcon
                        rintro e w5 ⟨rfl, hw5⟩
                        rw [hw5]
                        clear hw5
                        go_wp2_with fail
                        refine hfr.mono ?_
                        clear hfr
                        rintro e w6 ⟨r6, l6, rfl, hs6, _, hf6, hl6, hb6⟩
                        have hcon := Contains_any r6 l6 i w6 hs6 (by omega)
                        rw [mem_war h4 hi hf6] at hcon
                        have HB6 := Hid.mk' (below_chain HB.out hb6)
                        clear hs6 hf6 hl6 hb6
                        rw [hwm] at hcon
                        clear hwm
                        have HLR6 : Hid (RowAt w6 w1.heap.size 0 n (fun j => up0 (lens (edge zs) n i j))) := HFD.out.later HB6.out
                        have y3 : w6.cell? ⟨w1.heap.size, a, none⟩ = some (.int .i64 (up0 (lens (edge zs) n i a))) := by have := HLR6.out a h3; rwa [Nat.zero_add] at this
                        have y4 : w6.cell? ⟨w1.heap.size, m, none⟩ = some (.int .i64 (up0 (lens (edge zs) n i m))) := by have := HLR6.out m h4; rwa [Nat.zero_add] at this
                        generalize up0 (lens (edge zs) n i a) = y at *
                        generalize up0 (lens (edge zs) n i m) = y5 at *
                        generalize zs a m = z at *
                        go_wp2_with fail
                        refine hcon.mono ?_
                        clear hcon
                        rintro e w7 ⟨rfl, hw7⟩
                        rw [hw7]
                        clear hw7
                        go_wp2_with fail
                        exact ⟨⟨m + 1, h4, by go_num, by rw [HG.out], HB6⟩, by simp [intOf]; omega⟩

                  · rw [decide_eq_true hla] at hcon
                    have hed : edge zs a m = false := by unfold edge; exact decide_eq_false hp
                    have hp' : zs a m ≤ 0 := by omega
                    clear hp
                    have HG : Hid (docIn (docBack (edge zs) n i) (docD (edge zs) n i) a (m + 1) G0 = docIn (docBack (edge zs) n i) (docD (edge zs) n i) a m G0) := by show _ = _; rw [docIn, if_neg (by rw [HC.out]; simp [hed])]
                    clear HC HD HLR hed
                    generalize zs a m = z at *
                    generalize docIn (docBack (edge zs) n i) (docD (edge zs) n i) a m G0 = G1 at *
                    go_wp2_with fail
                    refine hcon.mono ?_
                    clear hcon
                    rintro e w5 ⟨rfl, hw5⟩
                    rw [hw5]
                    clear hw5
                    go_wp2_with fail
                    refine hfr.mono ?_
                    clear hfr
                    rintro e w6 ⟨r6, l6, rfl, hs6, _, hf6, hl6, hb6⟩
                    have hcon := Contains_any r6 l6 i w6 hs6 (by omega)
                    rw [mem_war h4 hi hf6] at hcon
                    have HB6 := Hid.mk' (below_chain HB.out hb6)
                    clear hs6 hf6 hl6 hb6
                    cases hwm : war (edge zs) n m i with
                    | true =>
                      rw [hwm] at hcon
                      go_wp2_with fail
                      refine hcon.mono ?_
                      clear hcon
                      rintro e w7 ⟨rfl, hw7⟩
                      rw [hw7]
                      clear hw7
                      go_wp2_with fail
                      exact ⟨⟨m + 1, h4, by go_num, by rw [HG.out], HB6⟩, by simp [intOf]; omega⟩
                    | false =>
                      rw [hwm] at hcon
                      go_wp2_with fail
                      refine hcon.mono ?_
                      clear hcon
                      rintro e w7 ⟨rfl, hw7⟩
                      rw [hw7]
                      clear hw7
                      go_wp2_with fail
                      exact ⟨⟨m + 1, h4, by go_num, by rw [HG.out], HB6⟩, by simp [intOf]; omega⟩

                · rw [decide_eq_false hla] at hcon
                  have HG : Hid (docIn (docBack (edge zs) n i) (docD (edge zs) n i) a (m + 1) G0 = docIn (docBack (edge zs) n i) (docD (edge zs) n i) a m G0) := by show _ = _; rw [docIn, if_neg (by rw [HC.out]; simp [hla])]
                  clear HC HD HLR
                  generalize zs a m = z at *
                  generalize docIn (docBack (edge zs) n i) (docD (edge zs) n i) a m G0 = G1 at *
                  go_wp2_with fail
                  refine hcon.mono ?_
                  clear hcon
                  rintro e w5 ⟨rfl, hw5⟩
                  rw [hw5]
                  clear hw5
                  go_wp2_with fail
                  refine hfr.mono ?_
                  clear hfr
                  rintro e w6 ⟨r6, l6, rfl, hs6, _, hf6, hl6, hb6⟩
                  have hcon := Contains_any r6 l6 i w6 hs6 (by omega)
                  rw [mem_war h4 hi hf6] at hcon
                  have HB6 := Hid.mk' (below_chain HB.out hb6)
                  clear hs6 hf6 hl6 hb6
                  cases hwm : war (edge zs) n m i with
                  | true =>
                    rw [hwm] at hcon
                    go_wp2_with fail
                    refine hcon.mono ?_
                    clear hcon
                    rintro e w7 ⟨rfl, hw7⟩
                    rw [hw7]
                    clear hw7
                    go_wp2_with fail
                    exact ⟨⟨m + 1, h4, by go_num, by rw [HG.out], HB6⟩, by simp [intOf]; omega⟩
                  | false =>
                    rw [hwm] at hcon
                    go_wp2_with fail
                    refine hcon.mono ?_
                    clear hcon
                    rintro e w7 ⟨rfl, hw7⟩
                    rw [hw7]
                    clear hw7
                    go_wp2_with fail
                    exact ⟨⟨m + 1, h4, by go_num, by rw [HG.out], HB6⟩, by simp [intOf]; omega⟩

              · obtain rfl : n = m := by omega
                go_wp2_with fail
                exact ⟨⟨a + 1, h3, by go_num, by rw [HGD.out], HB⟩, by simp [intOf]; omega⟩
          · obtain rfl : n = a := by omega
            go_wp2_with fail
            go_ret
            exact ⟨ret_nat HP.out, below_chain HBW.out HB.out⟩
end Go.Proofs.YtndjnmnanldgeaaDoor

/- The law ChainPeriod. -/
namespace Go.Proofs.YtndjnmnanldgeaaDoor
open Go.RowKit

set_option maxRecDepth 100000 in
set_option maxHeartbeats 4000000 in
theorem ChainPeriod_all (a : Nat → Addr) (ad : Option Addr) (n cap : Nat) (vs : Nat → Value) (ns : Nat → Nat) (zs : Nat → Nat → Int) (i : Int) (w : World) (hE : Errs w a) (h : TabAt w (.slice ad n cap) n vs ns zs) (hm : n ≤ maxLen) (hs : sumT ns n ≤ 2000000) :
    Calls Tryd.prog 3 #[.slice ad n cap, .int .i64 i] w fun e w' => e = .returned (.bool true) ∧ Below w.heap.size w w' := by
  have hC := swap_any a w hE
  by_cases hf : n ≤ 40 ∧ sumT ns n ≤ 400
  · have HFW : Hid (∀ W, Below w.heap.size w W → Calls Tryd.prog 5 #[.slice ad n cap] W fun e w' => e = .returned (.bool true) ∧ Below W.heap.size W w') := fun W hb => few_any _ n vs ns zs W (h.later hb) hm hs true ⟨fun _ => hf, fun _ => rfl⟩
    have HK : Hid (∀ W, Below w.heap.size w W → TabAt W (.slice ad n cap) n vs ns zs) := fun W hb => h.later hb
    obtain ⟨hf1, hf2⟩ := hf
    have HTE : Hid (∀ W, Below w.heap.size w W → Calls Tryd.prog 6 #[.slice ad n cap] W fun e w' => e = .returned (.int .i64 (chainErr n ns zs : Nat)) ∧ w' = W) := fun W hb => ChainError_any _ n vs ns zs W (h.later hb) (by omega) (fun i hi => by have := sumT_at (ns := ns) hi; omega)
    by_cases hst : stateErr n ns zs i = 0
    · obtain ⟨hc, hi0, hin⟩ : chainErr n ns zs = 0 ∧ 0 ≤ i ∧ i < (n : Int) := by
        unfold stateErr at hst
        by_cases hc : chainErr n ns zs = 0
        · rw [if_pos hc] at hst
          by_cases ho : i < 0 ∨ (n : Int) ≤ i
          · rw [if_pos ho] at hst; cases hst
          · exact ⟨hc, by omega, by omega⟩
        · rw [if_neg hc] at hst; exact absurd hst hc
      obtain ⟨x, rfl⟩ : ∃ x : Nat, i = (x : Int) := ⟨i.toNat, by omega⟩
      have hx : x < n := by omega
      obtain ⟨hn0, hn8, hev, _⟩ := chainErr_ok hc
      have HPO : Hid (∀ W, Below w.heap.size w W → Calls Tryd.prog 7 #[.slice ad n cap, .int .i64 x] W fun e w' => e = .returned (.int .i64 (perOut (onBack zs n x) (stepD zs n x) n n : Nat)) ∧ Below W.heap.size W w') := fun W hb => PeriodOf_any _ n x zs W (rowsAt_of_tab (h.later hb) hn0 hev) hn8 hx
      have HPP : Hid (∀ (W : World) (v : Value) (vs' : Nat → Value), Below w.heap.size w W → TabAt W v n vs' ns zs → Calls Tryd.prog 8 #[v, .int .i64 x] W fun e w' => e = .returned (.tuple #[.int .i64 (perOut (onBack zs n x) (stepD zs n x) n n : Nat), .nilIface]) ∧ Below W.heap.size W w') := fun W v vs' hb hv => Period_ok a v n x vs' ns zs W (hE.below hb) hv hc hx
      rw [hc] at HTE
      clear hE h hc hev hst
      generalize perOut (onBack zs n x) (stepD zs n x) n n = P at *
      go_enter Tryd.func3, Tryd.ntmps3
      go_wp2_with (first
        | (go_at_call 4; refine hC.mono ?_; rintro e w1 ⟨rfl, hb1⟩; have HB1 := Hid.mk' hb1; clear hb1)
        | (go_at_call 5; refine (HFW.out w1 HB1.out).mono ?_; rintro e w2 ⟨rfl, hb2⟩; have HB2 := Hid.mk' (below_chain HB1.out hb2); clear hb2)
        | (go_at_call 6; refine (HTE.out w2 HB2.out).mono ?_; rintro e w3 ⟨rfl, hw3⟩; rw [hw3]; clear hw3)
        | (go_at_call 7; refine (HPO.out w2 HB2.out).mono ?_; rintro e w4 ⟨rfl, hb4⟩; have HB4 := Hid.mk' (below_chain HB2.out hb4); clear hb4))
      refine (lists_any _ n vs ns zs w4 (HK.out _ HB4.out) hf1 hf2).mono ?_
      rintro e w5 ⟨v5, vs5, rfl, hv5, hb5⟩
      have hper := HPP.out w5 v5 vs5 (below_chain HB4.out hb5) hv5
      have HB5 := Hid.mk' (below_chain HB4.out hb5)
      clear hv5 hb5
      go_wp2_with fail
      refine hper.mono ?_
      clear hper
      rintro e w6 ⟨rfl, hb6⟩
      have HB6 := Hid.mk' (below_chain HB5.out hb6)
      clear hb6
      go_wp2_with (first | (go_at_call 10; refine (coded_nil 0 w6).mono ?_; rintro e w7 ⟨rfl, hw7⟩; rw [hw7]; clear hw7))
      go_ret
      exact ⟨by simp, HB6.out⟩
    · have hle : stateErr n ns zs i ≤ 8 := by
        have := chainErr_le n ns zs
        unfold stateErr; split
        · split <;> omega
        · omega
      have HPP : Hid (∀ (W : World) (v : Value) (vs' : Nat → Value), Below w.heap.size w W → TabAt W v n vs' ns zs → Calls Tryd.prog 8 #[v, .int .i64 i] W fun e w' => e = .returned (.tuple #[.int .i64 0, errV a (stateErr n ns zs i)]) ∧ w' = W) := fun W v vs' hb hv => Period_bad a v n i vs' ns zs W (hE.below hb) hv (by omega) hst
      have HK1 : Hid (∀ W, Below w.heap.size w W → Calls Tryd.prog 10 #[errV a (stateErr n ns zs i), .int .i64 (stateErr n ns zs i : Int)] W fun e w' => e = .returned (.bool true) ∧ Below W.heap.size W w') := fun W hb => coded_errV a (stateErr n ns zs i) (by omega) W (hE.below hb)
      have hse : stateErr n ns zs i = (if chainErr n ns zs = 0 then (if i < 0 ∨ (n : Int) ≤ i then 3 else 0) else chainErr n ns zs) := rfl
      clear hE h
      by_cases hc : chainErr n ns zs = 0
      · rw [hc] at HTE
        rw [if_pos hc] at hse
        have ho : i < 0 ∨ (n : Int) ≤ i := Classical.byContradiction fun hno => hst (by rw [hse, if_neg hno])
        rw [if_pos ho] at hse
        rw [hse] at HPP HK1
        generalize errV a 3 = ec at *
        clear hse hst hle hc
        by_cases hi0 : i < 0
        · clear ho
          go_enter Tryd.func3, Tryd.ntmps3
          go_wp2_with (first
            | (go_at_call 4; refine hC.mono ?_; rintro e w1 ⟨rfl, hb1⟩; have HB1 := Hid.mk' hb1; clear hb1)
            | (go_at_call 5; refine (HFW.out w1 HB1.out).mono ?_; rintro e w2 ⟨rfl, hb2⟩; have HB2 := Hid.mk' (below_chain HB1.out hb2); clear hb2)
            | (go_at_call 6; refine (HTE.out w2 HB2.out).mono ?_; rintro e w3 ⟨rfl, hw3⟩; rw [hw3]; clear hw3))
          refine (lists_any _ n vs ns zs w2 (HK.out _ HB2.out) hf1 hf2).mono ?_
          rintro e w5 ⟨v5, vs5, rfl, hv5, hb5⟩
          have hper := HPP.out w5 v5 vs5 (below_chain HB2.out hb5) hv5
          have HB5 := Hid.mk' (below_chain HB2.out hb5)
          clear hv5 hb5
          go_wp2_with fail
          refine hper.mono ?_
          clear hper
          rintro e w6 ⟨rfl, hw6⟩
          rw [hw6]
          clear hw6
          go_wp2_with fail
          refine (HK1.out w5 HB5.out).mono ?_
          rintro e w7 ⟨rfl, hb7⟩
          go_wp2_with fail
          go_ret
          exact ⟨rfl, below_chain HB5.out hb7⟩
        · have hi0' : 0 ≤ i := by omega
          have hin : (n : Int) ≤ i := by omega
          clear ho hi0
          go_enter Tryd.func3, Tryd.ntmps3
          go_wp2_with (first
            | (go_at_call 4; refine hC.mono ?_; rintro e w1 ⟨rfl, hb1⟩; have HB1 := Hid.mk' hb1; clear hb1)
            | (go_at_call 5; refine (HFW.out w1 HB1.out).mono ?_; rintro e w2 ⟨rfl, hb2⟩; have HB2 := Hid.mk' (below_chain HB1.out hb2); clear hb2)
            | (go_at_call 6; refine (HTE.out w2 HB2.out).mono ?_; rintro e w3 ⟨rfl, hw3⟩; rw [hw3]; clear hw3))
          refine (lists_any _ n vs ns zs w2 (HK.out _ HB2.out) hf1 hf2).mono ?_
          rintro e w5 ⟨v5, vs5, rfl, hv5, hb5⟩
          have hper := HPP.out w5 v5 vs5 (below_chain HB2.out hb5) hv5
          have HB5 := Hid.mk' (below_chain HB2.out hb5)
          clear hv5 hb5
          go_wp2_with fail
          refine hper.mono ?_
          clear hper
          rintro e w6 ⟨rfl, hw6⟩
          rw [hw6]
          clear hw6
          go_wp2_with fail
          refine (HK1.out w5 HB5.out).mono ?_
          rintro e w7 ⟨rfl, hb7⟩
          go_wp2_with fail
          go_ret
          exact ⟨rfl, below_chain HB5.out hb7⟩
      · rw [if_neg hc] at hse
        rw [hse] at HPP HK1 hle
        clear hse hst
        generalize chainErr n ns zs = c at *
        have hcI : (0 : Int) < (c : Int) := by omega
        have hcb : ((c : Int) == 0) = false := by rw [beq_eq_false_iff_ne]; omega
        generalize errV a c = ec at *
        clear hc
        go_enter Tryd.func3, Tryd.ntmps3
        go_wp2_with (first
          | (go_at_call 4; refine hC.mono ?_; rintro e w1 ⟨rfl, hb1⟩; have HB1 := Hid.mk' hb1; clear hb1)
          | (go_at_call 5; refine (HFW.out w1 HB1.out).mono ?_; rintro e w2 ⟨rfl, hb2⟩; have HB2 := Hid.mk' (below_chain HB1.out hb2); clear hb2)
          | (go_at_call 6; refine (HTE.out w2 HB2.out).mono ?_; rintro e w3 ⟨rfl, hw3⟩; rw [hw3]; clear hw3))
        refine (lists_any _ n vs ns zs w2 (HK.out _ HB2.out) hf1 hf2).mono ?_
        rintro e w5 ⟨v5, vs5, rfl, hv5, hb5⟩
        have hper := HPP.out w5 v5 vs5 (below_chain HB2.out hb5) hv5
        have HB5 := Hid.mk' (below_chain HB2.out hb5)
        clear hv5 hb5
        go_wp2_with fail
        refine hper.mono ?_
        clear hper
        rintro e w6 ⟨rfl, hw6⟩
        rw [hw6]
        clear hw6
        go_wp2_with fail
        refine (HK1.out w5 HB5.out).mono ?_
        rintro e w7 ⟨rfl, hb7⟩
        go_wp2_with fail
        go_ret
        exact ⟨rfl, below_chain HB5.out hb7⟩
  · have HFW : Hid (∀ W, Below w.heap.size w W → Calls Tryd.prog 5 #[.slice ad n cap] W fun e w' => e = .returned (.bool false) ∧ Below W.heap.size W w') := fun W hb => few_any _ n vs ns zs W (h.later hb) hm hs false ⟨(fun e => by cases e), (fun e => absurd e hf)⟩
    clear hE h hf
    go_enter Tryd.func3, Tryd.ntmps3
    go_wp2_with (first
      | (go_at_call 4; refine hC.mono ?_; rintro e w1 ⟨rfl, hb1⟩; have HB1 := Hid.mk' hb1; clear hb1)
      | (go_at_call 5; refine (HFW.out w1 HB1.out).mono ?_; rintro e w2 ⟨rfl, hb2⟩; have HB2 := Hid.mk' (below_chain HB1.out hb2); clear hb2))
    go_ret
    exact ⟨rfl, HB2.out⟩
end Go.Proofs.YtndjnmnanldgeaaDoor

/- What the rows' condition on package variables gives a walk: eight different sentinels with their texts, and the handle of the type error. -/
namespace Go.Proofs.YtndjnmnanldgeaaDoor
open Go.ChangeShapes Go.WideShapes Go.RowKit

theorem Tryd.own : ownKnob Tryd.prog.godebug = none := by kernel_rfl
theorem Tryd.et : Tryd.prog.globalNamed "errors.errorType" = some 8 := by kernel_rfl
theorem Tryd.rt : (Tryd.prog.cutTypes.find? (·.1 == "internal/reflectlite.rtype")).map (·.2) = some 106 := by kernel_rfl
theorem Tryd.oneRow : ((List.range 160).filter fun t => Tryd.prog.rowNamed t [101, 114, 114, 111, 114]) = [28] := by kernel_rfl
theorem Tryd.size : Tryd.prog.types.size = 160 := by kernel_rfl
theorem Tryd.star : ("*" ++ "errors.errorString" : String) = "*errors.errorString" := by decide
theorem Tryd.rowE (u : TypeId) (h : Tryd.prog.typeName? 3 u = some "*errors.errorString") : u = 127 :=
  typeName_ptr_named (nm := "errors.errorString") (by rw [Tryd.star]; kernel_rfl) (by kernel_rfl) (by decide) u (by rw [Tryd.star]; exact h)
theorem Tryd.cellsE : Tryd.prog.cellsOf 148 = 1 := by kernel_rfl
theorem Tryd.cellsS : Tryd.prog.cellsOf 9 = 1 := by kernel_rfl
theorem Tryd.g0 : Tryd.prog.globalNamed "demon/api.ErrText" = some 2 := by kernel_rfl
theorem Tryd.g1 : Tryd.prog.globalNamed "demon/api.ErrBound" = some 3 := by kernel_rfl
theorem Tryd.g2 : Tryd.prog.globalNamed "demon/api.ErrShape" = some 1 := by kernel_rfl
theorem Tryd.g3 : Tryd.prog.globalNamed "demon/api.ErrZero" = some 4 := by kernel_rfl
theorem Tryd.g4 : Tryd.prog.globalNamed "demon/api.ErrName" = some 5 := by kernel_rfl
theorem Tryd.g5 : Tryd.prog.globalNamed "demon/api.ErrNone" = some 0 := by kernel_rfl
theorem Tryd.g6 : Tryd.prog.globalNamed "demon/api.ErrOrder" = some 6 := by kernel_rfl
theorem Tryd.g7 : Tryd.prog.globalNamed "demon/api.ErrKind" = some 7 := by kernel_rfl

/-- Any number of listed sentinels of one type: each one's pointer, text and row; no two are one. -/
theorem laid_list {P : Program} {W : World} {nm : String} {ti tp te ts : TypeId} {ms : Array (String × TypeId)} {f : Field}
    (hi : P.underlying ti = some (.interface ms)) (hrow : ∀ u, P.typeName? 3 u = some nm → u = tp)
    (hp : P.underlying tp = some (.pointer te)) (he : P.underlying te = some (.struct #[f])) (hft : f.type = ts) (hfo : f.offset = 0) (hs : P.underlying ts = some .string) (hc : P.cellsOf te = 1) (hcs : P.cellsOf ts = 1) :
    ∀ (L : List (String × List UInt8)) (ps : List MemPlace), (∀ x, x ∈ L → ∃ g, P.globalNamed x.1 = some g ∧ (P.globals[g]?).map (·.type) = some ti) →
      DataW.LaidVars P W (L.map fun x => (x.1, .iface nm (.ptr (.agg [.lit (.string x.2)])))) ps → ps.Nodup →
      (∀ b off, MemPlace.cell b off ∈ ps → (∃ c t, W.heap[b]? = some (.cells c t (0, 0))) ∧ ∀ u v, W.cell? ⟨b, off, none⟩ = some (.iface u v) → Value.okWide P W .any 0 u v) →
      ∃ a : Nat → Addr, (∀ i x, L[i]? = some x → W.var? P x.1 = some #[.iface tp (.pointer (some (a i)))] ∧ (∃ s, W.cell? (a i) = some (.string s) ∧ s.data.toList = x.2) ∧
          (∃ c t, W.heap[(a i).block]? = some (.cells c t (0, 0))) ∧ MemPlace.cell (a i).block (a i).off ∈ ps) ∧
        ∀ i j, i < L.length → j < L.length → i ≠ j → a i ≠ a j := by
  intro L
  induction L with
  | nil => intro ps _ _ _ _; exact ⟨fun _ => default, fun i x h => by simp at h, fun i j h => by simp at h⟩
  | cons x r ih =>
    intro ps hgs hv hnd hrows
    obtain ⟨n, text⟩ := x
    obtain ⟨g0, t0, cs0, f0, p0, q0, hg0, ht0, hv0, hd0, hvr, e0⟩ := hv
    obtain ⟨g, hg, ht⟩ := hgs (n, text) (List.mem_cons_self ..)
    obtain rfl := Option.some.inj (hg.symm.trans hg0)
    obtain rfl := Option.some.inj (ht.symm.trans ht0)
    subst e0
    obtain ⟨l0⟩ := cs0
    have ok0 : ∀ u v, l0 = [.iface u v] → Value.okWide P W .any 0 u v := fun u v e => by
      subst e
      exact (hrows g 0 (by simp [MemPlace.row])).2 u v (by simpa using World.var?_cell hg0 hv0 0)
    obtain ⟨a0, s0, rfl, hc0, hs0, hz0, rfl⟩ := errorString_of_trod hi hrow hp he hft hfo hs hc hcs hd0 ok0
    obtain ⟨c0, tt0, hb0⟩ := (hrows a0.block a0.off (by simp [MemPlace.row])).1
    have hnq : q0.Nodup := List.Nodup.sublist (List.sublist_append_right _ _) hnd
    obtain ⟨a', ha', hne'⟩ := ih q0 (fun x hx => hgs x (List.mem_cons_of_mem _ hx)) hvr hnq (fun b off hm => hrows b off (List.mem_append_right _ hm))
    have hnot : MemPlace.cell a0.block a0.off ∉ q0 := by
      intro hm
      have := (List.nodup_append.1 hnd).2.2
      exact this (.cell a0.block a0.off) (by simp [MemPlace.row]) (.cell a0.block a0.off) hm rfl
    refine ⟨fun i => match i with | 0 => a0 | k + 1 => a' k, ?_, ?_⟩
    · intro i x hx
      cases i with
      | zero =>
        simp only [List.getElem?_cons_zero, Option.some.injEq] at hx
        subst hx
        exact ⟨hv0, ⟨s0, hc0, hs0⟩, ⟨c0, tt0, hb0⟩, by simp [MemPlace.row]⟩
      | succ k =>
        simp only [List.getElem?_cons_succ] at hx
        obtain ⟨h1, h2, h3, h4⟩ := ha' k x hx
        exact ⟨h1, h2, h3, List.mem_append_right _ h4⟩
    · have far : ∀ k, k < r.length → a0 ≠ a' k := fun k hk e => by
        obtain ⟨_, _, _, h4⟩ := ha' k r[k] (by simp [hk])
        rw [← e] at h4
        exact hnot h4
      intro i j hi' hj' hij
      cases i with
      | zero =>
        cases j with
        | zero => exact absurd rfl hij
        | succ k => exact far k (by simpa using hj')
      | succ m =>
        cases j with
        | zero => exact (far m (by simpa using hi')).symm
        | succ k => exact hne' m k (by simpa using hi') (by simpa using hj') (by omega)

/-- The names and texts, in the rows' order. -/
def eightNames : List (String × List UInt8) := [("demon/api.ErrText", [100, 101, 109, 111, 110, 58, 32, 116, 101, 120, 116]), ("demon/api.ErrBound", [100, 101, 109, 111, 110, 58, 32, 98, 111, 117, 110, 100]), ("demon/api.ErrShape", [100, 101, 109, 111, 110, 58, 32, 115, 104, 97, 112, 101]), ("demon/api.ErrZero", [100, 101, 109, 111, 110, 58, 32, 122, 101, 114, 111]), ("demon/api.ErrName", [100, 101, 109, 111, 110, 58, 32, 110, 97, 109, 101]), ("demon/api.ErrNone", [100, 101, 109, 111, 110, 58, 32, 110, 111, 110, 101]), ("demon/api.ErrOrder", [100, 101, 109, 111, 110, 58, 32, 111, 114, 100, 101, 114]), ("demon/api.ErrKind", [100, 101, 109, 111, 110, 58, 32, 107, 105, 110, 100])]
def laidAll : List (String × DataW Unit) := [("errors.errorType", Rows.laid_errors_errorType), ("demon/api.ErrText", Rows.laid_demon_api_ErrText), ("demon/api.ErrBound", Rows.laid_demon_api_ErrBound), ("demon/api.ErrShape", Rows.laid_demon_api_ErrShape), ("demon/api.ErrZero", Rows.laid_demon_api_ErrZero), ("demon/api.ErrName", Rows.laid_demon_api_ErrName), ("demon/api.ErrNone", Rows.laid_demon_api_ErrNone), ("demon/api.ErrOrder", Rows.laid_demon_api_ErrOrder), ("demon/api.ErrKind", Rows.laid_demon_api_ErrKind)]
theorem laidAll_parts (W : World) : laidMetH Tryd.prog laidAll W = (laidMet Tryd.prog (eightNames.map fun x => (x.1, .iface "*errors.errorString" (.ptr (.agg [.lit (.string x.2)])))) W ∧ handlesMet Tryd.prog [("errors.errorType", Rows.laid_errors_errorType)] W) := by kernel_rfl

theorem var_at {W : World} {n : String} {g : Nat} {v : Value} (hg : Tryd.prog.globalNamed n = some g) (h : W.var? Tryd.prog n = some #[v]) : W.cell? ⟨g, 0, none⟩ = some v := by
  simpa using World.var?_cell hg h 0

theorem errs_of_laid {W : World} (h : laidMetH Tryd.prog laidAll W) : ∃ a : Nat → Addr, Errs W a ∧ ∀ i x, eightNames[i]? = some x → ∃ s, W.cell? (a i) = some (.string s) ∧ s.data.toList = x.2 := by
  rw [laidAll_parts] at h
  obtain ⟨⟨ps, hv, hnd, hrows⟩, hh⟩ := h
  obtain ⟨name, u, ty, e1, e2, e3, e4, e5⟩ := hh _ (List.mem_singleton.2 rfl)
  have en : name = [101, 114, 114, 111, 114] := (Option.some.inj e1).symm
  subst en
  obtain rfl := Option.some.inj (Tryd.rt.symm.trans e2)
  have hm : ty ∈ (List.range 160).filter fun t => Tryd.prog.rowNamed t [101, 114, 114, 111, 114] := List.mem_filter.2 ⟨List.mem_range.2 (by rw [← Tryd.size]; exact e3), e4⟩
  rw [Tryd.oneRow] at hm
  obtain rfl := List.mem_singleton.1 hm
  have hth : typeHandle Tryd.prog 28 = .pointer (some ⟨9, 28, none⟩) := by kernel_rfl
  rw [hth] at e5
  obtain ⟨a, ha, hne⟩ := laid_list Tryd.underlying28 Tryd.rowE Tryd.underlying127 Tryd.underlying148 rfl rfl Tryd.underlying9 Tryd.cellsE Tryd.cellsS eightNames ps
    (fun x hx => by
      simp only [eightNames, List.mem_cons, List.not_mem_nil, or_false] at hx
      rcases hx with rfl | rfl | rfl | rfl | rfl | rfl | rfl | rfl
      · exact ⟨_, Tryd.g0, by kernel_rfl⟩
      · exact ⟨_, Tryd.g1, by kernel_rfl⟩
      · exact ⟨_, Tryd.g2, by kernel_rfl⟩
      · exact ⟨_, Tryd.g3, by kernel_rfl⟩
      · exact ⟨_, Tryd.g4, by kernel_rfl⟩
      · exact ⟨_, Tryd.g5, by kernel_rfl⟩
      · exact ⟨_, Tryd.g6, by kernel_rfl⟩
      · exact ⟨_, Tryd.g7, by kernel_rfl⟩) hv hnd hrows
  refine ⟨a, ⟨var_at Tryd.g0 (ha 0 _ rfl).1, var_at Tryd.g1 (ha 1 _ rfl).1, var_at Tryd.g2 (ha 2 _ rfl).1, var_at Tryd.g3 (ha 3 _ rfl).1, var_at Tryd.g4 (ha 4 _ rfl).1, var_at Tryd.g5 (ha 5 _ rfl).1, var_at Tryd.g6 (ha 6 _ rfl).1, var_at Tryd.g7 (ha 7 _ rfl).1, var_at Tryd.et e5, ?_, ?_⟩, fun i x hx => (ha i x hx).2.1⟩
  · intro i hi
    have hl : eightNames.length = 8 := rfl
    exact (ha i eightNames[i] (List.getElem?_eq_getElem (by omega))).2.2.1
  · intro i j hi hj hij
    exact hne i j hi hj hij

/-- The door's own heap meets the condition. -/
theorem door_met (os : Os) (args : Array Value) : laidMetH Tryd.prog laidAll ((World.doorLaid Tryd.prog 168 os).forCall (fun _ _ => 0) ⟨#[], args, []⟩).memory :=
  laidMetH_of_parts3 (fuel := 8) (laidMet_of_run' 8 (by kernel_rfl) (by kernel_rfl)) (by kernel_rfl) (by kernel_rfl)
end Go.Proofs.YtndjnmnanldgeaaDoor

/- A parameter of type []int opened. -/
namespace Go.Proofs.YtndjnmnanldgeaaDoor
open Go.ChangeShapes Go.WideShapes Go.ChangeAt Go.RowKit Go.Joins Go.Deep

theorem Tryd.laidOut : laidOutB Tryd.prog = true := by kernel_rfl
theorem Tryd.cellsInt : Tryd.prog.cellsOf 3 = 1 := by kernel_rfl
theorem Tryd.cellsInts : Tryd.prog.cellsOf 37 = 1 := by kernel_rfl

set_option maxRecDepth 100000 in
/-- What a parameter of type []int gives: its slice, its numbers. -/
theorem open_nums {H : Type} {enc : TypeId × Value → H} {W : World} {base : Nat} {v : Value} {d : DataW H} {p : List MemPlace} (hv : Value.okWide Tryd.prog W .any base 37 v)
    (h : DataW.Trod enc Tryd.prog W 0 (fun _ => true) true 37 v d p) :
    ∃ (ad : Option Addr) (n cap : Nat) (z : Nat → Int), v = .slice ad n cap ∧ n ≤ maxLen ∧ NumsAt W (.slice ad n cap) n z := by
  obtain ⟨ad, n, cap, rfl⟩ := okWide_slice Tryd.underlying37 hv
  obtain ⟨fuel, hf⟩ := h
  rcases open_ints Tryd.underlying37 Tryd.underlying3 Tryd.cellsInt hf with ⟨hc, _⟩ | ⟨a, len, cap', zs, hc, _, hl, hm, hz, _, hcell, _⟩
  · simp [Value.cells] at hc
    obtain ⟨rfl, rfl, rfl⟩ := hc
    exact ⟨none, 0, 0, fun _ => 0, rfl, Nat.zero_le _, Or.inl ⟨none, 0, rfl, rfl⟩⟩
  · simp [Value.cells] at hc
    obtain ⟨rfl, rfl, rfl⟩ := hc
    simp only [if_true] at hz
    rcases Nat.eq_zero_or_pos n with rfl | hpos
    · exact ⟨some a, 0, cap, fun _ => 0, rfl, Nat.zero_le _, Or.inl ⟨some a, cap, rfl, rfl⟩⟩
    · obtain ⟨b, o, spot⟩ := a
      have hspot : spot = none := by simpa [Addr.add] using World.cell?_spot (hcell 0 (by omega))
      subst hspot
      refine ⟨_, n, cap, fun i => zs.getD i 0, rfl, by omega, Or.inr ⟨b, o, cap, rfl, hpos, fun i hi => ?_⟩⟩
      have := hcell i (by omega)
      rw [Go.Proofs.YtndjnmnanldgeaaDoor.add_plain] at this
      exact this
end Go.Proofs.YtndjnmnanldgeaaDoor

/- A parameter of type [][]int opened; how many numbers it holds at the most. -/
namespace Go.Proofs.YtndjnmnanldgeaaDoor
open Go.ChangeShapes Go.WideShapes Go.ChangeAt Go.RowKit Go.Joins Go.Deep

theorem bulk_one {H : Type} (d : DataW H) : 1 ≤ Rows.uptoBulk d := by
  cases d with
  | lit l => cases l <;> simp [Rows.uptoBulk]
  | _ => simp [Rows.uptoBulk]
theorem bulk_len {H : Type} : ∀ l : List (DataW H), l.length ≤ Rows.uptoBulkAll l
  | [] => by simp [Rows.uptoBulkAll]
  | x :: r => by
    have h1 := bulk_one x
    have h2 := bulk_len r
    simp only [Rows.uptoBulkAll, List.length_cons]
    omega
theorem bulk_mem {H : Type} {d : DataW H} : ∀ {l : List (DataW H)}, d ∈ l → Rows.uptoBulk d ≤ Rows.uptoBulkAll l
  | x :: r, h => by
    simp only [Rows.uptoBulkAll]
    rcases List.mem_cons.1 h with rfl | h'
    · omega
    · have := bulk_mem h'; omega
theorem bulk_append {H : Type} : ∀ l r : List (DataW H), Rows.uptoBulkAll (l ++ r) = Rows.uptoBulkAll l + Rows.uptoBulkAll r
  | [], r => by simp [Rows.uptoBulkAll]
  | x :: l, r => by simp only [List.cons_append, Rows.uptoBulkAll, bulk_append l r]; omega
theorem bulk_sum {H : Type} (f : Nat → DataW H) (L : Nat → Nat) : ∀ n, (∀ r, r < n → L r ≤ Rows.uptoBulk (f r)) → sumT L n ≤ Rows.uptoBulkAll ((List.range n).map f)
  | 0, _ => Nat.zero_le _
  | n + 1, h => by
    have h1 := bulk_sum f L n (fun r hr => h r (by omega))
    have h2 := h n (by omega)
    show sumT L n + L n ≤ _
    rw [List.range_succ, List.map_append, bulk_append]
    simp only [List.map_cons, List.map_nil, Rows.uptoBulkAll]
    omega

set_option maxRecDepth 100000 in
theorem open_table {H : Type} {enc : TypeId × Value → H} {W : World} {base : Nat} {v : Value} {d : DataW H} {p : List MemPlace} (hv : Value.okWide Tryd.prog W .any base 22 v)
    (h : DataW.Trod enc Tryd.prog W 0 (fun _ => true) true 22 v d p) :
    ∃ (ad : Option Addr) (R cap : Nat) (vs : Nat → Value) (ns : Nat → Nat) (zs : Nat → Nat → Int), v = .slice ad R cap ∧ R ≤ maxLen ∧ TabAt W (.slice ad R cap) R vs ns zs ∧ sumT ns R ≤ Rows.uptoBulk d := by
  obtain ⟨ad, R, cap, rfl⟩ := okWide_slice Tryd.underlying22 hv
  obtain ⟨fuel, hf⟩ := h
  rcases open_int_rows Tryd.underlying22 Tryd.underlying37 Tryd.underlying3 Tryd.cellsInts Tryd.cellsInt hf with ⟨hc, _⟩ | ⟨a, len, cap', A, L, C, Z, hc, _, hl, hm, hx, hr⟩
  · simp [Value.cells] at hc
    obtain ⟨rfl, rfl, rfl⟩ := hc
    exact ⟨none, 0, 0, fun _ => .slice none 0 0, fun _ => 0, fun _ _ => 0, rfl, Nat.zero_le _, Or.inl ⟨none, 0, rfl, rfl⟩, Nat.zero_le _⟩
  · simp [Value.cells] at hc
    obtain ⟨rfl, rfl, rfl⟩ := hc
    simp only [Prod.mk.injEq] at hx
    obtain ⟨rfl, _⟩ := hx
    have hbulk : sumT L R ≤ Rows.uptoBulk (DataW.slice ((List.range R).map fun r => intRow .i64 (A r) (L r) (Z r)) ((List.range (cap - R)).map fun j => intRow .i64 (A (R + j)) (L (R + j)) (Z (R + j))) : DataW H) := by
      have h1 := bulk_sum (H := H) (fun r => intRow .i64 (A r) (L r) (Z r)) L R (fun r hr' => by
        obtain ⟨_, h2, _, h4, _, h6, _⟩ := hr r (by omega)
        cases hA : A r with
        | none => have := h6 hA; omega
        | some a' =>
          have h7 := bulk_len (H := H) (lits .i64 ((Z r).take (L r)))
          have h8 : (lits (H := H) .i64 ((Z r).take (L r))).length = L r := by simp [lits]; omega
          simp only [intRow, Rows.uptoBulk]
          omega)
      simp only [Rows.uptoBulk]
      omega
    rcases Nat.eq_zero_or_pos R with rfl | hpos
    · exact ⟨some a, 0, cap, fun _ => .slice none 0 0, L, fun _ _ => 0, rfl, Nat.zero_le _, Or.inl ⟨some a, cap, rfl, rfl⟩, hbulk⟩
    · obtain ⟨b, o, spot⟩ := a
      have hspot : spot = none := by simpa [Addr.add] using World.cell?_spot (hr 0 (by omega)).1
      subst hspot
      refine ⟨_, R, cap, fun r => .slice (A r) (L r) (C r), L, fun r i => (Z r).getD i 0, rfl, by omega, Or.inr ⟨b, o, cap, rfl, hpos, fun i hi => ?_⟩, hbulk⟩
      obtain ⟨h1, h2, _, h4, _, h6, h7⟩ := hr i (by omega)
      rw [Go.Proofs.YtndjnmnanldgeaaDoor.add_plain] at h1
      refine ⟨h1, ?_⟩
      rcases Nat.eq_zero_or_pos (L i) with h0 | h0
      · exact Or.inl ⟨A i, C i, by dsimp only; rw [h0], h0⟩
      · cases hA : A i with
        | none => have := h6 hA; omega
        | some a' =>
          obtain ⟨_, h8⟩ := h7 a' hA
          obtain ⟨b', o', spot'⟩ := a'
          have hs' : spot' = none := by simpa [Addr.add] using World.cell?_spot (h8 0 (by omega))
          subst hs'
          refine Or.inr ⟨b', o', C i, by dsimp only; rw [hA], h0, fun j hj => ?_⟩
          have := h8 j (by omega)
          rw [Go.Proofs.YtndjnmnanldgeaaDoor.add_plain] at this
          exact this
theorem bulk_bound {H : Type} {l : List (DataW H)} (hk : Rows.uptoSmall H l = true) : Rows.uptoBulkAll l ≤ 1048576 := of_decide_eq_true hk
end Go.Proofs.YtndjnmnanldgeaaDoor
