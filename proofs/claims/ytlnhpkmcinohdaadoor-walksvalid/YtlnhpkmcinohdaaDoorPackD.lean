/- Lists of lists of numbers in memory. -/
import Derived.Test.YtlnhpkmcinohdaaDoorPackA
import Derived.Test.YtlnhpkmcinohdaaDoorPackC
import Derived.Test.YtlnhpkmcinohdaaDoorValidWalk
import Derived.Deep.RegionHeld3
import Derived.Test.YtlnhpkmcinohdaaDoorCodedV
import Derived.Test.YtlnhpkmcinohdaaDoorRows
import Derived.Test.YtlnhpkmcinohdaaDoorCode
import Derived.ChangeSame
import Derived.ChangeVars
import Derived.JoinedOf
import Derived.LaidLaws
import Derived.LaidHandle
import Derived.LaidMore
import Derived.Stop.Joined
import Derived.Test.YtlnhpkmcinohdaaDoorWlMem
import Derived.Test.YtlnhpkmcinohdaaDoorCards
import Derived.Test.YtlnhpkmcinohdaaDoorTie
import Derived.SevenTiedAt
import Derived.ProofKit
import Derived.OpenShut
import Derived.ChangeOld
import Derived.Lib.SmallJoins
import Derived.Deep.SlicePairs
import Derived.Deep.Slices
import Derived.ChangeArms
namespace Go.Proofs.YtlnhpkmcinohdaaDoor
open Go.RowKit

theorem own_put {w : World} {base : Nat} {t : TypeId} {sz : Nat} {v : Value} {n : Nat} {xs : List Value} (h : w.ownsRow base t sz v n xs) (a : Addr) (x : Value) (hne : v.ownBlock ≠ some a.block) : (w.setCell a x).ownsRow base t sz v n xs := by
  refine ⟨h.1, ?_⟩
  rcases h.2 with hn | ⟨g, cap, cur, hv, hg, hh, rest⟩
  · exact Or.inl hn
  · refine Or.inr ⟨g, cap, cur, hv, hg, ?_, rest⟩
    rw [Below.heap_setCell _ _ _ _ (fun e => hne (by rw [hv, ← e]; rfl))]
    exact hh

/-- A list of lists, to be read. -/
def LolAt (w : World) (v : Value) (L : List (List Int)) : Prop := ∃ ad cap, v = .slice ad L.length cap ∧ ∀ (i : Nat) (r : List Int), L[i]? = some r → ∃ b o u, ad = some ⟨b, o, none⟩ ∧ w.cell? ⟨b, o + i, none⟩ = some u ∧ NumsAt w u r.length (atF r)
theorem LolAt.later {w w' : World} {v : Value} {L : List (List Int)} (h : LolAt w v L) (hb : Below w.heap.size w w') : LolAt w' v L := by
  obtain ⟨ad, cap, rfl, h⟩ := h
  refine ⟨ad, cap, rfl, fun i r hr => ?_⟩
  obtain ⟨b, o, u, h1, h2, h3⟩ := h i r hr
  exact ⟨b, o, u, h1, by rw [hb.cell (cell_lt h2)]; exact h2, h3.later hb⟩
/-- One that is made: the list's own row, and that of each of its lists. -/
def LolOwn (Bo Br : Nat) (w : World) (v : Value) (L : List (List Int)) (vs : List Value) : Prop := w.ownsRow Bo 59 1 v L.length vs ∧ ∀ (i : Nat) (r : List Int), L[i]? = some r → ∃ u, vs[i]? = some u ∧ w.ownsRow Br 3 1 u r.length (cellL r)
theorem LolOwn.nil (Bo Br : Nat) (w : World) : LolOwn Bo Br w (.slice none 0 0) [] [] := ⟨⟨rfl, Or.inl ⟨rfl, rfl⟩⟩, fun i r h => by simp at h⟩
theorem LolOwn.later {Bo Br : Nat} {w w' : World} {v : Value} {L : List (List Int)} {vs : List Value} (h : LolOwn Bo Br w v L vs) (hb : Below w.heap.size w w') : LolOwn Bo Br w' v L vs :=
  ⟨own_past h.1 hb, fun i r hr => by obtain ⟨u, h1, h2⟩ := h.2 i r hr; exact ⟨u, h1, own_past h2 hb⟩⟩
theorem own_keep {w w' : World} {base : Nat} {t : TypeId} {sz : Nat} {v : Value} {n : Nat} {xs : List Value} (h : w.ownsRow base t sz v n xs) (hk : ∀ k, base ≤ k → k < w.heap.size → w'.heap[k]? = w.heap[k]?) : w'.ownsRow base t sz v n xs := by
  obtain ⟨hl, hr⟩ := h
  refine ⟨hl, ?_⟩
  rcases hr with hr | ⟨g, cap, cur, hv, hb1, hh, rest⟩
  · exact Or.inl hr
  · exact Or.inr ⟨g, cap, cur, hv, hb1, by rw [hk g hb1 (heap_lt hh)]; exact hh, rest⟩
theorem LolOwn.keep {B : Nat} {w w' : World} {v : Value} {L : List (List Int)} {vs : List Value} (h : LolOwn B B w v L vs) (hk : ∀ k, B ≤ k → k < w.heap.size → w'.heap[k]? = w.heap[k]?) : LolOwn B B w' v L vs :=
  ⟨own_keep h.1 hk, fun i r hr => by obtain ⟨u, h1, h2⟩ := h.2 i r hr; exact ⟨u, h1, own_keep h2 hk⟩⟩
theorem LolOwn.lol {Bo Br : Nat} {w : World} {v : Value} {L : List (List Int)} {vs : List Value} (h : LolOwn Bo Br w v L vs) : LolAt w v L := by
  obtain ⟨⟨hl, hr⟩, hv⟩ := h
  rcases hr with ⟨hv0, h0⟩ | ⟨g, cap, cur, hv0, _, hh, _, _, hs, ht⟩
  · rw [h0] at hl
    obtain rfl : L = [] := List.length_eq_zero_iff.1 h0
    exact ⟨none, 0, hv0, fun i r hr => by simp at hr⟩
  · refine ⟨_, cap, hv0, fun i r hr => ?_⟩
    obtain ⟨u, h1, h2⟩ := hv i r hr
    refine ⟨g, 0, u, rfl, ?_, numsAt_row h2⟩
    have hi : i < L.length := (List.getElem?_eq_some_iff.1 hr).1
    rw [← h1, ← ht, List.getElem?_take_of_lt (by omega), Nat.zero_add]
    simp [World.cell?, hh]
/-- Behind an append. -/
theorem LolOwn.push {Bo Br : Nat} {w w' : World} {v v' u : Value} {L : List (List Int)} {vs : List Value} {r : List Int} (h : LolOwn Bo Br w v L vs) (hr : w.ownsRow Br 3 1 u r.length (cellL r)) (hg : w.grownBy w' v.ownBlock) (ho : w'.ownsRow Bo 59 1 v' (L.length + 1) (vs ++ [u])) : LolOwn Bo Br w' v' (L ++ [r]) (vs ++ [u]) := by
  have hvl : vs.length = L.length := by have := h.1.1; simpa using this
  refine ⟨by rw [List.length_append]; exact ho, fun i q hq => ?_⟩
  rcases Nat.lt_or_ge i L.length with h1 | h1
  · rw [List.getElem?_append_left h1] at hq
    obtain ⟨x, h2, h3⟩ := h.2 i q hq
    exact ⟨x, by rw [List.getElem?_append_left (by omega)]; exact h2, own_beside h3 h.1 (by decide) hg⟩
  · rw [List.getElem?_append_right h1] at hq
    obtain ⟨rfl, h5⟩ : r = q ∧ i - L.length = 0 := by
      rcases hk : i - L.length with _ | k
      · rw [hk] at hq; exact ⟨by simpa using hq, rfl⟩
      · rw [hk] at hq; simp at hq
    exact ⟨u, by rw [List.getElem?_append_right (by omega), hvl, h5]; rfl, own_beside hr h.1 (by decide) hg⟩
theorem LolOwn.form {Bo Br : Nat} {w : World} {v : Value} {L : List (List Int)} {vs : List Value} (h : LolOwn Bo Br w v L vs) : ∃ ad cap, v = .slice ad L.length cap := by
  rcases h.1.2 with ⟨rfl, h0⟩ | ⟨g, cap, cur, rfl, _⟩
  · exact ⟨none, 0, by rw [h0]⟩
  · exact ⟨_, _, rfl⟩
theorem LolOwn.put {Bo Br : Nat} {w : World} {v : Value} {L : List (List Int)} {vs : List Value} (h : LolOwn Bo Br w v L vs) (a : Addr) (x : Value) (h1 : v.ownBlock ≠ some a.block) (h2 : a.block < Br) : LolOwn Bo Br (w.setCell a x) v L vs := by
  refine ⟨own_put h.1 a x h1, fun i r hr => ?_⟩
  obtain ⟨u, h3, h4⟩ := h.2 i r hr
  refine ⟨u, h3, own_put h4 a x (fun e => ?_)⟩
  rcases h4.2 with ⟨rfl, _⟩ | ⟨g, cap, cur, rfl, hge, _⟩
  · cases e
  · have : g = a.block := by simpa [Value.ownBlock] using e
    omega

theorem own_built {w : World} {base g : Nat} {t : TypeId} {cs : Array Value} (hg : base ≤ g) (hh : w.heap[g]? = some (.cells cs t)) (hc : cs.size ≤ 1000) : w.ownsRow base t 1 (.slice (some ⟨g, 0, none⟩) cs.size cs.size) cs.size cs.toList :=
  ⟨by simp, Or.inr ⟨g, cs.size, cs, rfl, hg, hh, Nat.le_refl _, by unfold maxLen; omega, by simp, by rw [Nat.mul_one, ← Array.length_toList, List.take_length]⟩⟩

set_option maxRecDepth 100000 in
set_option maxHeartbeats 1000000 in
theorem SameLists_any (v u : Value) (L : List (List Int)) (w : World) (h : LolAt w v L) (k : LolAt w u L) (hL : L.length ≤ 1000000) (hr : ∀ r, r ∈ L → r.length ≤ 1000) :
    Calls Tryd.prog 14 #[v, u] w fun e w' => e = .returned (.bool true) ∧ Below w.heap.size w w' := by
  have HA := Hid.mk' (fun (W : World) (hb : Below w.heap.size w W) => h.later hb)
  have HK := Hid.mk' (fun (W : World) (hb : Below w.heap.size w W) => k.later hb)
  have HR := Hid.mk' hr
  obtain ⟨ad, cap, rfl, -⟩ := h
  obtain ⟨ad', cap', rfl, -⟩ := k
  clear hr
  go_enter Tryd.func14, Tryd.ntmps14
  go_wp2_with fail
  go_loopw [5] (fun i wr => ∃ k : Nat, k ≤ L.length ∧ i = .int .i64 k ∧ Hid (Below w.heap.size w wr)) (fun i _ => L.length - (intOf i).toNat)
  case atStart => exact ⟨0, Nat.zero_le _, rfl, Below.refl _ _⟩
  case round =>
    obtain ⟨k, hk, rfl, HB⟩ := hrel
    rcases Nat.lt_or_ge k L.length with h1 | h1
    · have hkn : (k : Int) < (L.length : Int) := by omega
      have hk0 : (0 : Int) ≤ (k : Int) := by omega
      obtain ⟨_, _, e1, g1⟩ := HA.out _ HB.out
      obtain ⟨_, _, e2, g2⟩ := HK.out _ HB.out
      obtain ⟨rfl, rfl⟩ : ad = _ ∧ cap = _ := by simpa using e1
      obtain ⟨rfl, rfl⟩ : ad' = _ ∧ cap' = _ := by simpa using e2
      obtain ⟨b, o, x, rfl, c1, n1⟩ := g1 k _ (List.getElem?_eq_getElem h1)
      obtain ⟨b', o', x', rfl, c2, n2⟩ := g2 k _ (List.getElem?_eq_getElem h1)
      have HS := Hid.mk' (fun (W : World) (hb : Below wr.heap.size wr W) => SameInts_any x x' _ _ W (n1.later hb) (n2.later hb) (by have := HR.out _ (List.getElem_mem h1); omega))
      obtain ⟨a1, q1, hx1⟩ := n1.form
      obtain ⟨a2, q2, hx2⟩ := n2.form
      rw [hx1] at c1 HS
      rw [hx2] at c2 HS
      clear n1 n2 hx1 hx2 g1 g2 e1 e2
      generalize L[k].length = m at *
      have hcur0 : Below wr.heap.size wr wr := Below.refl _ _
      have hcur : Below wr.heap.size wr wr.drew := (Below.refl _ _).drew
      have HX : Hid (∀ W, Below wr.heap.size wr W → (W.cell? ⟨b, o + k, none⟩ = some (.slice a1 m q1) ∧ W.cell? ⟨b', o' + k, none⟩ = some (.slice a2 m q2))) := fun W hb => ⟨by rw [hb.cell (cell_lt c1)]; exact c1, by rw [hb.cell (cell_lt c2)]; exact c2⟩
      go_wp2_with fail
      go_region_held3 (fun W => W.cell? ⟨b, o + k, none⟩ = some (.slice a1 m q1) ∧ W.cell? ⟨b', o' + k, none⟩ = some (.slice a2 m q2))
        (first | exact HX.out _ hcur0 | exact HX.out _ hcur | exact HX.out _ hbw5)
        (first
          | (go_at_call 27; refine (HS.out _ hcur).mono ?_; rintro e w5 ⟨rfl, hb5⟩; have hbw5 := below_chain hcur hb5; clear hb5))
      all_goals
        go_wp2_with fail
        exact ⟨⟨k + 1, h1, by go_num, below_chain HB.out hbw5⟩, by simp [intOf]; omega⟩
    · obtain rfl : k = L.length := by omega
      go_wp2_with fail
      go_ret
      exact ⟨rfl, HB.out⟩
end Go.Proofs.YtlnhpkmcinohdaaDoor

/- The document's ChainOf. -/
namespace Go.Proofs.YtlnhpkmcinohdaaDoor
open Go.RowKit

/-- The rows that are told. -/
structure RowsO (wr : World) (B : Nat) (cv : Value) (k N : Nat) (L : List Wr) (vs : Nat → Value) : Prop where
  own : wr.ownsRow B 59 1 cv k (rowV vs k)
  rows : ∀ i, i < k → ∃ rb, vs i = .slice (some ⟨rb, 0, none⟩) N N ∧ RowAt wr rb 0 N (wtF L i) ∧ cv.ownBlock ≠ some rb
theorem RowsO.later {wr wn : World} {B : Nat} {cv : Value} {k N : Nat} {L : List Wr} {vs : Nat → Value} (h : RowsO wr B cv k N L vs) (hb : Below wr.heap.size wr wn) : RowsO wn B cv k N L vs :=
  ⟨own_past h.own hb, fun i hi => by obtain ⟨rb, e, hr, hn⟩ := h.rows i hi; exact ⟨rb, e, hr.later hb, hn⟩⟩
theorem RowsO.push {wr w3 : World} {B g cap : Nat} {cv : Value} {k N rw : Nat} {L : List Wr} {vs : Nat → Value} (h : RowsO wr B cv k N L vs) (hN : 0 < N) (hrow : RowAt wr rw 0 N (wtF L k)) (hne : cv.ownBlock ≠ some rw)
    (hg : wr.grownBy w3 cv.ownBlock) (hown : w3.ownsRow B 59 1 (.slice (some ⟨g, 0, none⟩) (k + 1) cap) (k + 1) (rowV vs k ++ [.slice (some ⟨rw, 0, none⟩) N N])) (hat : cv.ownBlock = some g ∨ g = wr.heap.size) :
    RowsO w3 B (.slice (some ⟨g, 0, none⟩) (k + 1) cap) (k + 1) N L (fun i => if i = k then .slice (some ⟨rw, 0, none⟩) N N else vs i) := by
  have key : ∀ rb z, RowAt wr rb 0 N z → cv.ownBlock ≠ some rb → RowAt w3 rb 0 N z ∧ (Value.slice (some ⟨g, 0, none⟩) (k + 1) cap).ownBlock ≠ some rb := fun rb z hr hn => by
    have hl : rb < wr.heap.size := cell_lt (hr 0 hN)
    refine ⟨fun j hj => ?_, fun e => ?_⟩
    · rw [World.cell?_of_block (a := ⟨rb, 0 + j, none⟩) (hg.block rb hl (fun e => hn e.symm))]; exact hr j hj
    · have e1 : g = rb := by simpa [Value.ownBlock] using e
      rcases hat with h1 | h1
      · exact hn (by rw [h1, e1])
      · omega
  refine ⟨by rw [← rowV_push]; exact hown, fun i hi => ?_⟩
  by_cases e : i = k
  · subst e
    obtain ⟨h1, h2⟩ := key rw _ hrow hne
    exact ⟨rw, by rw [if_pos rfl], h1, h2⟩
  · obtain ⟨rb, e1, hr, hn⟩ := h.rows i (by omega)
    obtain ⟨h1, h2⟩ := key rb _ hr hn
    exact ⟨rb, by rw [if_neg e]; exact e1, h1, h2⟩

theorem fills_laterO {w wr w' : World} {g T : Nat} {f : Nat → Int} (h : Fills w wr g T f) (hb : Below wr.heap.size wr w') : Fills w w' g T f :=
  ⟨h.row.later hb, fun i hi => by rw [hb.frozen (cell_lt (h.row i hi))]; exact h.fz i hi, below_chain h.below hb, h.hg⟩
theorem fills_congrO {w wr : World} {g T : Nat} {f f' : Nat → Int} (h : Fills w wr g T f) (hf : ∀ i, i < T → f i = f' i) : Fills w wr g T f' :=
  ⟨fun i hi => by rw [← hf i hi]; exact h.row i hi, h.fz, h.below, h.hg⟩
set_option maxRecDepth 100000 in
set_option maxHeartbeats 8000000 in
theorem ChainOf_any (N : Nat) (v : Value) (L : List Wr) (w : World) (h : WrAt w v L) (hl : L.length ≤ 20) (hN1 : 1 ≤ N) (hN : N ≤ 8) (hs : wiresB N L = true) :
    Calls Tryd.prog 11 #[.agg #[.int .i64 N, v]] w fun e w' => ∃ r vs, e = .returned r ∧ RowsO w' w.heap.size r N N L vs ∧ Below w.heap.size w w' := by
  obtain ⟨i0, hi, hz0, hz1, hz2⟩ := info_parts Tryd.infoInS
  have HINF : Hid (Tryd.prog.info? 59 = some i0 ∧ i0.zero = some (.slice none 0 0) ∧ i0.size = 1 ∧ i0.bytes = 24) := ⟨hi, hz0, hz1, hz2⟩
  clear hi hz0 hz1 hz2
  obtain ⟨i1, hi, hz0, hz1, hz2⟩ := info_parts Tryd.infoIn1
  have HINI : Hid (Tryd.prog.info? 3 = some i1 ∧ i1.zero = some (.int .i64 0) ∧ i1.size = 1 ∧ i1.bytes = 8) := ⟨hi, hz0, hz1, hz2⟩
  clear hi hz0 hz1 hz2
  obtain ⟨ad, cap, rfl⟩ := h.form
  obtain ⟨W1, hW1⟩ : ∃ W1, W1 = w.alloc (.cells #[.int .i64 N, .slice ad L.length cap] 24) := ⟨_, rfl⟩
  obtain ⟨bx, hbx⟩ : ∃ bx, bx = w.heap.size := ⟨_, rfl⟩
  have hb1 : Below w.heap.size w W1 := by rw [hW1]; exact (Below.refl _ _).alloc (Nat.le_refl _) _
  have q0 : W1.cell? ⟨bx, 0, none⟩ = some (.int .i64 N) := by rw [hW1, hbx]; go_simp
  have q1 : W1.cell? ⟨bx, 1, none⟩ = some (.slice ad L.length cap) := by rw [hW1, hbx]; go_simp
  have HC : Hid (∀ W, Below W1.heap.size W1 W → W.cell? ⟨bx, 0, none⟩ = some (.int .i64 N) ∧ W.cell? ⟨bx, 1, none⟩ = some (.slice ad L.length cap)) := fun W hb => ⟨by rw [hb.cell (cell_lt q0)]; exact q0, by rw [hb.cell (cell_lt q1)]; exact q1⟩
  have HL := Hid.mk' (fun (W : World) (hb : Below W1.heap.size W1 W) => (h.later hb1).later hb)
  have HEND := Hid.mk' hb1
  have HWB := Hid.mk' (fun (x : Wr) (hx : x ∈ L) => wireB_parts (wiresB_mem hs x hx))
  have HWC := Hid.mk' (wires_c hs)
  have HSZ : Hid (w.heap.size ≤ W1.heap.size) := hb1.size
  clear h hs hb1
  go_enter Tryd.func11, Tryd.ntmps11
  go_upto_region 1 with fail
  rw [← hW1, ← hbx]
  clear hW1 hbx q0 q1
  go_wp2_with fail
  go_loopw [3, 4] (fun c t wr => ∃ (m : Nat) (vs : Nat → Value), m ≤ N ∧ t = .int .i64 m ∧ Hid (RowsO wr W1.heap.size c m N L vs) ∧ Hid (Below W1.heap.size W1 wr)) (fun _ t _ => N - (intOf t).toNat)
  case atStart => exact ⟨0, fun _ => .slice none 0 0, Nat.zero_le _, rfl, ⟨World.ownsRow_nil _ _ _ _, fun i hi => by omega⟩, Below.refl _ _⟩
  case round =>
    obtain ⟨m, vs, hm, rfl, HO, HB⟩ := hrel
    have hm0 : (0 : Int) ≤ (m : Int) := by omega
    obtain ⟨q0, q1⟩ := HC.out wr HB.out
    rcases Nat.lt_or_ge m N with h1 | h1
    · have hmI : (m : Int) < (N : Int) := by omega
      go_wp2_with (at_make; go_must (refine wpList_make_full _ rfl _ _ _ rfl wr.heap.size 3 i1 _ 1 Tryd.underlying59 HINI.out.1 HINI.out.2.1 HINI.out.2.2.1 .i64 .i64 _ _ N rfl rfl rfl rfl (by rw [HINI.out.2.2.2]; omega) (by unfold maxLen; omega) (Nat.le_refl _) ?_; intro w3 hown3 hgrow3; have HF3 := Hid.mk' (fills_made hown3 (fun i hi => made_one (.int .i64 0) rfl N i hi) hgrow3); clear hown3 hgrow3))
      clear q0 q1
      obtain ⟨Wr, hWr⟩ : ∃ Wr, Wr = wr := ⟨_, rfl⟩
      have HF4 : Hid (Fills Wr w3 Wr.heap.size N (wtF (L.take 0) m)) := by rw [hWr]; exact fills_congrO HF3.out (fun i _ => rfl)
      rw [← hWr] at HO HB ⊢
      clear HF3 hWr
      obtain ⟨rw_, hrw⟩ : ∃ rw_, rw_ = Wr.heap.size := ⟨_, rfl⟩
      rw [← hrw] at HF4 ⊢
      have HRW : Hid (Wr.heap.size ≤ rw_) := by show _ ≤ _; omega
      have HNE : Hid (u3.ownBlock ≠ some rw_) := fun e => by have := (own_geW HO.out.own e).2; omega
      clear hrw
      go_loopw [6] (fun t wr => ∃ k : Nat, k ≤ L.length ∧ t = .int .i64 k ∧ Hid (Fills Wr wr rw_ N (wtF (L.take k) m))) (fun t _ => L.length - (intOf t).toNat)
      case atStart => exact ⟨0, Nat.zero_le _, rfl, HF4.out⟩
      case round =>
        clear HF4
        obtain ⟨k, hk, rfl, HF⟩ := hrel
        have hk0 : (0 : Int) ≤ (k : Int) := by omega
        have HBW := Hid.mk' (below_chain HB.out HF.out.below)
        obtain ⟨q0, q1⟩ := HC.out wr HBW.out
        rcases Nat.lt_or_ge k L.length with h5 | h5
        · obtain ⟨x, hx⟩ : ∃ x, L[k]? = some x := ⟨_, List.getElem?_eq_getElem h5⟩
          obtain ⟨b, o, hbo, x0, x1, x2⟩ := (HL.out wr HBW.out).at hx
          subst hbo
          obtain ⟨pa0, paN, pb0, pbN, pab, pc1, pc2⟩ := HWB.out x (List.mem_of_getElem? hx)
          have HTK : Hid (∀ i c, wtF (L.take (k + 1)) i c = wtF (L.take k) i c + wireF x i c) := fun i c => by
            obtain ⟨hi, rfl⟩ := List.getElem?_eq_some_iff.1 hx
            rw [List.take_succ_eq_append_getElem hi, wtF_snoc]
          have HRG : Hid (∀ i c, 0 ≤ wtF (L.take k) i c ∧ wtF (L.take k) i c ≤ 20000) := fun i c => by
            have h1 := wtF_range (l := L.take k) (fun y hy => HWC.out y (List.mem_of_mem_take hy)) i c
            have h2 : (L.take k).length ≤ 20 := by rw [List.length_take]; omega
            omega
          have hkI : (k : Int) < (L.length : Int) := by omega
          obtain ⟨na, hna⟩ : ∃ na : Nat, x.a = (na : Int) := ⟨x.a.toNat, by omega⟩
          obtain ⟨nb, hnb⟩ : ∃ nb : Nat, x.b = (nb : Int) := ⟨x.b.toNat, by omega⟩
          obtain ⟨nc, hnc⟩ : ∃ nc : Int, nc = x.c := ⟨_, rfl⟩
          have HWF : Hid (∀ c, wireF x m c = (if na = m ∧ c = nb then nc else 0) + (if nb = m ∧ c = na then nc else 0)) := fun c => by
            unfold wireF
            rw [hna, hnb, hnc]
            have e1 : ((na : Int) = (m : Int) ∧ (nb : Int) = (c : Int)) ↔ (na = m ∧ c = nb) := by omega
            have e2 : ((nb : Int) = (m : Int) ∧ (na : Int) = (c : Int)) ↔ (nb = m ∧ c = na) := by omega
            simp only [e1, e2]
          rw [hna] at x0 pa0 paN pab
          rw [hnb] at x1 pb0 pbN pab
          rw [← hnc] at x2 pc1 pc2
          have hnaN : na < N := by omega
          have hnbN : nb < N := by omega
          have hnab : na ≠ nb := by omega
          clear hx hna hnb hnc
          obtain ⟨W4, hW4⟩ : ∃ W4, W4 = wr.alloc (.cells #[.int .i64 (na : Int), .int .i64 (nb : Int), .int .i64 nc] 48) := ⟨_, rfl⟩
          have hb4 : Below wr.heap.size wr W4 := by rw [hW4]; exact (Below.refl _ _).alloc (Nat.le_refl _) _
          have c0 : W4.cell? ⟨wr.heap.size, 0, none⟩ = some (.int .i64 (na : Int)) := by rw [hW4]; go_simp
          have c1 : W4.cell? ⟨wr.heap.size, 1, none⟩ = some (.int .i64 (nb : Int)) := by rw [hW4]; go_simp
          have c2 : W4.cell? ⟨wr.heap.size, 2, none⟩ = some (.int .i64 nc) := by rw [hW4]; go_simp
          have HF4 := Hid.mk' (fills_laterO HF.out hb4)
          have hnw : rw_ ≠ wr.heap.size := by have h9 : rw_ < wr.heap.size := cell_lt (HF.out.row na hnaN); omega
          have HCC : Hid (∀ j y, (W4.setCell ⟨rw_, j, none⟩ y).drew.cell? ⟨wr.heap.size, 0, none⟩ = some (.int .i64 (na : Int)) ∧ (W4.setCell ⟨rw_, j, none⟩ y).drew.cell? ⟨wr.heap.size, 1, none⟩ = some (.int .i64 (nb : Int)) ∧ (W4.setCell ⟨rw_, j, none⟩ y).drew.cell? ⟨wr.heap.size, 2, none⟩ = some (.int .i64 nc)) := fun j y => by
            have hn : ∀ i, (⟨rw_, j, none⟩ : Addr) ≠ ⟨wr.heap.size, i, none⟩ := fun i e => hnw (congrArg Addr.block e)
            exact ⟨by show (W4.setCell ⟨rw_, j, none⟩ y).cell? ⟨wr.heap.size, 0, none⟩ = _; rw [World.cell?_setCell_other _ _ _ _ (hn 0)]; exact c0, by show (W4.setCell ⟨rw_, j, none⟩ y).cell? ⟨wr.heap.size, 1, none⟩ = _; rw [World.cell?_setCell_other _ _ _ _ (hn 1)]; exact c1, by show (W4.setCell ⟨rw_, j, none⟩ y).cell? ⟨wr.heap.size, 2, none⟩ = _; rw [World.cell?_setCell_other _ _ _ _ (hn 2)]; exact c2⟩
          have HW4 := Hid.mk' hW4
          clear hb4 hW4 HF
          go_upto_region 10 with fail
          rw [← HW4.out]
          clear x0 x1 x2 q0 q1 HW4 hnw
          generalize wr.heap.size = wb at *
          have hra := HF4.out.row nb hnbN
          have hfa := HF4.out.fz nb hnbN
          have hrb := HF4.out.row na hnaN
          have hfb := HF4.out.fz na hnaN
          rw [Nat.zero_add] at hra hfa hrb hfb
          have hg1 := HRG.out m nb
          have hg2 := HRG.out m na
          by_cases ea : na = m
          · have ead : ((na : Int) == (m : Int)) = true := by simp [ea]
            have ebd : ((nb : Int) == (m : Int)) = false := by rw [beq_eq_false_iff_ne]; omega
            have HSa := Hid.mk' (HF4.out.set hnbN (wtF (L.take k) m nb + nc) (f' := wtF (L.take (k + 1)) m) (fun c _ => by
              rw [HTK.out, HWF.out, if_neg (show ¬ (nb = m ∧ c = na) by omega), Int.add_zero]
              by_cases e : c = nb
              · rw [if_pos ⟨ea, e⟩, if_pos e, e]
              · rw [if_neg (fun h => e h.2), if_neg e, Int.add_zero]))
            obtain ⟨v1, hv1⟩ : ∃ v1, v1 = wtF (L.take k) m nb := ⟨_, rfl⟩
            rw [← hv1] at hra hg1 HSa
            clear hv1 hrb hfb hg2 ea
            go_wp2_with fail
            go_region
            obtain ⟨d0, d1, d2⟩ := HCC.out nb (.int .i64 (v1 + nc))
            go_wp2_with fail
            exact ⟨⟨k + 1, h5, by go_num, HSa.out.drew⟩, by simp [intOf]; omega⟩
          · have ead : ((na : Int) == (m : Int)) = false := by rw [beq_eq_false_iff_ne]; omega
            by_cases eb : nb = m
            · have ebd : ((nb : Int) == (m : Int)) = true := by simp [eb]
              have HSa := Hid.mk' (HF4.out.set hnaN (wtF (L.take k) m na + nc) (f' := wtF (L.take (k + 1)) m) (fun c _ => by
                rw [HTK.out, HWF.out, if_neg (show ¬ (na = m ∧ c = nb) by omega), Int.zero_add]
                by_cases e : c = na
                · rw [if_pos ⟨eb, e⟩, if_pos e, e]
                · rw [if_neg (fun h => e h.2), if_neg e, Int.add_zero]))
              obtain ⟨v1, hv1⟩ : ∃ v1, v1 = wtF (L.take k) m na := ⟨_, rfl⟩
              rw [← hv1] at hrb hg2 HSa
              clear hv1 hra hfa hg1 ea eb
              go_wp2_with fail
              go_region
              go_wp2_with fail
              exact ⟨⟨k + 1, h5, by go_num, HSa.out.drew⟩, by simp [intOf]; omega⟩
            · have ebd : ((nb : Int) == (m : Int)) = false := by rw [beq_eq_false_iff_ne]; omega
              have HSa : Hid (Fills Wr W4 rw_ N (wtF (L.take (k + 1)) m)) := fills_congrO HF4.out (fun c _ => by rw [HTK.out, HWF.out, if_neg (by omega), if_neg (by omega)]; omega)
              clear hra hfa hrb hfb hg1 hg2 ea eb
              go_wp2_with fail
              exact ⟨⟨k + 1, h5, by go_num, HSa.out⟩, by simp [intOf]; omega⟩
        · obtain rfl : k = L.length := by omega
          rw [List.take_length] at HF
          have HO2 := Hid.mk' (HO.out.later HF.out.below)
          obtain ⟨ca, cc, hce⟩ := own_formW HO.out.own
          subst hce
          have hsz := HBW.out.size
          have HRL : Hid (∀ t xs, RowAt (wr.alloc (.cells xs t)) rw_ 0 N (wtF L m)) := fun t xs => HF.out.row.later ((Below.refl _ _).alloc (Nat.le_refl _) _)
          go_wp2_with (at_builtin; go_must (refine wpList_append_lies _ rfl _ _ _ rfl W1.heap.size 59 i0 _ 1 24 Tryd.underlying36 HINF.out.1 HINF.out.2.1 HINF.out.2.2.1 HINF.out.2.2.2 rfl (by omega) _ _ _ rfl (HO2.out.own.alloc _) ⟨wr.heap.size, 0, none⟩ 1 1 [.slice (some ⟨rw_, 0, none⟩) N N] rfl rfl (one_new _ _ _) (by simp [Value.oneCell']) (by omega) (by unfold maxLen; omega) (by omega) (by simp; omega) _ rfl ?_; intro g' cap' w9 hown9 hgrow9 hat9 hlt9; have HO9 := Hid.mk' ((HO2.out.later ((Below.refl _ _).alloc (Nat.le_refl _) _)).push (by omega) (HRL.out _ _) HNE.out hgrow9 hown9 hat9); have HB9 := Hid.mk' (below_push HBW.out HO2.out.own hgrow9); clear hown9 hgrow9 hat9 hlt9))
          exact ⟨⟨m + 1, _, h1, by go_num, HO9.out, HB9.out⟩, by simp [intOf]; omega⟩
    · obtain rfl : m = N := by omega
      have HBB := Hid.mk' (below_chain HEND.out HB.out)
      go_wp2_with fail
      go_ret
      exact ⟨_, vs, rfl, ⟨⟨HO.out.own.1, HO.out.own.2.imp id (fun ⟨g, cap, cur, hv, hg, r⟩ => ⟨g, cap, cur, hv, Nat.le_trans HSZ.out hg, r⟩)⟩, HO.out.rows⟩, HBB.out⟩
end Go.Proofs.YtlnhpkmcinohdaaDoor

/- Right chains: the document's and the program's. -/
namespace Go.Proofs.YtlnhpkmcinohdaaDoor
open Go.RowKit

/-- A row among the first k that is of another length, below 0 or nothing; one that is too great. -/
def shapeB (n : Nat) (ns : Nat → Nat) (zs : Nat → Nat → Int) : Nat → Bool
  | 0 => false
  | k + 1 => shapeB n ns zs k || decide (ns k ≠ n ∨ listErr (zs k) (ns k) = 3)
def boundB (ns : Nat → Nat) (zs : Nat → Nat → Int) : Nat → Bool
  | 0 => false
  | k + 1 => boundB ns zs k || decide (listErr (zs k) (ns k) ≠ 0)
def chainErr (n : Nat) (ns : Nat → Nat) (zs : Nat → Nat → Int) : Nat := if 8 < n then 2 else if n = 0 then 3 else if shapeB n ns zs n = true then 3 else if boundB ns zs n = true then 2 else 0
theorem shapeB_at {n : Nat} {ns : Nat → Nat} {zs : Nat → Nat → Int} {k : Nat} : ∀ {m : Nat}, k < m → (ns k ≠ n ∨ listErr (zs k) (ns k) = 3) → shapeB n ns zs m = true
  | 0, h, _ => by omega
  | m + 1, h, hb => by
    rw [shapeB]
    rcases Nat.lt_or_ge k m with h1 | h1
    · rw [shapeB_at h1 hb]; rfl
    · obtain rfl : k = m := by omega
      rw [decide_eq_true hb]; simp
theorem shapeB_none {n : Nat} {ns : Nat → Nat} {zs : Nat → Nat → Int} : ∀ {m : Nat}, shapeB n ns zs m = false → ∀ k, k < m → ns k = n ∧ listErr (zs k) (ns k) ≠ 3
  | 0, _, k, h => by omega
  | m + 1, h, k, hk => by
    rw [shapeB, Bool.or_eq_false_iff] at h
    rcases Nat.lt_or_ge k m with h1 | h1
    · exact shapeB_none h.1 k h1
    · obtain rfl : k = m := by omega
      have := of_decide_eq_false h.2
      exact ⟨by omega, by omega⟩
theorem boundB_none {ns : Nat → Nat} {zs : Nat → Nat → Int} : ∀ {m : Nat}, boundB ns zs m = false → ∀ k, k < m → listErr (zs k) (ns k) = 0
  | 0, _, k, h => by omega
  | m + 1, h, k, hk => by
    rw [boundB, Bool.or_eq_false_iff] at h
    rcases Nat.lt_or_ge k m with h1 | h1
    · exact boundB_none h.1 k h1
    · obtain rfl : k = m := by omega
      have := of_decide_eq_false h.2
      omega
theorem listErr_cases (z : Nat → Int) (n : Nat) : listErr z n = 0 ∨ listErr z n = 2 ∨ listErr z n = 3 := by
  unfold listErr
  split
  · exact Or.inr (Or.inr rfl)
  · split
    · exact Or.inr (Or.inl rfl)
    · exact Or.inl rfl
theorem chainErr_le (n : Nat) (ns : Nat → Nat) (zs : Nat → Nat → Int) : chainErr n ns zs ≤ 3 := by
  unfold chainErr; split; omega; split; omega; split; omega; split <;> omega
/-- What a right chain is. -/
theorem chainErr_ok {n : Nat} {ns : Nat → Nat} {zs : Nat → Nat → Int} (h : chainErr n ns zs = 0) : 0 < n ∧ n ≤ 8 ∧ (∀ i, i < n → ns i = n) ∧ ∀ i, i < n → OkW (zs i) n := by
  unfold chainErr at h
  by_cases h1 : 8 < n
  · rw [if_pos h1] at h; cases h
  rw [if_neg h1] at h
  by_cases h2 : n = 0
  · rw [if_pos h2] at h; cases h
  rw [if_neg h2] at h
  cases h3 : shapeB n ns zs n with
  | true => rw [h3, if_pos rfl] at h; cases h
  | false =>
    rw [h3, if_neg (by simp)] at h
    cases h4 : boundB ns zs n with
    | true => rw [h4, if_pos rfl] at h; cases h
    | false =>
      refine ⟨by omega, by omega, fun i hi => (shapeB_none h3 i hi).1, fun i hi => ?_⟩
      have := listErr_ok (boundB_none h4 i hi)
      rw [(shapeB_none h3 i hi).1] at this
      exact this

set_option maxRecDepth 100000 in
set_option maxHeartbeats 2000000 in
theorem ChainError_any (v : Value) (n : Nat) (vs : Nat → Value) (ns : Nat → Nat) (zs : Nat → Nat → Int) (w : World) (h : TabAt w v n vs ns zs) (hn : n ≤ 1000000) (hns : ∀ i, i < n → ns i ≤ 1000000) :
    Calls Tryd.prog 12 #[v] w fun e w' => e = .returned (.int .i64 (chainErr n ns zs : Nat)) ∧ w' = w := by
  obtain ⟨ad, cap, rfl⟩ := h.form
  have HT := Hid.mk' h
  clear h
  by_cases h8 : 8 < n
  · have hI : (8 : Int) < (n : Int) := by omega
    have he : chainErr n ns zs = 2 := by unfold chainErr; rw [if_pos h8]
    rw [he]
    go_enter Tryd.func12, Tryd.ntmps12
    go_wp2_with fail
    go_ret
    exact ⟨rfl, rfl⟩
  have hI : ¬ (8 : Int) < (n : Int) := by omega
  rcases Nat.eq_zero_or_pos n with h0 | h0
  · subst h0
    go_enter Tryd.func12, Tryd.ntmps12
    go_wp2_with fail
    go_ret
    exact ⟨rfl, rfl⟩
  have hz : ((n : Int) == 0) = false := by rw [beq_eq_false_iff_ne]; omega
  obtain ⟨b, o, rfl, hrows⟩ : ∃ b o, ad = some ⟨b, o, none⟩ ∧ ∀ i, i < n → w.cell? ⟨b, o + i, none⟩ = some (vs i) ∧ NumsAt w (vs i) (ns i) (zs i) := by
    rcases HT.out with ⟨_, _, _, h1⟩ | ⟨b, o, c, h1, _, h2⟩
    · omega
    · simp only [Value.slice.injEq, true_and] at h1
      exact ⟨b, o, h1.1, h2⟩
  have HR := Hid.mk' hrows
  have HNS := Hid.mk' hns
  have HE : Hid (chainErr n ns zs = if shapeB n ns zs n = true then 3 else if boundB ns zs n = true then 2 else 0) := by show _ = _; unfold chainErr; rw [if_neg h8, if_neg (by omega)]
  clear hrows hns
  go_enter Tryd.func12, Tryd.ntmps12
  go_wp2_with fail
  go_loop [3, 4] (fun s t => ∃ k : Nat, k ≤ n ∧ t = .int .i64 k ∧ s = .bool (boundB ns zs k) ∧ Hid (shapeB n ns zs k = false)) (fun _ t => n - (intOf t).toNat)
  case atStart => exact ⟨0, Nat.zero_le _, rfl, rfl, rfl⟩
  case round =>
    obtain ⟨k, hk, rfl, rfl, HS⟩ := hrel
    rcases Nat.lt_or_ge k n with h1 | h1
    · have hkI : (k : Int) < (n : Int) := by omega
      have hk0 : (0 : Int) ≤ (k : Int) := by omega
      obtain ⟨hc, hnum⟩ := HR.out k h1
      obtain ⟨rad, rcap, hre⟩ := hnum.form
      rw [hre] at hc hnum
      have hle := listError_any _ (ns k) (zs k) w hnum (HNS.out k h1)
      have hnk := HNS.out k h1
      by_cases hsh : ns k = n
      · have HSH := Hid.mk' hsh
        rcases listErr_cases (zs k) (ns k) with h5 | h5 | h5
        · rw [h5, hsh] at hle
          rw [hsh] at hc
          have HS' : Hid (shapeB n ns zs (k + 1) = false) := by show _ = _; rw [shapeB, HS.out, decide_eq_false (by rw [h5]; have := HSH.out; omega)]; rfl
          have HB' : Hid (boundB ns zs (k + 1) = boundB ns zs k) := by show _ = _; rw [boundB, decide_eq_false (by rw [h5]; simp)]; simp
          cases hbb : boundB ns zs k with
          | true =>
            rw [hbb] at HB'
            clear h5 hsh
            go_wp2_with fail
            refine hle.mono ?_
            clear hle
            rintro e w2 ⟨rfl, hw2⟩
            go_wp2_with fail
            exact ⟨⟨k + 1, h1, by go_num, by rw [HB'.out], HS'⟩, by simp [intOf]; omega⟩
          | false =>
            rw [hbb] at HB'
            clear h5 hsh
            go_wp2_with fail
            refine hle.mono ?_
            clear hle
            rintro e w2 ⟨rfl, hw2⟩
            go_wp2_with fail
            exact ⟨⟨k + 1, h1, by go_num, by rw [HB'.out], HS'⟩, by simp [intOf]; omega⟩
        · rw [h5, hsh] at hle
          rw [hsh] at hc
          have HS' : Hid (shapeB n ns zs (k + 1) = false) := by show _ = _; rw [shapeB, HS.out, decide_eq_false (by rw [h5]; have := HSH.out; omega)]; rfl
          have HB' : Hid (boundB ns zs (k + 1) = true) := by show _ = _; rw [boundB, decide_eq_true (by rw [h5]; simp)]; simp
          cases hbb : boundB ns zs k with
          | true =>
            clear h5 hsh
            go_wp2_with fail
            refine hle.mono ?_
            clear hle
            rintro e w2 ⟨rfl, hw2⟩
            go_wp2_with fail
            exact ⟨⟨k + 1, h1, by go_num, by rw [HB'.out], HS'⟩, by simp [intOf]; omega⟩
          | false =>
            clear h5 hsh
            go_wp2_with fail
            refine hle.mono ?_
            clear hle
            rintro e w2 ⟨rfl, hw2⟩
            go_wp2_with fail
            exact ⟨⟨k + 1, h1, by go_num, by rw [HB'.out], HS'⟩, by simp [intOf]; omega⟩
        · rw [h5, hsh] at hle
          rw [hsh] at hc
          have HV : Hid (chainErr n ns zs = 3) := by show _ = _; rw [HE.out, if_pos (shapeB_at h1 (Or.inr h5))]
          clear h5 hsh
          go_wp2_with fail
          refine hle.mono ?_
          clear hle
          rintro e w2 ⟨rfl, hw2⟩
          go_wp2_with fail
          go_ret
          exact ⟨ret_int (by rw [HV.out]; rfl), rfl⟩
      · have hne : ((ns k : Int) != (n : Int)) = true := by rw [bne_iff_ne]; omega
        have HV : Hid (chainErr n ns zs = 3) := by show _ = _; rw [HE.out, if_pos (shapeB_at h1 (Or.inl hsh))]
        clear hsh hle
        go_wp2_with fail
        go_ret
        exact ⟨ret_int (by rw [HV.out]; rfl), rfl⟩
    · obtain rfl : n = k := by omega
      cases hbb : boundB ns zs n with
      | true =>
        have HV : Hid (chainErr n ns zs = 2) := by show _ = _; rw [HE.out, HS.out, if_neg (by simp), if_pos hbb]
        go_wp2_with fail
        go_ret
        exact ⟨ret_int (by rw [HV.out]; rfl), rfl⟩
      | false =>
        have HV : Hid (chainErr n ns zs = 0) := by show _ = _; rw [HE.out, HS.out, if_neg (by simp), if_neg (by rw [hbb]; simp)]
        go_wp2_with fail
        go_ret
        exact ⟨ret_int (by rw [HV.out]; rfl), rfl⟩
end Go.Proofs.YtlnhpkmcinohdaaDoor

/- chain.Valid. -/
namespace Go.Proofs.YtlnhpkmcinohdaaDoor
open Go.RowKit

theorem weightsErr_few {z : Nat → Int} {n : Nat} (h : n ≤ 16) : weightsErr z n = listErr z n := by unfold weightsErr; rw [if_neg (by omega)]
set_option maxRecDepth 100000 in
set_option maxHeartbeats 4000000 in
theorem chainValid_any (a : Nat → Addr) (v : Value) (n : Nat) (vs : Nat → Value) (ns : Nat → Nat) (zs : Nat → Nat → Int) (w : World) (hE : Errs w a) (h : TabAt w v n vs ns zs) (hn : n ≤ 1000000) :
    Calls Tryd.prog 26 #[v] w fun e w' => e = .returned (errV a (chainErr n ns zs)) ∧ w' = w := by
  obtain ⟨ad, cap, rfl⟩ := h.form
  have HT := Hid.mk' h
  have cB := hE.c1
  have cS := hE.c2
  obtain ⟨i, hi, hcmp⟩ := Option.map_eq_some_iff.1 Tryd.isComp
  obtain ⟨j, hj, hjs⟩ := Option.map_eq_some_iff.1 Tryd.isSize
  have heq := run_eql_iface_ptr_same (P := Tryd.prog) w (a 2) Tryd.underlying30 Tryd.underlying143 hi hcmp hj
  obtain ⟨ca, ta, hca⟩ := hE.row 1 (by decide)
  obtain ⟨cb, tb, hcb⟩ := hE.row 2 (by decide)
  have hne2 := run_eql_iface_ptr_other (P := Tryd.prog) w Tryd.underlying30 Tryd.underlying143 hi hcmp hj (by rw [hjs]; decide) (hE.ne 1 2 (by decide) (by decide) (by decide)) hca hcb
  have HEE := Hid.mk' hE
  clear h hca hcb hi hcmp hj hjs hE
  by_cases h8 : 8 < n
  · have hI : (8 : Int) < (n : Int) := by omega
    have he : chainErr n ns zs = 2 := by unfold chainErr; rw [if_pos h8]
    rw [he, errV_two]
    go_enter Tryd.func26, Tryd.ntmps26
    go_wp2_with fail
    go_ret
    exact ⟨rfl, rfl⟩
  have hI : ¬ (8 : Int) < (n : Int) := by omega
  rcases Nat.eq_zero_or_pos n with h0 | h0
  · subst h0
    have he : chainErr 0 ns zs = 3 := by unfold chainErr; simp
    rw [he, errV_three]
    go_enter Tryd.func26, Tryd.ntmps26
    go_wp2_with fail
    go_ret
    exact ⟨rfl, rfl⟩
  have hz : ((n : Int) == 0) = false := by rw [beq_eq_false_iff_ne]; omega
  obtain ⟨b, o, rfl, hrows⟩ : ∃ b o, ad = some ⟨b, o, none⟩ ∧ ∀ i, i < n → w.cell? ⟨b, o + i, none⟩ = some (vs i) ∧ NumsAt w (vs i) (ns i) (zs i) := by
    rcases HT.out with ⟨_, _, _, h1⟩ | ⟨b, o, c, h1, _, h2⟩
    · omega
    · simp only [Value.slice.injEq, true_and] at h1
      exact ⟨b, o, h1.1, h2⟩
  have HR := Hid.mk' hrows
  have HE : Hid (chainErr n ns zs = if shapeB n ns zs n = true then 3 else if boundB ns zs n = true then 2 else 0) := by show _ = _; unfold chainErr; rw [if_neg h8, if_neg (by omega)]
  clear hrows
  go_enter Tryd.func26, Tryd.ntmps26
  go_wp2_with fail
  go_loop [3, 17] (fun s t => ∃ k : Nat, k ≤ n ∧ t = .int .i64 k ∧ s = errV a (if boundB ns zs k = true then 2 else 0) ∧ Hid (shapeB n ns zs k = false)) (fun _ t => n - (intOf t).toNat)
  case atStart => exact ⟨0, Nat.zero_le _, rfl, rfl, rfl⟩
  case round =>
    obtain ⟨k, hk, rfl, hsl, HS⟩ := hrel
    have HSL := Hid.mk' hsl
    clear hsl
    rcases Nat.lt_or_ge k n with h1 | h1
    · have hkI : (k : Int) < (n : Int) := by omega
      have hk0 : (0 : Int) ≤ (k : Int) := by omega
      obtain ⟨hc, hnum⟩ := HR.out k h1
      obtain ⟨rad, rcap, hre⟩ := hnum.form
      rw [hre] at hc hnum
      by_cases hsh : ns k = n
      · have HSH := Hid.mk' hsh
        have hle := Valid_weights a _ (ns k) (zs k) w HEE.out hnum (by omega)
        rw [weightsErr_few (by omega)] at hle
        rcases listErr_cases (zs k) (ns k) with h5 | h5 | h5
        · rw [h5, hsh, errV_zero] at hle
          rw [hsh] at hc
          have HS' : Hid (shapeB n ns zs (k + 1) = false) := by show _ = _; rw [shapeB, HS.out, decide_eq_false (by rw [h5]; have := HSH.out; omega)]; rfl
          have HB' : Hid (boundB ns zs (k + 1) = boundB ns zs k) := by show _ = _; rw [boundB, decide_eq_false (by rw [h5]; simp)]; simp
          clear h5 hsh hre hnum
          go_wp2_with fail
          refine hle.mono ?_
          clear hle
          rintro e w2 ⟨rfl, hw2⟩
          go_wp2_with fail
          exact ⟨⟨k + 1, h1, by go_num, by rw [HB'.out]; exact HSL.out, HS'⟩, by simp [intOf]; omega⟩
        · rw [h5, hsh, errV_two] at hle
          rw [hsh] at hc
          have HS' : Hid (shapeB n ns zs (k + 1) = false) := by show _ = _; rw [shapeB, HS.out, decide_eq_false (by rw [h5]; have := HSH.out; omega)]; rfl
          have HB' : Hid (boundB ns zs (k + 1) = true) := by show _ = _; rw [boundB, decide_eq_true (by rw [h5]; simp)]; simp
          clear h5 hsh hre hnum
          go_wp2_with fail
          refine hle.mono ?_
          clear hle
          rintro e w2 ⟨rfl, hw2⟩
          go_wp2_with fail
          exact ⟨⟨k + 1, h1, by go_num, by rw [HB'.out, if_pos rfl, errV_two], HS'⟩, by simp [intOf]; omega⟩
        · rw [h5, hsh, errV_three] at hle
          rw [hsh] at hc
          have HV : Hid (chainErr n ns zs = 3) := by show _ = _; rw [HE.out, if_pos (shapeB_at h1 (Or.inr h5))]
          clear h5 hsh hre hnum
          go_wp2_with fail
          refine hle.mono ?_
          clear hle
          rintro e w2 ⟨rfl, hw2⟩
          go_wp2_with fail
          go_ret
          exact ⟨by rw [HV.out, errV_three]; rfl, rfl⟩
      · have hne : ((ns k : Int) != (n : Int)) = true := by rw [bne_iff_ne]; omega
        have HV : Hid (chainErr n ns zs = 3) := by show _ = _; rw [HE.out, if_pos (shapeB_at h1 (Or.inl hsh))]
        clear hsh hre hnum
        go_wp2_with fail
        go_ret
        exact ⟨by rw [HV.out, errV_three]; rfl, rfl⟩
    · obtain rfl : n = k := by omega
      have HV : Hid (chainErr n ns zs = if boundB ns zs n = true then 2 else 0) := by show _ = _; rw [HE.out, HS.out, if_neg (by simp)]
      go_wp2_with fail
      go_ret
      exact ⟨by rw [HV.out, ← HSL.out]; rfl, rfl⟩
end Go.Proofs.YtlnhpkmcinohdaaDoor

/- walks.Chain; when the weights of a network are a right chain. -/
namespace Go.Proofs.YtlnhpkmcinohdaaDoor
open Go.RowKit

/-- A table's rows, told one by one. -/
theorem rows_tab {w : World} {v : Value} {N : Nat} {z : Nat → Nat → Int} (h : RowsAt w v N z) (hN : 0 < N) : ∃ vs, TabAt w v N vs (fun _ => N) z := by
  obtain ⟨g, o, cap, rfl, hr⟩ := h
  have hx : ∀ i, ∃ u, i < N → w.cell? ⟨g, o + i, none⟩ = some u ∧ NumsAt w u N (z i) := fun i => by
    by_cases hi : i < N
    · obtain ⟨b, o', c, h1, h2⟩ := hr i hi
      exact ⟨_, fun _ => ⟨h1, Or.inr ⟨b, o', c, rfl, hN, h2⟩⟩⟩
    · exact ⟨.nilIface, fun h => absurd h hi⟩
  exact ⟨fun i => Classical.choose (hx i), Or.inr ⟨g, o, cap, rfl, hN, fun i hi => Classical.choose_spec (hx i) hi⟩⟩
/-- What the chain of a network lacks. -/
def chE (N : Nat) (L : List Wr) : Nat := if nwE N L ≠ 0 then nwE N L else if N = 1 then 6 else chainErr N (fun _ => N) (wtF L)
theorem sumN_pos {z : Nat → Int} {n k : Nat} (h : ∀ i, i < n → 0 ≤ z i) (hk : k < n) (hp : 0 < z k) : 0 < sumN z n := by have := sumN_ge h hk; omega
/-- Each vertex of a joined network of two or more has a wire. -/
theorem conn_wire {N : Int} {L : List Wr} (hN : 2 ≤ N) (h : Conn N L) (i : Int) (hi : 0 ≤ i ∧ i < N) : ∃ x, x ∈ L ∧ (x.a = i ∨ x.b = i) := by
  by_cases hx : ∃ x, x ∈ L ∧ (x.a = i ∨ x.b = i)
  · exact hx
  · exfalso
    have hn : ∀ x, x ∈ L → x.a ≠ i ∧ x.b ≠ i := fun x hm => ⟨fun e => hx ⟨x, hm, Or.inl e⟩, fun e => hx ⟨x, hm, Or.inr e⟩⟩
    by_cases h0 : i = 0
    · have := h (fun v => v = 0) rfl (fun x hm => by have := hn x hm; constructor <;> intro e <;> omega) 1 (by omega) (by omega)
      have e : (1 : Int) = 0 := this
      omega
    · have := h (fun v => v ≠ i) (fun e => h0 e.symm) (fun x hm => by have := hn x hm; exact ⟨fun _ => this.2, fun _ => this.1⟩) i hi.1 hi.2
      exact this rfl
theorem wtF_ge {L : List Wr} (hc : ∀ x, x ∈ L → x.a ≠ x.b ∧ 0 ≤ x.c ∧ x.c ≤ 1000) {x : Wr} (i k : Nat) : x ∈ L → wireF x i k ≤ wtF L i k := by
  induction L with
  | nil => intro h; cases h
  | cons y L ih =>
    intro h
    have h1 := wireF_range (hc y (by simp)).1 (hc y (by simp)).2.1 i k
    have h2 := wtF_range (l := L) (fun z hz => hc z (List.mem_cons_of_mem _ hz)) i k
    show _ ≤ wireF y i k + wtF L i k
    rcases List.mem_cons.1 h with rfl | h
    · omega
    · have := ih (fun z hz => hc z (List.mem_cons_of_mem _ hz)) h
      omega
theorem wt_some {N : Nat} {L : List Wr} (hN : 2 ≤ N) (hs : wiresB N L = true) (hj : joinV L.length N L = true) (i : Nat) (hi : i < N) : ∃ k, k < N ∧ 0 < wtF L i k := by
  have hin : InR N L := fun x hx => by have := wireB_parts (wiresB_mem hs x hx); exact ⟨this.1, this.2.1, this.2.2.1, this.2.2.2.1, this.2.2.2.2.1⟩
  have hc := (conn_joinV L.length N L (Nat.le_refl _) (by omega) hin).1 hj
  obtain ⟨x, hx, hxi⟩ := conn_wire (by omega) hc (i : Int) (by omega)
  have hp := wireB_parts (wiresB_mem hs x hx)
  rcases hxi with e | e
  · refine ⟨x.b.toNat, by omega, ?_⟩
    have h1 := wtF_ge (wires_c hs) i x.b.toNat hx
    have h2 : wireF x i x.b.toNat = x.c := by
      unfold wireF
      rw [if_pos ⟨e, by omega⟩, if_neg (by omega), Int.add_zero]
    omega
  · refine ⟨x.a.toNat, by omega, ?_⟩
    have h1 := wtF_ge (wires_c hs) i x.a.toNat hx
    have h2 : wireF x i x.a.toNat = x.c := by
      unfold wireF
      rw [if_neg (by omega), if_pos ⟨e, by omega⟩, Int.zero_add]
    omega
/-- Such a chain is never of a wrong shape. -/
theorem chain_shape {N : Nat} {L : List Wr} (hN : 2 ≤ N) (h8 : N ≤ 8) (hs : wiresB N L = true) (hj : joinV L.length N L = true) : chainErr N (fun _ => N) (wtF L) = 0 ∨ chainErr N (fun _ => N) (wtF L) = 2 := by
  have hrow : ∀ i, i < N → listErr (wtF L i) N ≠ 3 := fun i hi e => by
    unfold listErr at e
    split at e
    · rename_i h
      rcases h with h | h
      · obtain ⟨k, _, h2⟩ := (negB_iff _ _).1 h
        have := wtF_range (wires_c hs) i k
        omega
      · obtain ⟨k, h1, h2⟩ := wt_some hN hs hj i hi
        have : someB (wtF L i) N = true := (someB_iff _ _).2 ⟨k, h1, h2⟩
        rw [h] at this; cases this
    · split at e <;> cases e
  have hsh : ∀ m, m ≤ N → shapeB N (fun _ => N) (wtF L) m = false := fun m => by
    induction m with
    | zero => intro _; rfl
    | succ m ih =>
      intro hm
      rw [shapeB, ih (by omega), Bool.false_or]
      exact decide_eq_false (fun h => by rcases h with h | h; exact h rfl; exact hrow m (by omega) h)
  unfold chainErr
  rw [if_neg (by omega), if_neg (by omega), hsh N (Nat.le_refl _), if_neg (by decide)]
  split
  · exact Or.inr rfl
  · exact Or.inl rfl

set_option maxRecDepth 100000 in
set_option maxHeartbeats 8000000 in
theorem WChain_any (a : Nat → Addr) (N : Int) (v : Value) (L : List Wr) (w : World) (hE : Errs w a) (h : WrAt w v L) (hl : L.length ≤ 1000) :
    Calls Tryd.prog 13 #[.agg #[.int .i64 N, v]] w fun e w' => ∃ r, e = .returned (.tuple #[r, errV a (chE N.toNat L)]) ∧ (chE N.toNat L ≠ 0 → r = .slice none 0 0) ∧ (chE N.toNat L = 0 → RowsAt w' r N.toNat (wtF L)) ∧ Below w.heap.size w w' := by
  obtain ⟨ad, cap, rfl⟩ := h.form
  obtain ⟨W1, hW1⟩ : ∃ W1, W1 = w.alloc (.cells #[.int .i64 N, .slice ad L.length cap] 34) := ⟨_, rfl⟩
  obtain ⟨bx, hbx⟩ : ∃ bx, bx = w.heap.size := ⟨_, rfl⟩
  have hb1 : Below w.heap.size w W1 := by rw [hW1]; exact (Below.refl _ _).alloc (Nat.le_refl _) _
  have q0 : W1.cell? ⟨bx, 0, none⟩ = some (.int .i64 N) := by rw [hW1, hbx]; go_simp
  have q1 : W1.cell? ⟨bx, 1, none⟩ = some (.slice ad L.length cap) := by rw [hW1, hbx]; go_simp
  have HC : Hid (∀ W, Below W1.heap.size W1 W → W.cell? ⟨bx, 0, none⟩ = some (.int .i64 N) ∧ W.cell? ⟨bx, 1, none⟩ = some (.slice ad L.length cap)) := fun W hb => ⟨by rw [hb.cell (cell_lt q0)]; exact q0, by rw [hb.cell (cell_lt q1)]; exact q1⟩
  have HV := Hid.mk' (NetValid_any a N (.slice ad L.length cap) L W1 (hE.below hb1) (h.later hb1) hl)
  have HE5 := Hid.mk' (fun (W : World) (hb : Below W1.heap.size W1 W) => ((hE.below hb1).below hb).c5)
  have HB1 := Hid.mk' hb1
  by_cases hE0 : nwE N L = 0
  · obtain ⟨k1, k2, k3, k4, k5⟩ := nwE_ok hE0
    obtain ⟨M, rfl⟩ : ∃ M : Nat, N = (M : Int) := ⟨N.toNat, by omega⟩
    rw [Int.toNat_natCast]
    rw [hE0] at HV
    have HV0 : Hid (errV a 0 = .nilIface) := rfl
    have HWT := Hid.mk' (fun (W : World) (hb : Below W1.heap.size W1 W) => weights_any M (.slice ad L.length cap) L W ((h.later hb1).later hb) k3 (by omega) k4)
    have HCV := Hid.mk' (fun (W : World) (r : Value) (hb : Below W1.heap.size W1 W) (hr : RowsAt W r M (wtF L)) => (rows_tab hr (by omega)).elim (fun vs ht => chainValid_any a r M vs (fun _ => M) (wtF L) W ((hE.below hb1).below hb) ht (by omega)))
    have HCE : Hid (chE M L = if M = 1 then 6 else chainErr M (fun _ => M) (wtF L)) := by show _ = _; unfold chE; rw [if_neg (fun h => h hE0)]
    clear hE h hE0 k1 k2 k3 k4 k5 hb1
    go_enter Tryd.func13, Tryd.ntmps13
    go_upto_region 1 with fail
    rw [← hW1, ← hbx]
    clear hW1 hbx
    go_wp2_with fail
    refine HV.out.mono ?_
    clear q0 q1
    rintro e w2 ⟨rfl, hb2⟩
    rw [HV0.out]
    have HB2 := Hid.mk' hb2
    obtain ⟨q0, q1⟩ := HC.out w2 hb2
    have e5 := HE5.out w2 hb2
    clear hb2
    by_cases hM : M = 1
    · have hd : ((M : Int) == 1) = true := by simp [hM]
      have HR : Hid (chE M L = 6) := by show _ = _; rw [HCE.out, if_pos hM]
      clear hM
      go_wp2_with fail
      go_quiet (fail)
      go_wp2_with fail
      go_ret2
      exact ⟨_, by rw [HR.out]; rfl, fun _ => rfl, (fun e => by rw [HR.out] at e; cases e), below_drawn (below_chain HB1.out HB2.out) _⟩
    · have hd : ((M : Int) == 1) = false := by rw [beq_eq_false_iff_ne]; omega
      have HR : Hid (chE M L = chainErr M (fun _ => M) (wtF L)) := by show _ = _; rw [HCE.out, if_neg hM]
      clear hM e5
      go_wp2_with fail
      refine (HWT.out w2 HB2.out).mono ?_
      clear q0 q1
      rintro e w3 ⟨r, rfl, hr, hb3⟩
      have hcv := HCV.out w3 r (below_chain HB2.out hb3) hr
      have HR3 := Hid.mk' hr
      have HB3 := Hid.mk' (below_chain HB1.out (below_chain HB2.out hb3))
      have hle := chainErr_le M (fun _ => M) (wtF L)
      clear hr hb3
      generalize chainErr M (fun _ => M) (wtF L) = CE at *
      rcases Nat.eq_zero_or_pos CE with h0 | h0
      · subst h0
        rw [HV0.out] at hcv
        go_wp2_with fail
        refine hcv.mono ?_
        clear hcv
        rintro e w4 ⟨rfl, hw4⟩
        rw [hw4]
        clear hw4
        go_wp2_with fail
        go_ret2
        exact ⟨_, by rw [HR.out]; rfl, fun e => absurd HR.out e, fun _ => HR3.out, HB3.out⟩
      · have HVC : Hid (errV a CE = .iface 143 (.pointer (some (a (CE - 1))))) := by show _ = _; unfold errV; rw [if_neg (by omega)]
        have HCN : Hid (chE M L ≠ 0) := by show _ ≠ _; rw [HR.out]; omega
        have HRE : Hid (errV a (chE M L) = .iface 143 (.pointer (some (a (CE - 1))))) := by show _ = _; rw [HR.out, HVC.out]
        rw [HVC.out] at hcv
        go_wp2_with fail
        refine hcv.mono ?_
        clear hcv
        rintro e w4 ⟨rfl, hw4⟩
        rw [hw4]
        clear hw4
        go_wp2_with fail
        go_ret2
        exact ⟨_, by rw [HRE.out]; rfl, fun _ => rfl, fun e => absurd e HCN.out, HB3.out⟩
  · have hnt : nwE ((N.toNat : Nat) : Int) L = nwE N L := by
      rcases Int.lt_or_le N 0 with h1 | h1
      · unfold nwE
        rw [if_pos (Or.inl (by omega)), if_pos (Or.inl (by omega))]
      · rw [show ((N.toNat : Nat) : Int) = N by omega]
    have HCE : Hid (chE N.toNat L = nwE N L) := by show _ = _; unfold chE; rw [hnt, if_pos hE0]
    have HVC : Hid (errV a (nwE N L) = .iface 143 (.pointer (some (a (nwE N L - 1))))) := by show _ = _; unfold errV; rw [if_neg hE0]
    have HRE : Hid (errV a (chE N.toNat L) = .iface 143 (.pointer (some (a (nwE N L - 1))))) := by show _ = _; rw [HCE.out, HVC.out]
    have HNE : Hid (chE N.toNat L ≠ 0) := by show _ ≠ _; rw [HCE.out]; exact hE0
    clear hE h hE0 hb1 hnt
    go_enter Tryd.func13, Tryd.ntmps13
    go_upto_region 1 with fail
    rw [← hW1, ← hbx]
    clear hW1 hbx
    go_wp2_with fail
    refine HV.out.mono ?_
    clear q0 q1
    rintro e w2 ⟨rfl, hb2⟩
    rw [HVC.out]
    have HB2 := Hid.mk' (below_chain HB1.out hb2)
    clear hb2
    go_wp2_with fail
    go_ret2
    exact ⟨_, by rw [HRE.out]; rfl, fun _ => rfl, fun e => absurd e HNE.out, HB2.out⟩
end Go.Proofs.YtlnhpkmcinohdaaDoor

/- The law WalksValid. -/
namespace Go.Proofs.YtlnhpkmcinohdaaDoor
open Go.RowKit

/-- A square table as a list of lists. -/
def sqL (z : Nat → Nat → Int) (N : Nat) : List (List Int) := (List.range N).map fun i => (List.range N).map fun k => z i k
theorem lol_of_rows {w : World} {v : Value} {N : Nat} {z : Nat → Nat → Int} (h : RowsAt w v N z) (hN : 0 < N) : LolAt w v (sqL z N) := by
  obtain ⟨g, o, cap, rfl, hr⟩ := h
  refine ⟨some ⟨g, o, none⟩, cap, by simp [sqL], fun i r hi => ?_⟩
  have hiN : i < N := by
    have := (List.getElem?_eq_some_iff.1 hi).1
    simpa [sqL] using this
  have hr2 : r = (List.range N).map fun k => z i k := by
    simp [sqL, hiN] at hi
    exact hi.symm
  obtain ⟨b, o', c, h1, h2⟩ := hr i hiN
  have hl : r.length = N := by rw [hr2]; simp
  refine ⟨g, o, _, rfl, h1, ?_⟩
  rw [hl]
  refine Or.inr ⟨b, o', c, rfl, hN, fun k hk => ?_⟩
  rw [h2 k hk]
  congr 2
  rw [hr2]
  simp [atF, hk]
theorem lol_nil (w : World) : LolAt w (.slice none 0 0) [] := ⟨none, 0, rfl, fun i r hr => by simp at hr⟩
theorem RowsO.tab {w : World} {B : Nat} {v : Value} {N : Nat} {L : List Wr} {vs : Nat → Value} (h : RowsO w B v N N L vs) (hN : 0 < N) : TabAt w v N vs (fun _ => N) (wtF L) :=
  tabAt_of_row h.own (fun i hi => by
    obtain ⟨rb, e, hr, _⟩ := h.rows i hi
    rw [e]; exact Or.inr ⟨rb, 0, N, rfl, hN, hr⟩)

theorem chE_bad {N : Int} {L : List Wr} (h : nwE N L ≠ 0) : chE N.toNat L = nwE N L := by
  have hnt : nwE ((N.toNat : Nat) : Int) L = nwE N L := by
    rcases Int.lt_or_le N 0 with h1 | h1
    · unfold nwE
      rw [if_pos (Or.inl (by omega)), if_pos (Or.inl (by omega))]
    · rw [show ((N.toNat : Nat) : Int) = N by omega]
  unfold chE
  rw [hnt, if_pos h]
set_option maxRecDepth 100000 in
set_option maxHeartbeats 8000000 in
theorem WalksValid_all (a : Nat → Addr) (N : Int) (v : Value) (L : List Wr) (w : World) (hE : Errs w a) (hG : WrAt w v L) (hm : L.length ≤ maxLen) :
    Calls Tryd.prog 3 #[.agg #[.int .i64 N, v]] w fun e w' => e = .returned (.bool true) ∧ Below w.heap.size w w' := by
  obtain ⟨ad, cap, rfl⟩ := hG.form
  obtain ⟨W1, hW1⟩ : ∃ W1, W1 = w.alloc (.cells #[.int .i64 N, .slice ad L.length cap] 24) := ⟨_, rfl⟩
  obtain ⟨bx, hbx⟩ : ∃ bx, bx = w.heap.size := ⟨_, rfl⟩
  have hb1 : Below w.heap.size w W1 := by rw [hW1]; exact (Below.refl _ _).alloc (Nat.le_refl _) _
  have q0 : W1.cell? ⟨bx, 0, none⟩ = some (.int .i64 N) := by rw [hW1, hbx]; go_simp
  have q1 : W1.cell? ⟨bx, 1, none⟩ = some (.slice ad L.length cap) := by rw [hW1, hbx]; go_simp
  have HC : Hid (∀ W, Below W1.heap.size W1 W → W.cell? ⟨bx, 0, none⟩ = some (.int .i64 N) ∧ W.cell? ⟨bx, 1, none⟩ = some (.slice ad L.length cap)) := fun W hb => ⟨by rw [hb.cell (cell_lt q0)]; exact q0, by rw [hb.cell (cell_lt q1)]; exact q1⟩
  have HE : Hid (∀ W, Below W1.heap.size W1 W → Errs W a) := fun W hb => (hE.below hb1).below hb
  have HG : Hid (∀ W, Below W1.heap.size W1 W → WrAt W (.slice ad L.length cap) L) := fun W hb => (hG.later hb1).later hb
  have HEND : Hid (∀ W, Below W1.heap.size W1 W → Below w.heap.size w W) := fun W hb => below_chain hb1 hb
  have HOHM := Hid.mk' (ohm_any a W1 (hE.below hb1))
  have HM := Hid.mk' hm
  clear hE hG hb1 hm
  go_enter Tryd.func3, Tryd.ntmps3
  go_upto_region 1 with fail
  rw [← hW1, ← hbx]
  clear hW1 hbx q0 q1
  go_wp2_with fail
  refine HOHM.out.mono ?_
  rintro e w2 ⟨rfl, hb2⟩
  have HB2 := Hid.mk' hb2
  obtain ⟨q0, q1⟩ := HC.out _ hb2
  clear hb2 HOHM
  have HTH := Hid.mk' (thin_any N ad L.length cap HM.out w2)
  by_cases h100 : L.length ≤ 100
  · rw [decide_eq_true h100] at HTH
    have hl : L.length ≤ 1000 := by omega
    go_wp2_with fail
    refine HTH.out.mono ?_
    clear q0 q1
    rintro e w3 ⟨rfl, hb3⟩
    have HB3 := Hid.mk' (below_chain HB2.out hb3)
    obtain ⟨q0, q1⟩ := HC.out _ HB3.out
    have HNE := Hid.mk' (NetError_any N (.slice ad L.length cap) L w3 (HG.out _ HB3.out) hl)
    clear hb3 HTH
    go_wp2_with fail
    refine HNE.out.mono ?_
    clear q0 q1 HNE
    rintro e w4 ⟨rfl, hb4⟩
    have HB4 := Hid.mk' (below_chain HB3.out hb4)
    obtain ⟨q0, q1⟩ := HC.out _ HB4.out
    have HN4 := Hid.mk' (net_any N (.slice ad L.length cap) L w4 (HG.out _ HB4.out) hl)
    clear hb4
    go_wp2_with fail
    refine HN4.out.mono ?_
    clear q0 q1 HN4
    rintro e w5 ⟨v5, rfl, hv5, hb5⟩
    have HB5 := Hid.mk' (below_chain HB4.out hb5)
    have HVA := Hid.mk' (NetValid_any a N v5 L w5 (HE.out _ HB5.out) hv5 hl)
    obtain ⟨a5, c5, rfl⟩ := hv5.form
    clear hv5 hb5
    go_wp2_with fail
    refine HVA.out.mono ?_
    clear HVA
    rintro e w6 ⟨rfl, hb6⟩
    have HB6 := Hid.mk' (below_chain HB5.out hb6)
    have HCO := Hid.mk' (coded_errV a (nwE N L) (nwE_le N L) w6 (HE.out _ HB6.out))
    clear hb6
    obtain ⟨EV, hEV⟩ : ∃ EV, EV = errV a (nwE N L) := ⟨_, rfl⟩
    rw [← hEV] at HCO ⊢
    clear hEV
    go_wp2_with fail
    refine HCO.out.mono ?_
    clear HCO
    rintro e w7 ⟨rfl, hb7⟩
    have HB7 := Hid.mk' (below_chain HB6.out hb7)
    obtain ⟨q0, q1⟩ := HC.out _ HB7.out
    clear hb7
    -- what comes behind, in every case
    have HNET := Hid.mk' (fun (W : World) (hb : Below W1.heap.size W1 W) => net_any N (.slice ad L.length cap) L W (HG.out _ hb) hl)
    have HCH := Hid.mk' (fun (W : World) (v : Value) (hb : Below W1.heap.size W1 W) (hv : WrAt W v L) => WChain_any a N v L W (HE.out _ hb) hv hl)
    have HCD := Hid.mk' (fun (W : World) (c : Nat) (hc : c ≤ 8) (hb : Below W1.heap.size W1 W) => coded_errV a c hc W (HE.out _ hb))
    by_cases hz : nwE N L = 0
    · obtain ⟨k1, k2, k3, k4, k5⟩ := nwE_ok hz
      obtain ⟨M, rfl⟩ : ∃ M : Nat, N = (M : Int) := ⟨N.toNat, by omega⟩
      rw [Int.toNat_natCast] at HCH
      rw [hz]
      by_cases hM : M = 1
      · have HCE : Hid (chE M L = 6) := by show _ = _; unfold chE; rw [if_neg (fun h => h hz), if_pos hM]
        have hd : ((M : Int) == 1) = true := by simp [hM]
        rw [HCE.out] at HCH
        clear hz k1 k2 k3 k4 k5 hM
        go_wp2_with fail
        refine (HNET.out w7 HB7.out).mono ?_
        clear q0 q1
        rintro e w8 ⟨v8, rfl, hv8, hb8⟩
        have HB8 := Hid.mk' (below_chain HB7.out hb8)
        have HV8 := Hid.mk' hv8
        obtain ⟨a8, c8, rfl⟩ := hv8.form
        clear hv8 hb8
        go_wp2_with fail
        refine (HCH.out w8 _ HB8.out HV8.out).mono ?_
        rintro e w9 ⟨r, rfl, hr0, _, hb9⟩
        obtain rfl := hr0 (by decide)
        have HB9 := Hid.mk' (below_chain HB8.out hb9)
        clear hr0 hb9
        have hcd := HCD.out w9 6 (by decide) HB9.out
        obtain ⟨E6, hE6⟩ : ∃ E6, E6 = errV a 6 := ⟨_, rfl⟩
        rw [← hE6] at hcd ⊢
        clear hE6
        go_wp2_with fail
        refine hcd.mono ?_
        clear hcd
        rintro e w10 ⟨rfl, hb10⟩
        have HB10 := Hid.mk' (below_chain HB9.out hb10)
        clear hb10
        go_wp2_with fail
        refine (SameLists_any _ _ [] w10 (lol_nil _) (lol_nil _) (by decide) (fun r hr => by cases hr)).mono ?_
        rintro e w11 ⟨rfl, hb11⟩
        have HB11 := Hid.mk' (below_chain HB10.out hb11)
        clear hb11
        go_wp2_with fail
        go_ret
        exact ⟨rfl, HEND.out _ HB11.out⟩
      · have hd : ((M : Int) == 1) = false := by rw [beq_eq_false_iff_ne]; omega
        have HCE : Hid (chE M L = chainErr M (fun _ => M) (wtF L)) := by show _ = _; unfold chE; rw [if_neg (fun h => h hz), if_neg hM]
        have hsh := chain_shape (N := M) (L := L) (by omega) (by omega) k4 k5
        have hof := ChainOf_any M (.slice ad L.length cap) L w7 (HG.out _ HB7.out) k3 (by omega) (by omega) k4
        have HTE := Hid.mk' (fun (W : World) (v : Value) (vs : Nat → Value) (h : TabAt W v M vs (fun _ => M) (wtF L)) => ChainError_any v M vs (fun _ => M) (wtF L) W h (by omega) (fun i _ => by omega))
        have HM2 : Hid (0 < M ∧ M ≤ 8) := by show _ ∧ _; omega
        rw [HCE.out] at HCH
        clear hz k1 k2 k3 k4 k5 hM HCE
        generalize chainErr M (fun _ => M) (wtF L) = CE at *
        go_wp2_with fail
        refine hof.mono ?_
        clear hof q0 q1
        rintro e w8 ⟨r8, vs8, rfl, ho8, hb8⟩
        have ht8 := ho8.tab HM2.out.1
        have HB8 := Hid.mk' (below_chain HB7.out hb8)
        have HR8 := Hid.mk' (lol_of_rows (rowsAt_of_tab ht8 HM2.out.1 (fun _ _ => rfl)) HM2.out.1)
        have hte := HTE.out w8 r8 vs8 ht8
        obtain ⟨a8, c8, rfl⟩ := ht8.form
        obtain ⟨q0, q1⟩ := HC.out _ HB8.out
        clear ho8 ht8 hb8
        go_wp2_with fail
        refine hte.mono ?_
        clear hte
        rintro e w9 ⟨rfl, hw9⟩
        rw [hw9]
        clear hw9
        rcases hsh with hsh | hsh
        · subst hsh
          go_wp2_with fail
          refine (HNET.out w8 HB8.out).mono ?_
          clear q0 q1
          rintro e w9 ⟨v9, rfl, hv9, hb9⟩
          have HB9 := Hid.mk' (below_chain HB8.out hb9)
          have HV9 := Hid.mk' hv9
          have HR9 := Hid.mk' (HR8.out.later hb9)
          obtain ⟨a9, c9, rfl⟩ := hv9.form
          clear hv9 hb9
          go_wp2_with fail
          refine (HCH.out w9 _ HB9.out HV9.out).mono ?_
          rintro e w10 ⟨r, rfl, _, hr1, hb10⟩
          have HL10 := Hid.mk' (lol_of_rows (hr1 (by simp)) HM2.out.1)
          have HR10 := Hid.mk' (HR9.out.later hb10)
          have HB10 := Hid.mk' (below_chain HB9.out hb10)
          clear hr1 hb10
          have hcd := HCD.out w10 0 (by decide) HB10.out
          have HV0 : Hid (errV a 0 = .nilIface) := rfl
          rw [HV0.out] at hcd ⊢
          go_wp2_with fail
          refine hcd.mono ?_
          clear hcd
          rintro e w11 ⟨rfl, hb11⟩
          have HB11 := Hid.mk' (below_chain HB10.out hb11)
          have hsl := SameLists_any _ _ (sqL (wtF L) M) w11 (HL10.out.later hb11) (HR10.out.later hb11) (by have := HM2.out; simp [sqL]; omega) (fun r hr => by
            have := HM2.out
            simp [sqL] at hr
            obtain ⟨i, _, rfl⟩ := hr
            simp; omega)
          clear hb11
          go_wp2_with fail
          refine hsl.mono ?_
          rintro e w12 ⟨rfl, hb12⟩
          have HB12 := Hid.mk' (below_chain HB11.out hb12)
          clear hb12
          go_wp2_with fail
          go_ret
          exact ⟨rfl, HEND.out _ HB12.out⟩
        · subst hsh
          go_wp2_with fail
          refine (HNET.out w8 HB8.out).mono ?_
          clear q0 q1
          rintro e w9 ⟨v9, rfl, hv9, hb9⟩
          have HB9 := Hid.mk' (below_chain HB8.out hb9)
          have HV9 := Hid.mk' hv9
          obtain ⟨a9, c9, rfl⟩ := hv9.form
          clear hv9 hb9
          go_wp2_with fail
          refine (HCH.out w9 _ HB9.out HV9.out).mono ?_
          rintro e w10 ⟨r, rfl, hr0, _, hb10⟩
          obtain rfl := hr0 (by decide)
          have HB10 := Hid.mk' (below_chain HB9.out hb10)
          clear hr0 hb10
          have hcd := HCD.out w10 2 (by decide) HB10.out
          obtain ⟨E6, hE6⟩ : ∃ E6, E6 = errV a 2 := ⟨_, rfl⟩
          rw [← hE6] at hcd ⊢
          clear hE6
          go_wp2_with fail
          refine hcd.mono ?_
          clear hcd
          rintro e w11 ⟨rfl, hb11⟩
          have HB11 := Hid.mk' (below_chain HB10.out hb11)
          clear hb11
          go_wp2_with fail
          refine (SameLists_any _ _ [] w11 (lol_nil _) (lol_nil _) (by decide) (fun r hr => by cases hr)).mono ?_
          rintro e w12 ⟨rfl, hb12⟩
          have HB12 := Hid.mk' (below_chain HB11.out hb12)
          clear hb12
          go_wp2_with fail
          go_ret
          exact ⟨rfl, HEND.out _ HB12.out⟩
    · have HCE := chE_bad hz
      rw [HCE] at HCH
      have hle := nwE_le N L
      generalize nwE N L = E at *
      have hd0 : ((E : Int) == 0) = false := by rw [beq_eq_false_iff_ne]; omega
      have HLE := Hid.mk' (And.intro hle hz)
      clear HCE hle hz
      go_wp2_with fail
      refine (HNET.out w7 HB7.out).mono ?_
      clear q0 q1
      rintro e w8 ⟨v8, rfl, hv8, hb8⟩
      have HB8 := Hid.mk' (below_chain HB7.out hb8)
      have HV8 := Hid.mk' hv8
      obtain ⟨a8, c8, rfl⟩ := hv8.form
      clear hv8 hb8
      go_wp2_with fail
      refine (HCH.out w8 _ HB8.out HV8.out).mono ?_
      rintro e w9 ⟨r, rfl, hr0, _, hb9⟩
      obtain rfl := hr0 HLE.out.2
      have HB9 := Hid.mk' (below_chain HB8.out hb9)
      clear hr0 hb9
      have hcd := HCD.out w9 E HLE.out.1 HB9.out
      obtain ⟨E6, hE6⟩ : ∃ E6, E6 = errV a E := ⟨_, rfl⟩
      rw [← hE6] at hcd ⊢
      clear hE6
      go_wp2_with fail
      refine hcd.mono ?_
      clear hcd
      rintro e w10 ⟨rfl, hb10⟩
      have HB10 := Hid.mk' (below_chain HB9.out hb10)
      clear hb10
      go_wp2_with fail
      refine (SameLists_any _ _ [] w10 (lol_nil _) (lol_nil _) (by decide) (fun r hr => by cases hr)).mono ?_
      rintro e w11 ⟨rfl, hb11⟩
      have HB11 := Hid.mk' (below_chain HB10.out hb11)
      clear hb11
      go_wp2_with fail
      go_ret
      exact ⟨rfl, HEND.out _ HB11.out⟩
  · rw [decide_eq_false h100] at HTH
    go_wp2_with fail
    refine HTH.out.mono ?_
    clear q0 q1
    rintro e w3 ⟨rfl, hb3⟩
    have HB3 := Hid.mk' (below_chain HB2.out hb3)
    clear hb3 HTH
    go_wp2_with fail
    go_ret
    exact ⟨rfl, HEND.out _ HB3.out⟩
end Go.Proofs.YtlnhpkmcinohdaaDoor

/- What the rows' condition on package variables gives a walk: eight different sentinels with their texts, and the handle of the type error. -/
namespace Go.Proofs.YtlnhpkmcinohdaaDoor
open Go.ChangeShapes Go.WideShapes Go.RowKit

theorem Tryd.own : ownKnob Tryd.prog.godebug = none := by kernel_rfl
theorem Tryd.et : Tryd.prog.globalNamed "errors.errorType" = some 8 := by kernel_rfl
theorem Tryd.rt : (Tryd.prog.cutTypes.find? (·.1 == "internal/reflectlite.rtype")).map (·.2) = some 118 := by kernel_rfl
theorem Tryd.oneRow : ((List.range 176).filter fun t => Tryd.prog.rowNamed t [101, 114, 114, 111, 114]) = [30] := by kernel_rfl
theorem Tryd.size : Tryd.prog.types.size = 176 := by kernel_rfl
theorem Tryd.star : ("*" ++ "errors.errorString" : String) = "*errors.errorString" := by decide
theorem Tryd.rowE (u : TypeId) (h : Tryd.prog.typeName? 3 u = some "*errors.errorString") : u = 143 :=
  typeName_ptr_named (nm := "errors.errorString") (by rw [Tryd.star]; kernel_rfl) (by kernel_rfl) (by decide) u (by rw [Tryd.star]; exact h)
theorem Tryd.cellsE : Tryd.prog.cellsOf 164 = 1 := by kernel_rfl
theorem Tryd.cellsS : Tryd.prog.cellsOf 9 = 1 := by kernel_rfl
theorem Tryd.g0 : Tryd.prog.globalNamed "demon/api.ErrText" = some 3 := by kernel_rfl
theorem Tryd.g1 : Tryd.prog.globalNamed "demon/api.ErrBound" = some 0 := by kernel_rfl
theorem Tryd.g2 : Tryd.prog.globalNamed "demon/api.ErrShape" = some 1 := by kernel_rfl
theorem Tryd.g3 : Tryd.prog.globalNamed "demon/api.ErrZero" = some 4 := by kernel_rfl
theorem Tryd.g4 : Tryd.prog.globalNamed "demon/api.ErrName" = some 5 := by kernel_rfl
theorem Tryd.g5 : Tryd.prog.globalNamed "demon/api.ErrNone" = some 2 := by kernel_rfl
theorem Tryd.g6 : Tryd.prog.globalNamed "demon/api.ErrOrder" = some 6 := by kernel_rfl
theorem Tryd.g7 : Tryd.prog.globalNamed "demon/api.ErrKind" = some 7 := by kernel_rfl

/-- Any number of listed sentinels of one type: each one's pointer, text and row; no two are one. -/
theorem laid_list {P : Program} {W : World} {nm : String} {ti tp te ts : TypeId} {ms : Array (String × TypeId)} {f : Field}
    (hi : P.underlying ti = some (.interface ms)) (hrow : ∀ u, P.typeName? 3 u = some nm → u = tp)
    (hp : P.underlying tp = some (.pointer te)) (he : P.underlying te = some (.struct #[f])) (hft : f.type = ts) (hfo : f.offset = 0) (hs : P.underlying ts = some .string) (hc : P.cellsOf te = 1) (hcs : P.cellsOf ts = 1) :
    ∀ (L : List (String × List UInt8)) (ps : List MemPlace), (∀ x, x ∈ L → ∃ g, P.globalNamed x.1 = some g ∧ (P.globals[g]?).map (·.type) = some ti) →
      DataW.LaidVars P W (L.map fun x => (x.1, .iface nm (.ptr (.agg [.lit (.string x.2)])))) ps → ps.Nodup →
      (∀ b off, MemPlace.cell b off ∈ ps → (∃ c t, W.heap[b]? = some (.cells c t (0, 0))) ∧ ∀ u v, W.cell? ⟨b, off, none⟩ = some (.iface u v) → Value.okWide P W .any 0 u v) →
      ∃ a : Nat → Addr, (∀ i x, L[i]? = some x → W.var? P x.1 = some #[.iface tp (.pointer (some (a i)))] ∧ (∃ s, W.cell? (a i) = some (.string s) ∧ s.data.toList = x.2) ∧
          (∃ c t, W.heap[(a i).block]? = some (.cells c t (0, 0))) ∧ MemPlace.cell (a i).block (a i).off ∈ ps) ∧
        ∀ i j, i < L.length → j < L.length → i ≠ j → a i ≠ a j := by
  intro L
  induction L with
  | nil => intro ps _ _ _ _; exact ⟨fun _ => default, fun i x h => by simp at h, fun i j h => by simp at h⟩
  | cons x r ih =>
    intro ps hgs hv hnd hrows
    obtain ⟨n, text⟩ := x
    obtain ⟨g0, t0, cs0, f0, p0, q0, hg0, ht0, hv0, hd0, hvr, e0⟩ := hv
    obtain ⟨g, hg, ht⟩ := hgs (n, text) (List.mem_cons_self ..)
    obtain rfl := Option.some.inj (hg.symm.trans hg0)
    obtain rfl := Option.some.inj (ht.symm.trans ht0)
    subst e0
    obtain ⟨l0⟩ := cs0
    have ok0 : ∀ u v, l0 = [.iface u v] → Value.okWide P W .any 0 u v := fun u v e => by
      subst e
      exact (hrows g 0 (by simp [MemPlace.row])).2 u v (by simpa using World.var?_cell hg0 hv0 0)
    obtain ⟨a0, s0, rfl, hc0, hs0, hz0, rfl⟩ := errorString_of_trod hi hrow hp he hft hfo hs hc hcs hd0 ok0
    obtain ⟨c0, tt0, hb0⟩ := (hrows a0.block a0.off (by simp [MemPlace.row])).1
    have hnq : q0.Nodup := List.Nodup.sublist (List.sublist_append_right _ _) hnd
    obtain ⟨a', ha', hne'⟩ := ih q0 (fun x hx => hgs x (List.mem_cons_of_mem _ hx)) hvr hnq (fun b off hm => hrows b off (List.mem_append_right _ hm))
    have hnot : MemPlace.cell a0.block a0.off ∉ q0 := by
      intro hm
      have := (List.nodup_append.1 hnd).2.2
      exact this (.cell a0.block a0.off) (by simp [MemPlace.row]) (.cell a0.block a0.off) hm rfl
    refine ⟨fun i => match i with | 0 => a0 | k + 1 => a' k, ?_, ?_⟩
    · intro i x hx
      cases i with
      | zero =>
        simp only [List.getElem?_cons_zero, Option.some.injEq] at hx
        subst hx
        exact ⟨hv0, ⟨s0, hc0, hs0⟩, ⟨c0, tt0, hb0⟩, by simp [MemPlace.row]⟩
      | succ k =>
        simp only [List.getElem?_cons_succ] at hx
        obtain ⟨h1, h2, h3, h4⟩ := ha' k x hx
        exact ⟨h1, h2, h3, List.mem_append_right _ h4⟩
    · have far : ∀ k, k < r.length → a0 ≠ a' k := fun k hk e => by
        obtain ⟨_, _, _, h4⟩ := ha' k r[k] (by simp [hk])
        rw [← e] at h4
        exact hnot h4
      intro i j hi' hj' hij
      cases i with
      | zero =>
        cases j with
        | zero => exact absurd rfl hij
        | succ k => exact far k (by simpa using hj')
      | succ m =>
        cases j with
        | zero => exact (far m (by simpa using hi')).symm
        | succ k => exact hne' m k (by simpa using hi') (by simpa using hj') (by omega)

/-- The names and texts, in the rows' order. -/
def eightNames : List (String × List UInt8) := [("demon/api.ErrText", [100, 101, 109, 111, 110, 58, 32, 116, 101, 120, 116]), ("demon/api.ErrBound", [100, 101, 109, 111, 110, 58, 32, 98, 111, 117, 110, 100]), ("demon/api.ErrShape", [100, 101, 109, 111, 110, 58, 32, 115, 104, 97, 112, 101]), ("demon/api.ErrZero", [100, 101, 109, 111, 110, 58, 32, 122, 101, 114, 111]), ("demon/api.ErrName", [100, 101, 109, 111, 110, 58, 32, 110, 97, 109, 101]), ("demon/api.ErrNone", [100, 101, 109, 111, 110, 58, 32, 110, 111, 110, 101]), ("demon/api.ErrOrder", [100, 101, 109, 111, 110, 58, 32, 111, 114, 100, 101, 114]), ("demon/api.ErrKind", [100, 101, 109, 111, 110, 58, 32, 107, 105, 110, 100])]
def laidAll : List (String × DataW Unit) := [("errors.errorType", Rows.laid_errors_errorType), ("demon/api.ErrText", Rows.laid_demon_api_ErrText), ("demon/api.ErrBound", Rows.laid_demon_api_ErrBound), ("demon/api.ErrShape", Rows.laid_demon_api_ErrShape), ("demon/api.ErrZero", Rows.laid_demon_api_ErrZero), ("demon/api.ErrName", Rows.laid_demon_api_ErrName), ("demon/api.ErrNone", Rows.laid_demon_api_ErrNone), ("demon/api.ErrOrder", Rows.laid_demon_api_ErrOrder), ("demon/api.ErrKind", Rows.laid_demon_api_ErrKind)]
theorem laidAll_parts (W : World) : laidMetH Tryd.prog laidAll W = (laidMet Tryd.prog (eightNames.map fun x => (x.1, .iface "*errors.errorString" (.ptr (.agg [.lit (.string x.2)])))) W ∧ handlesMet Tryd.prog [("errors.errorType", Rows.laid_errors_errorType)] W) := by kernel_rfl

theorem var_at {W : World} {n : String} {g : Nat} {v : Value} (hg : Tryd.prog.globalNamed n = some g) (h : W.var? Tryd.prog n = some #[v]) : W.cell? ⟨g, 0, none⟩ = some v := by
  simpa using World.var?_cell hg h 0

theorem errs_of_laid {W : World} (h : laidMetH Tryd.prog laidAll W) : ∃ a : Nat → Addr, Errs W a ∧ ∀ i x, eightNames[i]? = some x → ∃ s, W.cell? (a i) = some (.string s) ∧ s.data.toList = x.2 := by
  rw [laidAll_parts] at h
  obtain ⟨⟨ps, hv, hnd, hrows⟩, hh⟩ := h
  obtain ⟨name, u, ty, e1, e2, e3, e4, e5⟩ := hh _ (List.mem_singleton.2 rfl)
  have en : name = [101, 114, 114, 111, 114] := (Option.some.inj e1).symm
  subst en
  obtain rfl := Option.some.inj (Tryd.rt.symm.trans e2)
  have hm : ty ∈ (List.range 176).filter fun t => Tryd.prog.rowNamed t [101, 114, 114, 111, 114] := List.mem_filter.2 ⟨List.mem_range.2 (by rw [← Tryd.size]; exact e3), e4⟩
  rw [Tryd.oneRow] at hm
  obtain rfl := List.mem_singleton.1 hm
  have hth : typeHandle Tryd.prog 30 = .pointer (some ⟨9, 30, none⟩) := by kernel_rfl
  rw [hth] at e5
  obtain ⟨a, ha, hne⟩ := laid_list Tryd.underlying30 Tryd.rowE Tryd.underlying143 Tryd.underlying164 rfl rfl Tryd.underlying9 Tryd.cellsE Tryd.cellsS eightNames ps
    (fun x hx => by
      simp only [eightNames, List.mem_cons, List.not_mem_nil, or_false] at hx
      rcases hx with rfl | rfl | rfl | rfl | rfl | rfl | rfl | rfl
      · exact ⟨_, Tryd.g0, by kernel_rfl⟩
      · exact ⟨_, Tryd.g1, by kernel_rfl⟩
      · exact ⟨_, Tryd.g2, by kernel_rfl⟩
      · exact ⟨_, Tryd.g3, by kernel_rfl⟩
      · exact ⟨_, Tryd.g4, by kernel_rfl⟩
      · exact ⟨_, Tryd.g5, by kernel_rfl⟩
      · exact ⟨_, Tryd.g6, by kernel_rfl⟩
      · exact ⟨_, Tryd.g7, by kernel_rfl⟩) hv hnd hrows
  refine ⟨a, ⟨var_at Tryd.g0 (ha 0 _ rfl).1, var_at Tryd.g1 (ha 1 _ rfl).1, var_at Tryd.g2 (ha 2 _ rfl).1, var_at Tryd.g3 (ha 3 _ rfl).1, var_at Tryd.g4 (ha 4 _ rfl).1, var_at Tryd.g5 (ha 5 _ rfl).1, var_at Tryd.g6 (ha 6 _ rfl).1, var_at Tryd.g7 (ha 7 _ rfl).1, var_at Tryd.et e5, ?_, ?_⟩, fun i x hx => (ha i x hx).2.1⟩
  · intro i hi
    have hl : eightNames.length = 8 := rfl
    exact (ha i eightNames[i] (List.getElem?_eq_getElem (by omega))).2.2.1
  · intro i j hi hj hij
    exact hne i j hi hj hij

/-- The door's own heap meets the condition. -/
theorem door_met (os : Os) (args : Array Value) : laidMetH Tryd.prog laidAll ((World.doorLaid Tryd.prog 168 os).forCall (fun _ _ => 0) ⟨#[], args, []⟩).memory :=
  laidMetH_of_parts3 (fuel := 8) (laidMet_of_run' 8 (by kernel_rfl) (by kernel_rfl)) (by kernel_rfl) (by kernel_rfl)
end Go.Proofs.YtlnhpkmcinohdaaDoor

/- A parameter of type demonref5.Net opened: its number, its slice, its wires. -/
namespace Go.Proofs.YtlnhpkmcinohdaaDoor
open Go.ChangeShapes Go.WideShapes Go.ChangeAt Go.RowKit Go.Joins Go.Deep

theorem Tryd.laidOutN : laidOutB Tryd.prog = true := by kernel_rfl
theorem Tryd.cellsNet : Tryd.prog.cellsOf 24 = 2 := by kernel_rfl
theorem Tryd.cellsWi : Tryd.prog.cellsOf 48 = 3 := by kernel_rfl
theorem Tryd.cellsI1N : Tryd.prog.cellsOf 3 = 1 := by kernel_rfl
theorem list_of {α : Type} (n : Nat) (p : Nat → α → Prop) (h : ∀ i, i < n → ∃ c, p i c) : ∃ l : List α, l.length = n ∧ ∀ (i : Nat) (c : α), l[i]? = some c → p i c := by
  induction n with
  | zero => exact ⟨[], rfl, fun i c hc => by simp at hc⟩
  | succ n ih =>
    obtain ⟨l, hl, hp⟩ := ih (fun i hi => h i (by omega))
    obtain ⟨c, hc⟩ := h n (by omega)
    refine ⟨l ++ [c], by simp [hl], fun i d hd => ?_⟩
    rcases Nat.lt_or_ge i l.length with h' | h'
    · rw [List.getElem?_append_left h'] at hd
      exact hp i d hd
    · rw [List.getElem?_append_right h'] at hd
      rcases Nat.eq_or_lt_of_le h' with e | e
      · rw [← e, Nat.sub_self] at hd
        obtain rfl : c = d := by simpa using hd
        rw [← e, hl]; exact hc
      · rw [List.getElem?_eq_none (by simp; omega)] at hd; cases hd
set_option maxRecDepth 100000 in
theorem open_net {H : Type} {enc : TypeId × Value → H} {W : World} {base : Nat} {v : Value} {d : DataW H} {p : List MemPlace} (hv : Value.okWide Tryd.prog W .any base 24 v)
    (h : DataW.Trod enc Tryd.prog W 0 (fun _ => true) true 24 v d p) :
    ∃ (N : Int) (ev : Value) (l : List Wr), v = .agg #[.int .i64 N, ev] ∧ WrAt W ev l ∧ l.length ≤ maxLen := by
  obtain ⟨c0, c1, y0, y1, m, rfl, rfl, rfl, hy0, hy1⟩ := open_agg2 Tryd.underlying24 (by kernel_rfl) Tryd.cellsNet hv h
  obtain ⟨N, e0, _, _⟩ := DataW.trod_int Tryd.underlying3 hy0
  simp at e0
  subst e0
  rcases open_slice Tryd.underlying22 hy1 with ⟨hc, _⟩ | ⟨a, n, cap', m', k, D, Pl, hc, _, hl, hm, hmm, _, hx⟩
  · simp at hc
    subst hc
    exact ⟨N, .slice none 0 0, [], rfl, ⟨_, _, rfl, fun i c hc => by simp at hc⟩, Nat.zero_le _⟩
  · simp at hc
    subst hc
    simp only [if_true] at hmm
    subst hmm
    have each : ∀ i, i < n → ∃ c : Wr, W.cell? (a.add (i * 3)) = some (.int .i64 c.a) ∧ W.cell? (a.add (i * 3 + 1)) = some (.int .i64 c.b) ∧ W.cell? (a.add (i * 3 + 2)) = some (.int .i64 c.c) := by
      intro i hi
      obtain ⟨cs', h1, h2⟩ := hx i (by omega)
      rw [Tryd.cellsWi] at h1
      obtain ⟨_, hlen, hcell⟩ := World.cells?_some h1
      obtain ⟨xs, k', _, _, _, hxl, hg⟩ := DataW.trod_struct Tryd.underlying48 h2
      match xs, hxl, cs', hlen with
      | [y0, y1, y2], _, [v0, v1, v2], _ =>
        have g0 := hg 0 _ rfl
        have g1 := hg 1 _ rfl
        have g2 := hg 2 _ rfl
        simp [Tryd.cellsI1N] at g0 g1 g2
        have e0 := hcell 0 (by omega)
        have e1 := hcell 1 (by omega)
        have e2 := hcell 2 (by omega)
        rw [Go.Deep.add_add] at e0 e1 e2
        obtain ⟨n0, r0, _, _⟩ := DataW.trod_int Tryd.underlying3 g0
        obtain ⟨n1, r1, _, _⟩ := DataW.trod_int Tryd.underlying3 g1
        obtain ⟨n2, r2, _, _⟩ := DataW.trod_int Tryd.underlying3 g2
        simp only [List.cons.injEq, and_true] at r0 r1 r2
        subst r0 r1 r2
        exact ⟨⟨n0, n1, n2⟩, by simpa using e0, by simpa using e1, by simpa using e2⟩
    obtain ⟨l, hll, hlp⟩ := list_of n _ each
    subst hll
    obtain ⟨b, o, spot⟩ := a
    refine ⟨N, _, l, rfl, ⟨_, _, rfl, fun i c hc => ?_⟩, by omega⟩
    obtain ⟨h0, h1, h2⟩ := hlp i c hc
    have hspot : spot = none := by
      have hi : 0 < l.length := by
        rcases Nat.eq_zero_or_pos l.length with h' | h'
        · rw [List.eq_nil_of_length_eq_zero h'] at hc; simp at hc
        · exact h'
      have := (hlp 0 _ (List.getElem?_eq_getElem hi)).1
      simpa [Addr.add] using World.cell?_spot this
    subst hspot
    rw [Go.Proofs.YtlnhpkmcinohdaaDoor.add_plain] at h0 h1 h2
    exact ⟨b, o, rfl, h0, by rw [Nat.add_assoc]; exact h1, by rw [Nat.add_assoc]; exact h2⟩
end Go.Proofs.YtlnhpkmcinohdaaDoor
