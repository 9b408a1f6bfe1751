/- The document's SameInts at equal ones. -/
import Derived.Test.YtphecjjblnnjdaaGreatDoorInts
import Derived.BigQuiet
import Derived.Test.YtphecjjblnnjdaaGreatDoorTabCopy
import Derived.Test.YtphecjjblnnjdaaGreatDoorValidWalk
import Derived.Deep.RegionHeld3
import Derived.Test.YtphecjjblnnjdaaGreatDoorCnTab
import Derived.Test.YtphecjjblnnjdaaGreatDoorCnWh
import Derived.Test.YtphecjjblnnjdaaGreatDoorCnErr
import Derived.Test.YtphecjjblnnjdaaGreatDoorRatioOps
import Derived.Deep.CutRange
import Derived.Test.YtphecjjblnnjdaaGreatDoorTold
import Derived.Test.YtphecjjblnnjdaaGreatDoorNums
namespace Go.Proofs.YtphecjjblnnjdaaGreatDoor
open Go.RowKit

set_option maxRecDepth 100000 in
set_option maxHeartbeats 1000000 in
theorem SameInts_any (v u : Value) (n : Nat) (z : Nat → Int) (w : World) (h : NumsAt w v n z) (k : NumsAt w u n z) (hn : n ≤ 1000000) :
    Calls Tryz.prog 81 #[v, u] w fun e w' => e = .returned (.bool true) ∧ Below w.heap.size w w' := by
  rcases h with ⟨ad, cap, rfl, rfl⟩ | ⟨b, o, cap, rfl, h0, hr⟩
  · obtain ⟨ad', cap', rfl⟩ := k.form
    clear k
    go_enter Tryz.func81, Tryz.ntmps81
    go_wp2_with fail
    refine wp_loop_rounds 1 ?_
    rw [rounds_succ]
    go_wp2_with fail
    go_ret
    exact ⟨rfl, Below.refl _ _⟩
  · rcases k with ⟨_, _, _, h1⟩ | ⟨b', o', cap', rfl, _, kr⟩
    · omega
    · have HR := Hid.mk' hr
      have HK := Hid.mk' kr
      clear hr kr
      go_enter Tryz.func81, Tryz.ntmps81
      go_wp2_with fail
      go_loopw [5] (fun i wr => ∃ k : Nat, k ≤ n ∧ i = .int .i64 k ∧ Hid (Below w.heap.size w wr)) (fun i _ => n - (intOf i).toNat)
      case atStart => exact ⟨0, Nat.zero_le _, rfl, Below.refl _ _⟩
      case round =>
        obtain ⟨k, hk, rfl, HB⟩ := hrel
        rcases Nat.lt_or_ge k n with h1 | h1
        · have hc := (HR.out.later HB.out) k h1
          have hd := (HK.out.later HB.out) k h1
          have hkn : (k : Int) < (n : Int) := by omega
          go_wp2_with fail
          go_region
          all_goals
            go_wp2_with fail
            exact ⟨⟨k + 1, h1, by go_num, HB.out.drew⟩, by simp [intOf]; omega⟩
        · obtain rfl : k = n := by omega
          go_wp2_with fail
          go_ret
          exact ⟨rfl, HB.out⟩
end Go.Proofs.YtphecjjblnnjdaaGreatDoor

/- Lists of lists of numbers in memory. -/
namespace Go.Proofs.YtphecjjblnnjdaaGreatDoor
open Go.RowKit

theorem own_put {w : World} {base : Nat} {t : TypeId} {sz : Nat} {v : Value} {n : Nat} {xs : List Value} (h : w.ownsRow base t sz v n xs) (a : Addr) (x : Value) (hne : v.ownBlock ≠ some a.block) : (w.setCell a x).ownsRow base t sz v n xs := by
  refine ⟨h.1, ?_⟩
  rcases h.2 with hn | ⟨g, cap, cur, hv, hg, hh, rest⟩
  · exact Or.inl hn
  · refine Or.inr ⟨g, cap, cur, hv, hg, ?_, rest⟩
    rw [Below.heap_setCell _ _ _ _ (fun e => hne (by rw [hv, ← e]; rfl))]
    exact hh

/-- A list of lists, to be read. -/
def LolAt (w : World) (v : Value) (L : List (List Int)) : Prop := ∃ ad cap, v = .slice ad L.length cap ∧ ∀ (i : Nat) (r : List Int), L[i]? = some r → ∃ b o u, ad = some ⟨b, o, none⟩ ∧ w.cell? ⟨b, o + i, none⟩ = some u ∧ NumsAt w u r.length (atF r)
theorem LolAt.later {w w' : World} {v : Value} {L : List (List Int)} (h : LolAt w v L) (hb : Below w.heap.size w w') : LolAt w' v L := by
  obtain ⟨ad, cap, rfl, h⟩ := h
  refine ⟨ad, cap, rfl, fun i r hr => ?_⟩
  obtain ⟨b, o, u, h1, h2, h3⟩ := h i r hr
  exact ⟨b, o, u, h1, by rw [hb.cell (cell_lt h2)]; exact h2, h3.later hb⟩
/-- One that is made: the list's own row, and that of each of its lists. -/
def LolOwn (Bo Br : Nat) (w : World) (v : Value) (L : List (List Int)) (vs : List Value) : Prop := w.ownsRow Bo 22 1 v L.length vs ∧ ∀ (i : Nat) (r : List Int), L[i]? = some r → ∃ u, vs[i]? = some u ∧ w.ownsRow Br 3 1 u r.length (cellL r)
theorem LolOwn.nil (Bo Br : Nat) (w : World) : LolOwn Bo Br w (.slice none 0 0) [] [] := ⟨⟨rfl, Or.inl ⟨rfl, rfl⟩⟩, fun i r h => by simp at h⟩
theorem LolOwn.later {Bo Br : Nat} {w w' : World} {v : Value} {L : List (List Int)} {vs : List Value} (h : LolOwn Bo Br w v L vs) (hb : Below w.heap.size w w') : LolOwn Bo Br w' v L vs :=
  ⟨own_past h.1 hb, fun i r hr => by obtain ⟨u, h1, h2⟩ := h.2 i r hr; exact ⟨u, h1, own_past h2 hb⟩⟩
theorem own_keep {w w' : World} {base : Nat} {t : TypeId} {sz : Nat} {v : Value} {n : Nat} {xs : List Value} (h : w.ownsRow base t sz v n xs) (hk : ∀ k, base ≤ k → k < w.heap.size → w'.heap[k]? = w.heap[k]?) : w'.ownsRow base t sz v n xs := by
  obtain ⟨hl, hr⟩ := h
  refine ⟨hl, ?_⟩
  rcases hr with hr | ⟨g, cap, cur, hv, hb1, hh, rest⟩
  · exact Or.inl hr
  · exact Or.inr ⟨g, cap, cur, hv, hb1, by rw [hk g hb1 (heap_lt hh)]; exact hh, rest⟩
theorem LolOwn.keep {B : Nat} {w w' : World} {v : Value} {L : List (List Int)} {vs : List Value} (h : LolOwn B B w v L vs) (hk : ∀ k, B ≤ k → k < w.heap.size → w'.heap[k]? = w.heap[k]?) : LolOwn B B w' v L vs :=
  ⟨own_keep h.1 hk, fun i r hr => by obtain ⟨u, h1, h2⟩ := h.2 i r hr; exact ⟨u, h1, own_keep h2 hk⟩⟩
theorem LolOwn.lol {Bo Br : Nat} {w : World} {v : Value} {L : List (List Int)} {vs : List Value} (h : LolOwn Bo Br w v L vs) : LolAt w v L := by
  obtain ⟨⟨hl, hr⟩, hv⟩ := h
  rcases hr with ⟨hv0, h0⟩ | ⟨g, cap, cur, hv0, _, hh, _, _, hs, ht⟩
  · rw [h0] at hl
    obtain rfl : L = [] := List.length_eq_zero_iff.1 h0
    exact ⟨none, 0, hv0, fun i r hr => by simp at hr⟩
  · refine ⟨_, cap, hv0, fun i r hr => ?_⟩
    obtain ⟨u, h1, h2⟩ := hv i r hr
    refine ⟨g, 0, u, rfl, ?_, numsAt_row h2⟩
    have hi : i < L.length := (List.getElem?_eq_some_iff.1 hr).1
    rw [← h1, ← ht, List.getElem?_take_of_lt (by omega), Nat.zero_add]
    simp [World.cell?, hh]
/-- Behind an append. -/
theorem LolOwn.push {Bo Br : Nat} {w w' : World} {v v' u : Value} {L : List (List Int)} {vs : List Value} {r : List Int} (h : LolOwn Bo Br w v L vs) (hr : w.ownsRow Br 3 1 u r.length (cellL r)) (hg : w.grownBy w' v.ownBlock) (ho : w'.ownsRow Bo 22 1 v' (L.length + 1) (vs ++ [u])) : LolOwn Bo Br w' v' (L ++ [r]) (vs ++ [u]) := by
  have hvl : vs.length = L.length := by have := h.1.1; simpa using this
  refine ⟨by rw [List.length_append]; exact ho, fun i q hq => ?_⟩
  rcases Nat.lt_or_ge i L.length with h1 | h1
  · rw [List.getElem?_append_left h1] at hq
    obtain ⟨x, h2, h3⟩ := h.2 i q hq
    exact ⟨x, by rw [List.getElem?_append_left (by omega)]; exact h2, own_beside h3 h.1 (by decide) hg⟩
  · rw [List.getElem?_append_right h1] at hq
    obtain ⟨rfl, h5⟩ : r = q ∧ i - L.length = 0 := by
      rcases hk : i - L.length with _ | k
      · rw [hk] at hq; exact ⟨by simpa using hq, rfl⟩
      · rw [hk] at hq; simp at hq
    exact ⟨u, by rw [List.getElem?_append_right (by omega), hvl, h5]; rfl, own_beside hr h.1 (by decide) hg⟩
theorem LolOwn.form {Bo Br : Nat} {w : World} {v : Value} {L : List (List Int)} {vs : List Value} (h : LolOwn Bo Br w v L vs) : ∃ ad cap, v = .slice ad L.length cap := by
  rcases h.1.2 with ⟨rfl, h0⟩ | ⟨g, cap, cur, rfl, _⟩
  · exact ⟨none, 0, by rw [h0]⟩
  · exact ⟨_, _, rfl⟩
theorem LolOwn.put {Bo Br : Nat} {w : World} {v : Value} {L : List (List Int)} {vs : List Value} (h : LolOwn Bo Br w v L vs) (a : Addr) (x : Value) (h1 : v.ownBlock ≠ some a.block) (h2 : a.block < Br) : LolOwn Bo Br (w.setCell a x) v L vs := by
  refine ⟨own_put h.1 a x h1, fun i r hr => ?_⟩
  obtain ⟨u, h3, h4⟩ := h.2 i r hr
  refine ⟨u, h3, own_put h4 a x (fun e => ?_)⟩
  rcases h4.2 with ⟨rfl, _⟩ | ⟨g, cap, cur, rfl, hge, _⟩
  · cases e
  · have : g = a.block := by simpa [Value.ownBlock] using e
    omega

theorem own_built {w : World} {base g : Nat} {t : TypeId} {cs : Array Value} (hg : base ≤ g) (hh : w.heap[g]? = some (.cells cs t)) (hc : cs.size ≤ 1000) : w.ownsRow base t 1 (.slice (some ⟨g, 0, none⟩) cs.size cs.size) cs.size cs.toList :=
  ⟨by simp, Or.inr ⟨g, cs.size, cs, rfl, hg, hh, Nat.le_refl _, by unfold maxLen; omega, by simp, by rw [Nat.mul_one, ← Array.length_toList, List.take_length]⟩⟩

set_option maxRecDepth 100000 in
set_option maxHeartbeats 1000000 in
theorem SameLists_any (v u : Value) (L : List (List Int)) (w : World) (h : LolAt w v L) (k : LolAt w u L) (hL : L.length ≤ 1000000) (hr : ∀ r, r ∈ L → r.length ≤ 1000) :
    Calls Tryz.prog 30 #[v, u] w fun e w' => e = .returned (.bool true) ∧ Below w.heap.size w w' := by
  have HA := Hid.mk' (fun (W : World) (hb : Below w.heap.size w W) => h.later hb)
  have HK := Hid.mk' (fun (W : World) (hb : Below w.heap.size w W) => k.later hb)
  have HR := Hid.mk' hr
  obtain ⟨ad, cap, rfl, -⟩ := h
  obtain ⟨ad', cap', rfl, -⟩ := k
  clear hr
  go_enter Tryz.func30, Tryz.ntmps30
  go_wp2_with fail
  go_loopw [5] (fun i wr => ∃ k : Nat, k ≤ L.length ∧ i = .int .i64 k ∧ Hid (Below w.heap.size w wr)) (fun i _ => L.length - (intOf i).toNat)
  case atStart => exact ⟨0, Nat.zero_le _, rfl, Below.refl _ _⟩
  case round =>
    obtain ⟨k, hk, rfl, HB⟩ := hrel
    rcases Nat.lt_or_ge k L.length with h1 | h1
    · have hkn : (k : Int) < (L.length : Int) := by omega
      have hk0 : (0 : Int) ≤ (k : Int) := by omega
      obtain ⟨_, _, e1, g1⟩ := HA.out _ HB.out
      obtain ⟨_, _, e2, g2⟩ := HK.out _ HB.out
      obtain ⟨rfl, rfl⟩ : ad = _ ∧ cap = _ := by simpa using e1
      obtain ⟨rfl, rfl⟩ : ad' = _ ∧ cap' = _ := by simpa using e2
      obtain ⟨b, o, x, rfl, c1, n1⟩ := g1 k _ (List.getElem?_eq_getElem h1)
      obtain ⟨b', o', x', rfl, c2, n2⟩ := g2 k _ (List.getElem?_eq_getElem h1)
      have HS := Hid.mk' (fun (W : World) (hb : Below wr.heap.size wr W) => SameInts_any x x' _ _ W (n1.later hb) (n2.later hb) (by have := HR.out _ (List.getElem_mem h1); omega))
      obtain ⟨a1, q1, hx1⟩ := n1.form
      obtain ⟨a2, q2, hx2⟩ := n2.form
      rw [hx1] at c1 HS
      rw [hx2] at c2 HS
      clear n1 n2 hx1 hx2 g1 g2 e1 e2
      generalize L[k].length = m at *
      have hcur0 : Below wr.heap.size wr wr := Below.refl _ _
      have hcur : Below wr.heap.size wr wr.drew := (Below.refl _ _).drew
      have HX : Hid (∀ W, Below wr.heap.size wr W → (W.cell? ⟨b, o + k, none⟩ = some (.slice a1 m q1) ∧ W.cell? ⟨b', o' + k, none⟩ = some (.slice a2 m q2))) := fun W hb => ⟨by rw [hb.cell (cell_lt c1)]; exact c1, by rw [hb.cell (cell_lt c2)]; exact c2⟩
      go_wp2_with fail
      go_region_held3 (fun W => W.cell? ⟨b, o + k, none⟩ = some (.slice a1 m q1) ∧ W.cell? ⟨b', o' + k, none⟩ = some (.slice a2 m q2))
        (first | exact HX.out _ hcur0 | exact HX.out _ hcur | exact HX.out _ hbw5)
        (first
          | (go_at_call 81; refine (HS.out _ hcur).mono ?_; rintro e w5 ⟨rfl, hb5⟩; have hbw5 := below_chain hcur hb5; clear hb5))
      all_goals
        go_wp2_with fail
        exact ⟨⟨k + 1, h1, by go_num, below_chain HB.out hbw5⟩, by simp [intOf]; omega⟩
    · obtain rfl : k = L.length := by omega
      go_wp2_with fail
      go_ret
      exact ⟨rfl, HB.out⟩
end Go.Proofs.YtphecjjblnnjdaaGreatDoor

/- channel.Table in all cases, and the laws' closed fact: two even symbols, one in four of which is changed. -/
namespace Go.Proofs.YtphecjjblnnjdaaGreatDoor
open Go.RowKit

theorem FG.tab {w wr : World} {g n C : Nat} {rb : Nat → Nat} {Z : Nat → Nat → Int} (h : FG w wr g n C C n rb (fun i k => .int .i64 (Z i k))) (h0 : 0 < n) (hC : 0 < C) : TabAt wr (.slice (some ⟨g, 0, none⟩) n n) n (fun i => .slice (some ⟨rb i, 0, none⟩) C C) (fun _ => C) Z := by
  refine Or.inr ⟨g, 0, n, rfl, h0, fun i hi => ⟨by rw [Nat.zero_add]; exact h.made i hi, Or.inr ⟨rb i, 0, C, rfl, hC, fun k hk => ?_⟩⟩⟩
  rw [Nat.zero_add]
  exact (h.rows i hi).row k hk
/-- The rows of a table as lists. -/
def tabL (R : Nat) (ns : Nat → Nat) (zs : Nat → Nat → Int) : List (List Int) := (List.range R).map fun i => rowL (zs i) (ns i)
theorem atF_rowL {z : Nat → Int} {n i : Nat} (hi : i < n) : atF (rowL z n) i = z i := by
  unfold atF rowL
  rw [List.getD_eq_getElem?_getD, List.getElem?_map, List.getElem?_range hi]; rfl
theorem tab_lol {w : World} {v : Value} {R : Nat} {vs : Nat → Value} {ns : Nat → Nat} {zs : Nat → Nat → Int} (h : TabAt w v R vs ns zs) : LolAt w v (tabL R ns zs) := by
  have hl : (tabL R ns zs).length = R := by simp [tabL]
  rcases h with ⟨ad, cap, rfl, rfl⟩ | ⟨b, o, cap, rfl, h0, hr⟩
  · exact ⟨ad, cap, by simp [tabL], fun i r hr => by simp [tabL] at hr⟩
  · refine ⟨some ⟨b, o, none⟩, cap, by rw [hl], fun i r hi => ?_⟩
    have hiR : i < R := by rw [← hl]; exact (List.getElem?_eq_some_iff.mp hi).1
    have e : r = rowL (zs i) (ns i) := by
      unfold tabL at hi
      rw [List.getElem?_map, List.getElem?_range hiR] at hi
      exact (Option.some.inj hi).symm
    subst e
    refine ⟨b, o, vs i, rfl, (hr i hiR).1, ?_⟩
    rw [rowL_length]
    exact (hr i hiR).2.congr fun k hk => (atF_rowL hk).symm
theorem tabL_same {R : Nat} {ns ns' : Nat → Nat} {zs zs' : Nat → Nat → Int} (h1 : ∀ i, i < R → ns i = ns' i) (h2 : ∀ i k, i < R → k < ns i → zs i k = zs' i k) : tabL R ns zs = tabL R ns' zs' := by
  refine List.map_congr_left fun i hi => ?_
  have hi' := List.mem_range.mp hi
  rw [← h1 i hi']
  exact List.map_congr_left fun k hk => h2 i k hi' (List.mem_range.mp hk)
theorem tabL_row {R : Nat} {ns : Nat → Nat} {zs : Nat → Nat → Int} {B : Nat} (h : ∀ i, i < R → ns i ≤ B) (r : List Int) (hr : r ∈ tabL R ns zs) : r.length ≤ B := by
  obtain ⟨i, hi, rfl⟩ := List.mem_map.mp hr
  rw [rowL_length]
  exact h i (List.mem_range.mp hi)

theorem chTable_any (a : Nat → Addr) (u : Value) (n : Nat) (z : Nat → Int) (v : Value) (R : Nat) (vs : Nat → Value) (ns : Nat → Nat) (zs : Nat → Nat → Int) (w : World) (hE : Errs w a) (hu : NumsAt w u n z) (h : TabAt w v R vs ns zs) (hn : n ≤ 1000) (hR : R ≤ 40) (hns : ∀ i, i < R → ns i ≤ 400) :
    Calls Tryz.prog 29 #[u, v] w fun e w' => ∃ t', e = .returned (.tuple #[t', errV a (taErr n z R ns zs)]) ∧ (taErr n z R ns zs ≠ 0 → t' = .slice none 0 0) ∧ (taErr n z R ns zs = 0 → ∃ vs', TabAt w' t' R vs' (fun _ => ns 0) (outZ n z R (ns 0) zs)) ∧ Below w.heap.size w w' := by
  by_cases h1 : inErr n z R ns zs = 0
  · refine (Table_main a u n z v R vs ns zs w hE hu h h1).mono ?_
    rintro e w' ⟨hA, hB, hb⟩
    obtain ⟨hok, _⟩ := inOk_of h1
    by_cases h2 : 4096 < inL n z R (ns 0) zs
    · have ht : taErr n z R ns zs = 2 := by unfold taErr; rw [if_neg (by omega), if_pos h2]
      refine ⟨_, by rw [hB h2, ht], fun _ => rfl, fun h => ?_, hb⟩
      rw [ht] at h; cases h
    · have ht : taErr n z R ns zs = 0 := by unfold taErr; rw [if_neg (by omega), if_neg h2]
      obtain ⟨g, rb, he, hF⟩ := hA (by omega)
      exact ⟨_, by rw [he, ht]; rfl, fun h => absurd ht h, fun _ => ⟨_, hF.tab hok.n0 hok.c0⟩, hb⟩
  · have ht : taErr n z R ns zs = inErr n z R ns zs := by unfold taErr; rw [if_pos h1]
    by_cases h2 : chanErr R ns zs ≠ 0
    · have ht2 : taErr n z R ns zs = chanErr R ns zs := by rw [ht]; unfold inErr; rw [if_pos h2]
      obtain ⟨ad, cap, rfl⟩ := hu.form
      refine (Table_chan a ad n cap v R vs ns zs w hE h hR hns h2).mono ?_
      rintro e w' ⟨rfl, rfl⟩
      exact ⟨_, by rw [ht2], fun _ => rfl, fun h => by rw [ht2] at h; exact absurd h h2, Below.refl _ _⟩
    · by_cases h3 : weightsErr z n ≠ 0
      · have ht2 : taErr n z R ns zs = weightsErr z n := by rw [ht]; unfold inErr; rw [if_neg h2, if_pos h3]
        refine (Table_weights a u n z v R vs ns zs w hE hu h hn hR hns (by omega) h3).mono ?_
        rintro e w' ⟨rfl, rfl⟩
        exact ⟨_, by rw [ht2], fun _ => rfl, fun h => by rw [ht2] at h; exact absurd h h3, Below.refl _ _⟩
      · have hne : n ≠ R := fun e => h1 (by unfold inErr; rw [if_neg h2, if_neg h3, if_neg (by omega)])
        have ht2 : taErr n z R ns zs = 3 := by rw [ht]; unfold inErr; rw [if_neg h2, if_neg h3, if_pos hne]
        refine (Table_lens a u n z v R vs ns zs w hE hu h hn hR hns (by omega) (by omega) hne).mono ?_
        rintro e w' ⟨rfl, hb⟩
        exact ⟨_, by rw [ht2], fun _ => rfl, (fun h => by rw [ht2] at h; cases h), hb⟩

/-- The two rows of the closed fact. -/
def noisZ (i k : Nat) : Int := if i = k then 3 else 1
theorem noisy_err : inErr 2 (fun _ => 1) 2 (fun _ => 2) noisZ = 0 := by decide
theorem noisy_ta : taErr 2 (fun _ => 1) 2 (fun _ => 2) noisZ = 0 := by decide +kernel
theorem noisy_out (i k : Nat) (hi : i < 2) (hk : k < 2) : outZ 2 (fun _ => 1) 2 2 noisZ i k = noisZ i k := by
  rcases (show i = 0 ∨ i = 1 by omega) with rfl | rfl <;> rcases (show k = 0 ∨ k = 1 by omega) with rfl | rfl <;> decide +kernel
theorem topc_cell (W : World) (c : Array Value) (t : TypeId) {b : Nat} (j : Nat) (hb : b = W.heap.size) : (W.alloc (.cells c t)).cell? ⟨b, j, none⟩ = c[j]? := by subst hb; simp
theorem noisy_table (w : World) (t1 t2 : TypeId) : TabAt (((w.alloc (.cells #[.int .i64 3, .int .i64 1] t1)).alloc (.cells #[.int .i64 1, .int .i64 3] t1)).alloc (.cells #[.slice (some ⟨w.heap.size, 0, none⟩) 2 2, .slice (some ⟨w.heap.size + 1, 0, none⟩) 2 2] t2)) (.slice (some ⟨w.heap.size + 1 + 1, 0, none⟩) 2 2) 2 (fun i => .slice (some ⟨w.heap.size + i, 0, none⟩) 2 2) (fun _ => 2) noisZ := by
  refine Or.inr ⟨_, _, _, rfl, by decide, fun i hi => ⟨?_, Or.inr ⟨_, _, _, rfl, (by show 0 < 2; decide), fun k hk => ?_⟩⟩⟩
  · rcases (show i = 0 ∨ i = 1 by omega) with rfl | rfl
    · exact topc_cell _ _ _ _ (by simp)
    · exact topc_cell _ _ _ _ (by simp)
  · have hk2 : k < 2 := hk
    rcases (show i = 0 ∨ i = 1 by omega) with rfl | rfl
    · rw [World.cell?_alloc_lt _ _ _ (by simp; omega), World.cell?_alloc_lt _ _ _ (by simp)]
      rcases (show k = 0 ∨ k = 1 by omega) with rfl | rfl
      · exact topc_cell _ _ _ _ rfl
      · exact topc_cell _ _ _ _ rfl
    · rw [World.cell?_alloc_lt _ _ _ (by simp)]
      rcases (show k = 0 ∨ k = 1 by omega) with rfl | rfl
      · exact topc_cell _ _ _ _ (by simp)
      · exact topc_cell _ _ _ _ (by simp)

set_option maxRecDepth 100000 in
set_option maxHeartbeats 4000000 in
theorem noisy_any (a : Nat → Addr) (w : World) (hE : Errs w a) : Calls Tryz.prog 7 #[] w fun e w' => e = .returned (.bool true) ∧ Below w.heap.size w w' := by
  obtain ⟨W0, hW0⟩ : ∃ W0, W0 = w.alloc (.cells #[.int .i64 1, .int .i64 1] 3) := ⟨_, rfl⟩
  obtain ⟨W3, hW3⟩ : ∃ W3, W3 = ((W0.alloc (.cells #[.int .i64 3, .int .i64 1] 3)).alloc (.cells #[.int .i64 1, .int .i64 3] 3)).alloc (.cells #[.slice (some ⟨W0.heap.size, 0, none⟩) 2 2, .slice (some ⟨W0.heap.size + 1, 0, none⟩) 2 2] 22) := ⟨_, rfl⟩
  have hs0 : W0.heap.size = w.heap.size + 1 := by rw [hW0]; simp
  have hb0 : Below w.heap.size w W0 := by rw [hW0]; exact (Below.refl _ _).alloc (Nat.le_refl _) _
  have hb3 : Below W0.heap.size W0 W3 := by rw [hW3]; exact (((Below.refl _ _).alloc (Nat.le_refl _) _).alloc (by simp) _).alloc (by simp; omega) _
  have htab : TabAt W3 (.slice (some ⟨W0.heap.size + 1 + 1, 0, none⟩) 2 2) 2 (fun i => .slice (some ⟨W0.heap.size + i, 0, none⟩) 2 2) (fun _ => 2) noisZ := by rw [hW3]; exact noisy_table W0 _ _
  have hnum : NumsAt W0 (.slice (some ⟨w.heap.size, 0, none⟩) 2 2) 2 (fun _ => 1) := by
    refine Or.inr ⟨_, _, _, rfl, by decide, fun i hi => ?_⟩
    rw [hW0]
    rcases (show i = 0 ∨ i = 1 by omega) with rfl | rfl
    · exact topc_cell _ _ _ _ rfl
    · exact topc_cell _ _ _ _ rfl
  have hT := chTable_any a _ 2 (fun _ => 1) _ 2 _ (fun _ => 2) noisZ W3 (hE.below (below_chain hb0 hb3)) (hnum.later hb3) htab (by decide) (by decide) (fun _ _ => by decide)
  rw [noisy_ta, errV_zero] at hT
  have HB3 := Hid.mk' (below_chain hb0 hb3)
  rw [hW3, hs0, hW0] at hT
  clear htab hnum hb0 hb3 hE
  go_enter Tryz.func7, Tryz.ntmps7
  go_wp2_with fail
  refine hT.mono ?_
  clear hT
  rintro e w5 ⟨t5, rfl, _, ht5, hb5⟩
  obtain ⟨vs5, ht5⟩ := ht5 trivial
  rw [← hs0, ← hW0, ← hW3] at hb5
  obtain ⟨ad5, cap5, rfl⟩ := ht5.form
  have HL5 : Hid (LolAt w5 (.slice ad5 2 cap5) (tabL 2 (fun _ => 2) noisZ)) := by
    have := tab_lol ht5
    rw [tabL_same (ns' := fun _ => 2) (zs' := noisZ) (fun _ _ => rfl) (fun i k hi hk => noisy_out i k hi hk)] at this
    exact this
  have HB5 := Hid.mk' (below_chain HB3.out hb5)
  clear ht5 hb5 hs0 hW0 hW3
  go_wp2_with fail
  have HB6 : Hid (Below w5.heap.size w5 (((w5.alloc (.cells #[.int .i64 3, .int .i64 1] 3)).alloc (.cells #[.int .i64 1, .int .i64 3] 3)).alloc (.cells #[.slice (some ⟨w5.heap.size, 0, none⟩) 2 2, .slice (some ⟨w5.heap.size + 1, 0, none⟩) 2 2] 22))) := (((Below.refl _ _).alloc (Nat.le_refl _) _).alloc (by simp) _).alloc (by simp; omega) _
  refine (SameLists_any _ _ (tabL 2 (fun _ => 2) noisZ) _ (HL5.out.later HB6.out) (tab_lol (noisy_table w5 3 22)) (by decide) (fun r hr => Nat.le_trans (tabL_row (B := 2) (fun _ _ => Nat.le_refl _) r hr) (by decide))).mono ?_
  rintro e w7 ⟨rfl, hb7⟩
  have HB7 := Hid.mk' (below_chain HB5.out (below_chain HB6.out hb7))
  clear hb7
  go_wp2_with fail
  go_ret
  exact ⟨rfl, HB7.out⟩
end Go.Proofs.YtphecjjblnnjdaaGreatDoor

/- The document's table of what goes in and comes out. -/
namespace Go.Proofs.YtphecjjblnnjdaaGreatDoor
open Go.RowKit

/-- The lists of both sides are one. -/
theorem whL_flat (C : Nat) (f : Nat → Nat → Nat × Nat) (L : Nat) : ∀ R, (flatF C f R).map (fun p => (wholeP L p : Int)) = flatL (fun _ => C) (fun i k => (wholeP L (f i k) : Int)) R
  | 0 => rfl
  | R + 1 => by
    have h := whL_flat C f L R
    show (flatF C f R ++ (List.range C).map (f R)).map _ = flatL (fun _ => C) _ R ++ rowL _ C
    rw [List.map_append, h, List.map_map]
    rfl
theorem whL_out (n : Nat) (z : Nat → Int) (R C : Nat) (zs : Nat → Nat → Int) : whL (flatF C (inF n z C zs) R) = flatL (fun _ => C) (outZ n z R C zs) R := whL_flat C _ _ R
theorem sumN_listC : ∀ l : List Int, sumN (atF l) l.length = l.sum := by
  have h : ∀ n, ∀ l : List Int, l.length = n → sumN (atF l) l.length = l.sum := by
    intro n
    induction n with
    | zero => intro l hl; rw [List.length_eq_zero_iff.mp hl]; rfl
    | succ n ih =>
      intro l hl
      have hne : l ≠ [] := fun e => by rw [e] at hl; simp at hl
      have e := List.dropLast_concat_getLast hne
      have hd : l.dropLast.length = n := by simp; omega
      have h1 := ih _ hd
      have h2 : sumN (atF l) (n + 1) = sumN (atF l) n + atF l n := rfl
      have h3 : sumN (atF l) n = sumN (atF l.dropLast) n := sumN_congr fun i hi => by
        unfold atF
        rw [List.getD_eq_getElem?_getD, List.getD_eq_getElem?_getD, List.getElem?_dropLast, if_pos (by omega)]
      have h4 : atF l n = l.getLast hne := by
        unfold atF
        rw [List.getD_eq_getElem?_getD, List.getLast_eq_getElem]
        simp [hl]
      rw [hl, h2, h3, h4]
      rw [hd] at h1
      rw [h1]
      conv => rhs; rw [← e]
      simp
  exact fun l => h _ l rfl
theorem sum_cast (L : Nat) : ∀ l : List (Nat × Nat), (l.map (fun p => (wholeP L p : Int))).sum = ((sumP L l : Nat) : Int)
  | [] => rfl
  | p :: r => by
    have h := sum_cast L r
    have e : sumP L (p :: r) = wholeP L p + sumP L r := by simp [sumP]
    rw [e, List.map_cons, List.sum_cons, h]
    simp
theorem wholeP_le_sum {L : Nat} : ∀ {l : List (Nat × Nat)} {p : Nat × Nat}, p ∈ l → wholeP L p ≤ sumP L l
  | q :: r, p, h => by
    have e : sumP L (q :: r) = wholeP L q + sumP L r := by simp [sumP]
    rw [e]
    rcases List.mem_cons.mp h with rfl | h
    · omega
    · have := wholeP_le_sum (L := L) h
      omega
theorem longB_const {C : Nat} (hC : C ≤ 16) : ∀ R, longB (fun _ => C) R = false
  | 0 => rfl
  | R + 1 => by show (longB (fun _ => C) R || decide (16 < C)) = false; rw [longB_const hC R, decide_eq_false (by omega)]; rfl
theorem unevenB_const (C : Nat) : ∀ R, unevenB (fun _ => C) R = false
  | 0 => rfl
  | R + 1 => by show (unevenB (fun _ => C) R || _) = false; rw [unevenB_const C R]; simp
theorem sumT_constC (C : Nat) : ∀ R, sumT (fun _ => C) R = R * C
  | 0 => by simp [sumT]
  | R + 1 => by show sumT (fun _ => C) R + C = _; rw [sumT_constC C R, Nat.succ_mul]
/-- The table's own error: only its sum can be too great. -/
theorem tabErr_out {n : Nat} {z : Nat → Int} {R C : Nat} {zs : Nat → Nat → Int} (h : InOk n z R C zs) : tabErr R (fun _ => C) (outZ n z R C zs) = if 4096 < inL n z R C zs then 2 else 0 := by
  have h16 := h.n16
  rw [tabErr_even (by omega) (longB_const h.c16 R) (unevenB_const C R)]
  have hs : sumN (atF (flatL (fun _ => C) (outZ n z R C zs) R)) (flatL (fun _ => C) (outZ n z R C zs) R).length = (inL n z R C zs : Int) := by
    rw [sumN_listC, ← whL_out]
    unfold whL
    rw [sum_cast]
    have := h.sum
    unfold inL at this ⊢
    rw [this]
  have hnn : ∀ i, i < (flatL (fun _ => C) (outZ n z R C zs) R).length → 0 ≤ atF (flatL (fun _ => C) (outZ n z R C zs) R) i := fun i hi => by
    rw [← whL_out] at hi ⊢
    unfold atF whL at *
    rw [List.getD_eq_getElem?_getD, List.getElem?_map]
    cases e : (flatF C (inF n z C zs) R)[i]? with
    | none => simp
    | some p => simp
  have hneg : negB (atF (flatL (fun _ => C) (outZ n z R C zs) R)) (flatL (fun _ => C) (outZ n z R C zs) R).length = false := by
    cases e : negB (atF (flatL (fun _ => C) (outZ n z R C zs) R)) (flatL (fun _ => C) (outZ n z R C zs) R).length with
    | false => rfl
    | true =>
      obtain ⟨i, hi, hn⟩ := (negB_iff _ _).1 e
      have := hnn i hi
      omega
  have hLp : 0 < inL n z R C zs := lcmP_pos _ fun p hp => by
    obtain ⟨i, k, hi, hk, rfl⟩ := flatF_mem hp
    exact (h.low hi k).1
  have hsome : someB (atF (flatL (fun _ => C) (outZ n z R C zs) R)) (flatL (fun _ => C) (outZ n z R C zs) R).length = true := by
    cases e : someB (atF (flatL (fun _ => C) (outZ n z R C zs) R)) (flatL (fun _ => C) (outZ n z R C zs) R).length with
    | true => rfl
    | false =>
      exfalso
      have hz : ∀ i, i < (flatL (fun _ => C) (outZ n z R C zs) R).length → atF (flatL (fun _ => C) (outZ n z R C zs) R) i = (fun _ => 0) i := fun i hi => by
        have h1 := hnn i hi
        have h2 : ¬ 0 < atF (flatL (fun _ => C) (outZ n z R C zs) R) i := fun hp => by
          have := (someB_iff _ _).2 ⟨i, hi, hp⟩
          rw [e] at this; cases this
        show _ = (0 : Int)
        omega
      rw [sumN_congr hz] at hs
      have h0 : ∀ m, sumN (fun _ => 0) m = 0 := by
        intro m
        induction m with
        | zero => rfl
        | succ m ih => show sumN (fun _ => 0) m + 0 = 0; rw [ih]; rfl
      rw [h0] at hs
      omega
  by_cases hg : 4096 < inL n z R C zs
  · rw [if_pos hg]
    exact listErr_great hneg hsome (by rw [hs]; omega)
  · rw [if_neg hg]
    exact listErr_none0 hneg hsome (by rw [hs]; omega)

set_option maxRecDepth 100000 in
theorem InError_any (u : Value) (n : Nat) (z : Nat → Int) (v : Value) (R : Nat) (vs : Nat → Value) (ns : Nat → Nat) (zs : Nat → Nat → Int) (w : World) (hu : NumsAt w u n z) (h : TabAt w v R vs ns zs) (hn : n ≤ 1000) (hR : R ≤ 40) (hns : ∀ i, i < R → ns i ≤ 400) :
    Calls Tryz.prog 32 #[u, v] w fun e w' => e = .returned (.int .i64 (inErr n z R ns zs : Nat)) ∧ Below w.heap.size w w' := by
  have hC := ChannelError_any v R vs ns zs w h (by omega) (fun i hi => by have := hns i hi; omega)
  have HW : Hid (∀ W, Below w.heap.size w W → Calls Tryz.prog 24 #[u] W fun e w' => e = .returned (.int .i64 (weightsErr z n : Int)) ∧ w' = W) := fun W hb => WeightsError_any _ n z W (hu.later hb) (by omega)
  obtain ⟨ad, cap, rfl⟩ := hu.form
  obtain ⟨ad', cap', rfl⟩ := h.form
  have HE : Hid (inErr n z R ns zs = if chanErr R ns zs ≠ 0 then chanErr R ns zs else if weightsErr z n ≠ 0 then weightsErr z n else if n ≠ R then 3 else 0) := rfl
  generalize inErr n z R ns zs = ie at *
  have hcl := chanErr_le R ns zs
  have hwl := weightsErr_le z n
  generalize chanErr R ns zs = c at *
  generalize weightsErr z n = d at *
  clear h hu hns
  by_cases h1 : c = 0
  · subst h1
    rw [if_neg (by simp)] at HE
    by_cases h2 : d = 0
    · subst h2
      rw [if_neg (by simp)] at HE
      by_cases h3 : n = R
      · subst h3
        rw [if_neg (by simp)] at HE
        have hnb : ((n : Int) != (n : Int)) = false := by simp
        go_enter Tryz.func32, Tryz.ntmps32
        go_wp2_with fail
        refine hC.mono ?_
        rintro e w1 ⟨rfl, hb1⟩
        have HB1 := Hid.mk' hb1
        clear hb1
        go_wp2_with fail
        refine (HW.out w1 HB1.out).mono ?_
        rintro e w2 ⟨rfl, hw2⟩
        rw [hw2]
        clear hw2
        go_wp2_with fail
        go_ret
        exact ⟨ret_int (by rw [HE.out]; rfl), HB1.out⟩
      · rw [if_pos h3] at HE
        have hnb : ((n : Int) != (R : Int)) = true := by rw [bne_iff_ne]; omega
        go_enter Tryz.func32, Tryz.ntmps32
        go_wp2_with fail
        refine hC.mono ?_
        rintro e w1 ⟨rfl, hb1⟩
        have HB1 := Hid.mk' hb1
        clear hb1
        go_wp2_with fail
        refine (HW.out w1 HB1.out).mono ?_
        rintro e w2 ⟨rfl, hw2⟩
        rw [hw2]
        clear hw2
        go_wp2_with fail
        go_ret
        exact ⟨ret_int (by rw [HE.out]; rfl), HB1.out⟩
    · rw [if_pos h2] at HE
      have hdb : ((d : Int) == 0) = false := by rw [beq_eq_false_iff_ne]; omega
      go_enter Tryz.func32, Tryz.ntmps32
      go_wp2_with fail
      refine hC.mono ?_
      rintro e w1 ⟨rfl, hb1⟩
      have HB1 := Hid.mk' hb1
      clear hb1
      go_wp2_with fail
      refine (HW.out w1 HB1.out).mono ?_
      rintro e w2 ⟨rfl, hw2⟩
      rw [hw2]
      clear hw2
      go_wp2_with fail
      go_ret
      exact ⟨ret_int (by rw [HE.out]), HB1.out⟩
  · rw [if_pos h1] at HE
    have hdb : ((c : Int) == 0) = false := by rw [beq_eq_false_iff_ne]; omega
    go_enter Tryz.func32, Tryz.ntmps32
    go_wp2_with fail
    refine hC.mono ?_
    rintro e w1 ⟨rfl, hb1⟩
    have HB1 := Hid.mk' hb1
    clear hb1
    go_wp2_with fail
    go_ret
    exact ⟨ret_int (by rw [HE.out]), HB1.out⟩

/-- A table, whatever its rows' slices are. -/
def TabIs (w : World) (v : Value) (R : Nat) (ns : Nat → Nat) (zs : Nat → Nat → Int) : Prop := ∃ vs, TabAt w v R vs ns zs
set_option maxRecDepth 100000 in
set_option maxHeartbeats 2000000 in
theorem cutOf_any (g cap R C : Nat) (z : Nat → Int) (w : World) (h : RowAt w g 0 (R * C) z) (hcap : R * C ≤ cap) (hR : R ≤ 16) (hC : C ≤ 16) (hR0 : 0 < R) (hC0 : 0 < C) :
    Calls Tryz.prog 36 #[.slice (some ⟨g, 0, none⟩) (R * C) cap, .int .i64 (C : Int)] w fun e w' => ∃ v', e = .returned v' ∧ TabIs w' v' R (fun _ => C) (fun i k => z (i * C + k)) ∧ Below w.heap.size w w' := by
  obtain ⟨i0, hi, hz0, hz1, hz2⟩ := info_parts Tryz.infoInts
  have HINF : Hid (Tryz.prog.info? 22 = some i0 ∧ i0.zero = some (.slice none 0 0) ∧ i0.size = 1 ∧ i0.bytes = 24) := ⟨hi, hz0, hz1, hz2⟩
  have HR := Hid.mk' (fun (W : World) (hb : Below w.heap.size w W) => h.later hb)
  have hRC : R * C ≤ 256 := Nat.le_trans (Nat.mul_le_mul hR hC) (by decide)
  clear hi hz0 hz1 hz2 h
  generalize hM : R * C = M at *
  have HM := Hid.mk' hM
  clear hM
  go_enter Tryz.func36, Tryz.ntmps36
  go_wp2_with fail
  go_loopw [5, 6] (fun s t wr => ∃ k : Nat, k ≤ R ∧ t = .int .i64 ((k * C : Nat) : Int) ∧ Hid (wr.ownsRow w.heap.size 22 1 s k (rowV (fun i => .slice (some ⟨g, i * C, none⟩) C (cap - i * C)) k)) ∧ Hid (Below w.heap.size w wr)) (fun _ t _ => M - (intOf t).toNat)
  case atStart => exact ⟨0, Nat.zero_le _, by simp, World.ownsRow_nil _ _ _ _, Below.refl _ _⟩
  case round =>
    obtain ⟨k, hk, rfl, HO, HB⟩ := hrel
    rcases Nat.lt_or_ge k R with h1 | h1
    · have hkC : k * C + C ≤ M := by rw [← HM.out, ← Nat.succ_mul]; exact Nat.mul_le_mul_right _ h1
      have HKS : Hid ((k + 1) * C = k * C + C) := Nat.succ_mul k C
      have HRV : Hid (rowV (fun i => .slice (some ⟨g, i * C, none⟩) C (cap - i * C)) (k + 1) = rowV (fun i => .slice (some ⟨g, i * C, none⟩) C (cap - i * C)) k ++ [.slice (some ⟨g, k * C, none⟩) C (cap - k * C)]) := by
        show _ = _
        unfold rowV
        rw [List.range_succ]; simp
      have hsz := HB.out.size
      generalize hkc : k * C = kc at *
      have HKC := Hid.mk' hkc
      clear hkc
      have hle : ((kc : Int) + (C : Int)) ≤ (M : Int) := by omega
      go_wp2_with (at_builtin; go_must (refine wpList_append_lies _ rfl _ _ _ rfl w.heap.size 22 i0 _ 1 24 Tryz.underlying23 HINF.out.1 HINF.out.2.1 HINF.out.2.2.1 HINF.out.2.2.2 rfl (by omega) u5 _ _ rfl (HO.out.alloc _) ⟨wr.heap.size, 0, none⟩ 1 1 [_] rfl rfl (one_new _ _ _) (by simp [Value.oneCell']) (by omega) (by unfold maxLen; omega) (by omega) (by simp; omega) _ rfl ?_; intro g' cap2 w5 hown5 hgrow5 hat5 hlt5; have HO5 := Hid.mk' hown5; have HB5 := Hid.mk' (below_push HB.out HO.out hgrow5); clear hown5 hgrow5 hat5))
      refine ⟨⟨k + 1, h1, ?_, ?_, HB5⟩, by simp [intOf]; omega⟩
      · rw [HKS.out]; go_num
      · rw [HRV.out]; exact HO5
    · obtain rfl : k = R := by omega
      have hle : ¬ ((M : Int) + (C : Int)) ≤ (M : Int) := by omega
      rw [HM.out]
      go_wp2_with fail
      go_ret
      refine ⟨_, rfl, ⟨_, tabAt_of_row HO.out (fun i hi => ?_)⟩, HB.out⟩
      refine Or.inr ⟨g, i * C, cap - i * C, rfl, hC0, fun j hj => ?_⟩
      have h5 : i * C + C ≤ M := by rw [← HM.out, ← Nat.succ_mul]; exact Nat.mul_le_mul_right _ hi
      have := HR.out wr HB.out (i * C + j) (by omega)
      rw [Nat.zero_add] at this
      exact this

theorem flatL_at {C : Nat} {Z : Nat → Nat → Int} : ∀ {R i k : Nat}, i < R → k < C → atF (flatL (fun _ => C) Z R) (i * C + k) = Z i k
  | R + 1, i, k, hi, hk => by
    have hl : (flatL (fun _ => C) Z R).length = R * C := by rw [flatL_length, sumT_constC]
    unfold atF
    show (flatL (fun _ => C) Z R ++ rowL (Z R) C).getD (i * C + k) 0 = _
    rw [List.getD_eq_getElem?_getD]
    rcases Nat.lt_or_ge i R with h | h
    · have h5 : i * C + C ≤ R * C := by rw [← Nat.succ_mul]; exact Nat.mul_le_mul_right _ h
      rw [List.getElem?_append_left (by rw [hl]; omega), ← List.getD_eq_getElem?_getD]
      exact flatL_at h hk
    · obtain rfl : i = R := by omega
      rw [List.getElem?_append_right (by rw [hl]; omega), hl, show i * C + k - i * C = k by omega, ← List.getD_eq_getElem?_getD]
      exact atF_rowL hk
set_option maxRecDepth 100000 in
set_option maxHeartbeats 4000000 in
theorem TableOf_any (u : Value) (n : Nat) (z : Nat → Int) (v : Value) (R : Nat) (vs : Nat → Value) (ns : Nat → Nat) (zs : Nat → Nat → Int) (w : World) (hu : NumsAt w u n z) (h : TabAt w v R vs ns zs) (hn : n ≤ 1000) (hR : R ≤ 40) (hns : ∀ i, i < R → ns i ≤ 400) :
    Calls Tryz.prog 9 #[u, v] w fun e w' => ∃ t', e = .returned (.tuple #[t', .int .i64 (taErr n z R ns zs : Nat)]) ∧ (taErr n z R ns zs ≠ 0 → t' = .slice none 0 0) ∧ (taErr n z R ns zs = 0 → TabIs w' t' R (fun _ => ns 0) (outZ n z R (ns 0) zs)) ∧ Below w.heap.size w w' := by
  have hI := InError_any u n z v R vs ns zs w hu h hn hR hns
  have HTL := Hid.mk' (inErr_le n z R ns zs)
  by_cases he : inErr n z R ns zs = 0
  · obtain ⟨hok, hev⟩ := inOk_of he
    have HOK := Hid.mk' hok
    have HCH : Hid (∀ W, Below w.heap.size w W → Calls Tryz.prog 34 #[u, v] W fun e w' => ∃ v', e = .returned v' ∧ RtAt w' v' (flatF (ns 0) (inF n z (ns 0) zs) R) ∧ Below W.heap.size W w') := fun W hb => Chances_any u n z v R vs ns zs W (hu.later hb) (h.later hb) he
    have HTA : Hid (taErr n z R ns zs = if 4096 < inL n z R (ns 0) zs then 2 else 0) := by show _ = _; unfold taErr; rw [if_neg (by omega)]
    have HTE := Hid.mk' (tabErr_out hok)
    have HFB : Hid (∀ p, p ∈ flatF (ns 0) (inF n z (ns 0) zs) R → 0 < p.2 ∧ p.2 ≤ 1000000000 ∧ p.1 ≤ 1000000000) := fun p hp => by
      obtain ⟨i, k, hi, hk, rfl⟩ := flatF_mem hp
      obtain ⟨_, _, _, _, h5, h6, h7⟩ := hok.bounds hi hk
      exact ⟨h5, by omega, by omega⟩
    have HFL : Hid ((flatF (ns 0) (inF n z (ns 0) zs) R).length = R * ns 0) := flatF_length _ _ _
    have h16 := hok.n16
    have h0 := hok.n0
    have hC16 := hok.c16
    have hC0 := hok.c0
    have hRC : R * ns 0 ≤ 256 := Nat.le_trans (Nat.mul_le_mul h16 hC16) (by decide)
    have HC0 : Hid (∀ W, Below w.heap.size w W → ∃ rad rcap b o cap, v = .slice (some ⟨b, o, none⟩) R cap ∧ W.cell? ⟨b, o, none⟩ = some (.slice rad (ns 0) rcap)) := fun W hb => by
      rcases h.later hb with ⟨_, _, _, h1⟩ | ⟨b, o, cap, h1, _, h2⟩
      · omega
      · obtain ⟨h3, h4⟩ := h2 0 h0
        obtain ⟨rad, rcap, hre⟩ := h4.form
        rw [hre, Nat.add_zero] at h3
        exact ⟨rad, rcap, b, o, cap, h1, h3⟩
    have HMX : Hid (∀ p, p ∈ flatF (ns 0) (inF n z (ns 0) zs) R → wholeP (inL n z R (ns 0) zs) p ≤ inL n z R (ns 0) zs) := fun p hp => by
      have := wholeP_le_sum (L := inL n z R (ns 0) zs) hp
      rw [hok.sum] at this
      exact this
    obtain ⟨ad, cap, rfl⟩ := hu.form
    obtain ⟨ad', cap', rfl⟩ := h.form
    rw [he] at hI
    clear hu h hns hev he hok
    go_enter Tryz.func9, Tryz.ntmps9
    go_wp2_with fail
    refine hI.mono ?_
    rintro e w1 ⟨rfl, hb1⟩
    have HB1 := Hid.mk' hb1
    clear hb1 hI
    go_wp2_with fail
    refine (HCH.out w1 HB1.out).mono ?_
    rintro e w2 ⟨v2, rfl, hv2, hb2⟩
    have hW := Whole_any v2 _ 4096 w2 hv2 HFB.out (by rw [HFL.out]; omega) (by omega) HOK.out.gcd
    have HB2 := Hid.mk' (below_chain HB1.out hb2)
    obtain ⟨a2, c2, hv2e, _⟩ := hv2
    rw [hv2e] at hW ⊢
    clear hb2 hv2e
    go_wp2_with fail
    refine hW.mono ?_
    clear hW
    rintro e w3 ⟨hgood, hbad, hb3⟩
    have HB3 := Hid.mk' (below_chain HB2.out hb3)
    clear hb3
    by_cases hall : ∀ p, p ∈ flatF (ns 0) (inF n z (ns 0) zs) R → wholeP (lcmP (flatF (ns 0) (inF n z (ns 0) zs) R)) p ≤ 4096
    · obtain ⟨v3, rfl, hown3⟩ := hgood hall
      have hnum := numsAt_row (l := whL (flatF (ns 0) (inF n z (ns 0) zs) R)) (by rw [show (whL (flatF (ns 0) (inF n z (ns 0) zs) R)).length = (flatF (ns 0) (inF n z (ns 0) zs) R).length by simp [whL]]; exact hown3)
      rw [HFL.out] at hown3
      obtain ⟨g3, cap3, rfl, hge3, hcap3, hcm3⟩ : ∃ g cap, v3 = .slice (some ⟨g, 0, none⟩) (R * ns 0) cap ∧ w2.heap.size ≤ g ∧ R * ns 0 ≤ cap ∧ cap ≤ maxLen := by
        rcases hown3.2 with ⟨rfl, hx⟩ | ⟨g, cap, cur, rfl, hb, _, hc, hm, _⟩
        · have := Nat.mul_pos h0 hC0
          omega
        · exact ⟨g, cap, rfl, hb, hc, hm⟩
      have hrow : RowAt w3 g3 0 (R * ns 0) (atF (flatL (fun _ => ns 0) (outZ n z R (ns 0) zs) R)) := by
        rw [whL_out] at hnum
        rcases hnum with ⟨_, _, h5, h6⟩ | ⟨b, o, c, h5, h6, h7⟩
        · rw [flatL_length, sumT_constC] at h6
          have := Nat.mul_pos h0 hC0
          omega
        · simp only [Value.slice.injEq, Option.some.injEq, Addr.mk.injEq, and_true] at h5
          obtain ⟨⟨rfl, rfl⟩, h8, _⟩ := h5
          rw [← h8] at h7
          exact h7
      have HCUT : Hid (∀ W, Below w3.heap.size w3 W → Calls Tryz.prog 36 #[.slice (some ⟨g3, 0, none⟩) (R * ns 0) cap3, .int .i64 (ns 0 : Int)] W fun e w' => ∃ v', e = .returned v' ∧ TabIs w' v' R (fun _ => ns 0) (outZ n z R (ns 0) zs) ∧ Below W.heap.size W w') := fun W hb => by
        refine (cutOf_any g3 cap3 R (ns 0) _ W (hrow.later hb) hcap3 h16 hC16 h0 hC0).mono ?_
        rintro e w' ⟨v', rfl, ⟨vs', hv'⟩, hbw⟩
        refine ⟨v', rfl, ⟨vs', ?_⟩, hbw⟩
        rcases hv' with h5 | ⟨b, o, c, h5, h6, h7⟩
        · exact Or.inl h5
        · exact Or.inr ⟨b, o, c, h5, h6, fun i hi => ⟨(h7 i hi).1, (h7 i hi).2.congr fun k hk => flatL_at hi hk⟩⟩
      clear hgood hbad hnum hown3 hrow hcap3 hcm3 hge3 hall
      obtain ⟨rad, rcap, b, o, cap5, hve, hc0⟩ := HC0.out w3 HB3.out
      simp only [Value.slice.injEq, true_and] at hve
      obtain ⟨rfl, rfl⟩ := hve
      generalize hMM : R * ns 0 = M at *
      clear hMM
      go_wp2_with fail
      refine (HCUT.out w3 (Below.refl _ _)).mono ?_
      rintro e w4 ⟨v4, rfl, ⟨vs4, hv4⟩, hb4⟩
      have hTE := TableError_any v4 R vs4 (fun _ => ns 0) _ w4 hv4 (by omega) (by rw [sumT_constC]; exact Nat.le_trans (Nat.mul_le_mul h16 hC16) (by decide))
      rw [HTE.out] at hTE
      obtain ⟨a4, c4, hv4e⟩ := hv4.form
      have HB4 := Hid.mk' hb4
      rw [hv4e] at hTE ⊢
      clear hv4 hb4 hv4e
      by_cases hbig : 4096 < inL n z R (ns 0) zs
      · rw [if_pos hbig] at hTE HTA
        go_wp2_with fail
        refine hTE.mono ?_
        clear hTE
        rintro e w5 ⟨rfl, hb5⟩
        have HB5 := Hid.mk' (below_chain HB3.out (below_chain HB4.out hb5))
        clear hb5
        go_wp2_with fail
        go_ret2
        exact ⟨_, by rw [HTA.out]; rfl, fun _ => rfl, (fun h => by rw [HTA.out] at h; cases h), HB5.out⟩
      · rw [if_neg hbig] at hTE HTA
        go_wp2_with fail
        refine hTE.mono ?_
        clear hTE
        rintro e w5 ⟨rfl, hb5⟩
        have HB35 := Hid.mk' (below_chain HB4.out hb5)
        have HB5 := Hid.mk' (below_chain HB3.out HB35.out)
        have hc5 : w5.cell? ⟨b, o, none⟩ = some (.slice rad (ns 0) rcap) := by rw [HB35.out.cell (cell_lt hc0)]; exact hc0
        clear hb5 hc0
        go_wp2_with fail
        refine (HCUT.out w5 HB35.out).mono ?_
        rintro e w6 ⟨v6, rfl, hv6, hb6⟩
        have HV6 := Hid.mk' hv6
        obtain ⟨vs6, hv6'⟩ := hv6
        obtain ⟨a6, c6, rfl⟩ := hv6'.form
        have HB6 := Hid.mk' (below_chain HB5.out hb6)
        clear hv6' hb6
        go_wp2_with fail
        go_ret2
        exact ⟨_, by rw [HTA.out]; rfl, fun h => absurd HTA.out h, fun _ => HV6.out, HB6.out⟩
    · have hx : ∃ p, p ∈ flatF (ns 0) (inF n z (ns 0) zs) R ∧ 4096 < wholeP (lcmP (flatF (ns 0) (inF n z (ns 0) zs) R)) p := by
        by_cases hex : ∃ p, p ∈ flatF (ns 0) (inF n z (ns 0) zs) R ∧ 4096 < wholeP (lcmP (flatF (ns 0) (inF n z (ns 0) zs) R)) p
        · exact hex
        · exact absurd (fun p hp => by
            rcases Nat.lt_or_ge 4096 (wholeP (lcmP (flatF (ns 0) (inF n z (ns 0) zs) R)) p) with h5 | h5
            · exact absurd ⟨p, hp, h5⟩ hex
            · exact h5) hall
      have e3 := hbad hx
      subst e3
      have hbig : 4096 < inL n z R (ns 0) zs := by
        obtain ⟨p, hp, h5⟩ := hx
        have := HMX.out p hp
        unfold inL at this ⊢
        omega
      rw [if_pos hbig] at HTA
      clear hgood hbad hx hall
      go_wp2_with fail
      go_ret2
      exact ⟨_, by rw [HTA.out]; rfl, fun _ => rfl, (fun h => by rw [HTA.out] at h; cases h), HB3.out⟩
  · have HTA : Hid (taErr n z R ns zs = inErr n z R ns zs) := by show _ = _; unfold taErr; rw [if_pos he]
    obtain ⟨ad, cap, rfl⟩ := hu.form
    obtain ⟨ad', cap', rfl⟩ := h.form
    have HNE := Hid.mk' he
    have hpos : (0 : Int) < (inErr n z R ns zs : Int) := by omega
    generalize inErr n z R ns zs = ie at *
    clear hu h hns he
    go_enter Tryz.func9, Tryz.ntmps9
    go_wp2_with fail
    refine hI.mono ?_
    rintro e w1 ⟨rfl, hb1⟩
    have HB1 := Hid.mk' hb1
    clear hb1 hI
    go_wp2_with fail
    go_ret2
    exact ⟨_, by rw [HTA.out]; rfl, fun _ => rfl, fun h => by rw [HTA.out] at h; exact absurd h HNE.out, HB1.out⟩
end Go.Proofs.YtphecjjblnnjdaaGreatDoor

/- dist.cells and dist.Table. -/
namespace Go.Proofs.YtphecjjblnnjdaaGreatDoor
open Go.RowKit

set_option maxRecDepth 100000 in
set_option maxHeartbeats 2000000 in
theorem Concat_some (b o cap R : Nat) (vs : Nat → Value) (ns : Nat → Nat) (zs : Nat → Nat → Int) (w : World) (h0 : 0 < R) (hr : ∀ i, i < R → w.cell? ⟨b, o + i, none⟩ = some (vs i) ∧ NumsAt w (vs i) (ns i) (zs i)) (hR : R ≤ 1000) (hs : sumT ns R ≤ 1000) :
    Calls Tryz.prog 144 #[.slice (some ⟨b, o, none⟩) R cap] w fun e w' => ∃ v', e = .returned v' ∧ w'.ownsRow w.heap.size 3 1 v' (flatL ns zs R).length (cellL (flatL ns zs R)) ∧ Below w.heap.size w w' := by
  obtain ⟨i0, hi, hz0, hz1, hz2⟩ := info_parts Tryz.infoInt
  have HINF : Hid (Tryz.prog.info? 3 = some i0 ∧ i0.zero = some (.int .i64 0) ∧ i0.size = 1 ∧ i0.bytes = 8) := ⟨hi, hz0, hz1, hz2⟩
  have HR := Hid.mk' hr
  have HG : Hid (Calls Tryz.prog 158 #[.slice none 0 0, .int .i64 (sumT ns R : Int)] w fun e w' => ∃ v, e = .returned v ∧ w'.ownsRow w.heap.size 3 1 v 0 [] ∧ Below w.heap.size w w') := by
    rcases Nat.eq_zero_or_pos (sumT ns R) with h1 | h1
    · rw [h1]
      refine (Any8.slices_Grow_room (ρ := Tryz.growA_ren) Tryz.growA none 0 0 0 w (Nat.le_refl _) (by omega) (by omega) (Nat.le_refl _)).mono ?_
      rintro e w' ⟨rfl, rfl⟩
      exact ⟨_, rfl, ⟨rfl, Or.inl ⟨rfl, rfl⟩⟩, Below.refl _ _⟩
    · exact grow_none (sumT ns R) w h1 (by omega)
  clear hi hz0 hz1 hz2 hr
  go_enter Tryz.func144, Tryz.ntmps144
  go_wp2_with fail
  go_loopw [3, 5, 11] (fun s _ i wr => ∃ k : Nat, k ≤ R ∧ s = .int .i64 (sumT ns k : Int) ∧ i = .int .i64 k ∧ wr = w) (fun _ _ i _ => R - (intOf i).toNat)
  case atStart => exact ⟨0, Nat.zero_le _, rfl, rfl, rfl⟩
  case round =>
    obtain ⟨k, hk, rfl, rfl, hwr⟩ := hrel
    rw [hwr]
    clear hwr
    rcases Nat.lt_or_ge k R with h1 | h1
    · have hc := (HR.out k h1).1
      obtain ⟨ad1, cap1, hv1⟩ := (HR.out k h1).2.form
      rw [hv1] at hc
      have hkn : (k : Int) < (R : Int) := by omega
      have hm : sumT ns k + ns k ≤ sumT ns R := sumT_mono ns h1
      have HE : Hid (sumT ns (k + 1) = sumT ns k + ns k) := rfl
      clear hv1
      generalize sumT ns k = sk at *
      generalize ns k = nk at *
      go_wp2_with fail
      exact ⟨⟨k + 1, h1, by rw [HE.out]; go_num, by go_num, trivial⟩, by simp [intOf]; omega⟩
    · obtain rfl : k = R := by omega
      go_wp2_with fail
      refine HG.out.mono ?_
      rintro e w1 ⟨v1, rfl, hown1, hb1⟩
      have HO1 := Hid.mk' hown1
      have HB1 := Hid.mk' hb1
      clear hown1 hb1
      go_wp2_with fail
      go_loopw [6, 8, 27] (fun u _ i wr => ∃ j : Nat, j ≤ k ∧ i = .int .i64 j ∧ Hid (wr.ownsRow w.heap.size 3 1 u (flatL ns zs j).length (cellL (flatL ns zs j))) ∧ Hid (Below w.heap.size w wr)) (fun _ _ i _ => k - (intOf i).toNat)
      case atStart => exact ⟨0, Nat.zero_le _, rfl, HO1, HB1⟩
      case round =>
        obtain ⟨j, hj, rfl, HO, HB⟩ := hrel
        rcases Nat.lt_or_ge j k with h2 | h2
        · have hc := (HR.out j h2).1
          have hc' : wr.cell? ⟨b, o + j, none⟩ = some (vs j) := by rw [HB.out.cell (cell_lt hc)]; exact hc
          have hkn : (j : Int) < (k : Int) := by omega
          have hm1 := sumT_mono ns (Nat.le_of_lt h2)
          have hm2 : sumT ns j + ns j ≤ sumT ns k := sumT_mono ns h2
          have hfb : (flatL ns zs j).length ≤ 1000 ∧ (flatL ns zs j).length + ns j ≤ 1000 := by rw [flatL_length]; omega
          clear hm1 hm2
          rcases (HR.out j h2).2.later HB.out with ⟨ad1, cap1, hv1, hn1⟩ | ⟨b1, o1, cap1, hv1, hn1, hr1⟩
          · rw [hv1] at hc'
            obtain ⟨ao, cc, hu, hlc⟩ := row_shape HO.out
            rw [hu] at HO ⊢
            have HE : Hid (flatL ns zs (j + 1) = flatL ns zs j) := by show flatL ns zs j ++ rowL (zs j) (ns j) = _; rw [hn1]; simp [rowL]
            clear hc hu
            go_wp2_with (at_builtin; go_must (refine wpList_append_nothing rfl _ _ rfl ao _ cc hlc ad1 cap1 rfl rfl ?_))
            exact ⟨⟨j + 1, h2, by go_num, by rw [HE.out]; exact HO, HB⟩, by simp [intOf]; omega⟩
          · rw [hv1] at hc'
            have HR1 := Hid.mk' hr1
            have HC : Hid (∀ u, u ∈ numCells (zs j) (ns j) → u.oneCell' = true) := fun u hu => by obtain ⟨x, rfl⟩ := numCells_ints (zs j) (ns j) u hu; rfl
            have HL : Hid ((numCells (zs j) (ns j)).length = ns j * 1) := by show _ = _; rw [numCells_length, Nat.mul_one]
            have HE : Hid (cellL (flatL ns zs (j + 1)) = cellL (flatL ns zs j) ++ numCells (zs j) (ns j) ∧ (flatL ns zs (j + 1)).length = (flatL ns zs j).length + ns j) := by
              refine ⟨?_, ?_⟩
              · show cellL (flatL ns zs j ++ rowL (zs j) (ns j)) = _
                rw [cellL_append, cellL_row]
              · show (flatL ns zs j ++ rowL (zs j) (ns j)).length = _
                rw [List.length_append, rowL_length]
            have hzB := HB.out.size
            clear hc hr1
            go_wp2_with (at_builtin; go_must (refine wpList_append_lies _ rfl _ _ _ rfl w.heap.size 3 i0 _ 1 8 Tryz.underlying22 HINF.out.1 HINF.out.2.1 HINF.out.2.2.1 HINF.out.2.2.2 rfl (by omega) u6 _ _ rfl HO.out ⟨b1, o1, none⟩ (ns j) cap1 (numCells (zs j) (ns j)) rfl HL.out (fun j u hu => numCells_news HR1.out j u hu) HC.out hn1 (by unfold maxLen; omega) (by omega) (by omega) _ rfl ?_; intro g' cap2 w3 hown3 hgrow3 hat3 hlt3; have HO3 := Hid.mk' hown3; have HG3 := Hid.mk' hgrow3; clear hown3 hgrow3 hat3))
            refine ⟨⟨j + 1, h2, by go_num, ?_, below_grow HB.out HO.out HG3.out⟩, by simp [intOf]; omega⟩
            rw [HE.out.1, HE.out.2]
            exact HO3
        · obtain rfl : j = k := by omega
          go_wp2_with fail
          go_ret
          exact ⟨_, rfl, HO.out, HB.out⟩
set_option maxRecDepth 100000 in
set_option maxHeartbeats 2000000 in
theorem cells_any (v : Value) (R : Nat) (vs : Nat → Value) (ns : Nat → Nat) (zs : Nat → Nat → Int) (w : World) (h : TabAt w v R vs ns zs) (hR : R ≤ 1000) (hs : sumT ns R ≤ 1000) :
    Calls Tryz.prog 122 #[v] w fun e w' => ∃ v', e = .returned v' ∧ w'.ownsRow w.heap.size 3 1 v' (flatL ns zs R).length (cellL (flatL ns zs R)) ∧ Below w.heap.size w w' := by
  have hC : Calls Tryz.prog 144 #[v] w fun e w' => ∃ v', e = .returned v' ∧ w'.ownsRow w.heap.size 3 1 v' (flatL ns zs R).length (cellL (flatL ns zs R)) ∧ Below w.heap.size w w' := by
    rcases h with ⟨ad, cap, rfl, rfl⟩ | ⟨b, o, cap, rfl, h0, hr⟩
    · have hG := Any8.slices_Grow_room (ρ := Tryz.growA_ren) Tryz.growA none 0 0 0 w (Nat.le_refl _) (by omega) (by omega) (Nat.le_refl _)
      have hG' : Calls Tryz.prog 158 #[.slice none 0 0, .int .i64 0] w fun e w' => e = .returned (.slice none 0 0) ∧ w' = w := hG
      clear hG
      go_enter Tryz.func144, Tryz.ntmps144
      go_wp2_with fail
      refine wp_loop_rounds 1 ?_
      rw [rounds_succ]
      go_wp2_with fail
      refine hG'.mono ?_
      rintro e w1 ⟨rfl, hw1⟩
      rw [hw1]
      clear hw1
      go_wp2_with fail
      refine wp_loop_rounds 1 ?_
      rw [rounds_succ]
      go_wp2_with fail
      go_ret
      exact ⟨_, rfl, ⟨rfl, Or.inl ⟨rfl, rfl⟩⟩, Below.refl _ _⟩
    · exact Concat_some b o cap R vs ns zs w h0 hr hR hs
  obtain ⟨ad, cap, rfl⟩ := h.form
  clear h
  go_enter Tryz.func122, Tryz.ntmps122
  go_wp2_with fail
  refine hC.mono ?_
  clear hC
  rintro e w1 ⟨v1, rfl, hrow, hb1⟩
  have HO := Hid.mk' hrow
  have HB := Hid.mk' hb1
  clear hrow hb1
  go_wp2_with fail
  go_ret
  exact ⟨_, rfl, HO.out, HB.out⟩

set_option maxRecDepth 100000 in
set_option maxHeartbeats 2000000 in
theorem Table_any (a : Nat → Addr) (v : Value) (R : Nat) (vs : Nat → Value) (ns : Nat → Nat) (zs : Nat → Nat → Int) (w : World) (hE : Errs w a) (h : TabAt w v R vs ns zs) (hR : R ≤ 40) (hs : sumT ns R ≤ 400) :
    Calls Tryz.prog 82 #[v] w fun e w' => e = .returned (errV a (tabErr R ns zs)) ∧ Below w.heap.size w w' := by
  have e1 := hE.c1
  have e2 := hE.c2
  by_cases hR16 : 16 < R
  · obtain ⟨ad, cap, rfl⟩ := h.form
    have HE := Hid.mk' (tabErr_many (ns := ns) (zs := zs) hR16)
    clear h hE
    go_enter Tryz.func82, Tryz.ntmps82
    go_wp2_with fail
    go_ret
    exact ⟨by rw [HE.out]; rfl, Below.refl _ _⟩
  · have hcl := cells_any v R vs ns zs w h (by omega) (by omega)
    have HLE : Hid ((flatL ns zs R).length ≤ 400) := by show _ ≤ _; rw [flatL_length]; exact hs
    have HEE := Hid.mk' hE
    rcases h with ⟨ad, cap, rfl, rfl⟩ | ⟨b, o, cap, rfl, h0, hr⟩
    · have HE : Hid (tabErr 0 ns zs = listErr (atF (flatL ns zs 0)) (flatL ns zs 0).length) := tabErr_even (by omega) rfl rfl
      clear hE
      go_enter Tryz.func82, Tryz.ntmps82
      go_wp2_with fail
      refine wp_loop_rounds 1 ?_
      rw [rounds_succ]
      go_wp2_with fail
      refine wp_loop_rounds 1 ?_
      rw [rounds_succ]
      go_wp2_with fail
      refine hcl.mono ?_
      clear hcl
      rintro e w1 ⟨v1, rfl, hrow, hb1⟩
      have hcw := checkWeights_any a v1 _ _ w1 (HEE.out.below hb1) (numsAt_row hrow) (by have := HLE.out; omega)
      obtain ⟨ao, cc, hu, hlc⟩ := row_shape hrow
      have HB1 := Hid.mk' hb1
      rw [hu] at hcw ⊢
      clear hrow hb1 hlc hu
      go_wp2_with (go_at_call 120; refine hcw.mono ?_; rintro e w2 ⟨rfl, hw2⟩; rw [hw2]; clear hw2)
      go_ret
      exact ⟨by rw [HE.out]; rfl, HB1.out⟩
    · have HR := Hid.mk' (fun (i : Nat) (hi : i < R) => (hr i hi).1)
      have HF : Hid (∀ i, i < R → ∃ ad cap, vs i = .slice ad (ns i) cap) := fun i hi => (hr i hi).2.form
      obtain ⟨ad0, cap0, hv0⟩ := HF.out 0 h0
      have hc0 : w.cell? ⟨b, o, none⟩ = some (.slice ad0 (ns 0) cap0) := by have := HR.out 0 h0; rw [hv0, Nat.add_zero] at this; exact this
      have HN : Hid (∀ i, i < R → ns i ≤ 400) := fun i hi => by have h2 : sumT ns i + ns i ≤ sumT ns R := sumT_mono ns hi; omega
      have HTB : Hid (longB ns R = false → unevenB ns R = true → tabErr R ns zs = 3) := fun h1 h2 => tabErr_uneven hR16 h1 h2
      have HTE : Hid (longB ns R = false → unevenB ns R = false → tabErr R ns zs = listErr (atF (flatL ns zs R)) (flatL ns zs R).length) := fun h1 h2 => tabErr_even hR16 h1 h2
      have HTL : Hid (∀ k, k < R → 16 < ns k → tabErr R ns zs = 2) := fun k hk hl => tabErr_long hR16 (longB_mono hk hl)
      have hn0 := HN.out 0 h0
      clear hr hv0 hE
      go_enter Tryz.func82, Tryz.ntmps82
      go_wp2_with fail
      go_loopw [4, 13] (fun _ i wr => ∃ k : Nat, k ≤ R ∧ i = .int .i64 k ∧ wr = w ∧ Hid (longB ns k = false)) (fun _ i _ => R - (intOf i).toNat)
      case atStart => exact ⟨0, Nat.zero_le _, rfl, rfl, rfl⟩
      case round =>
        obtain ⟨k, hk, rfl, hwr, HL⟩ := hrel
        rw [hwr]
        clear hwr
        rcases Nat.lt_or_ge k R with h1 | h1
        · obtain ⟨ad1, cap1, hv1⟩ := HF.out k h1
          have hc := HR.out k h1
          rw [hv1] at hc
          have hkn : (k : Int) < (R : Int) := by omega
          have hnk := HN.out k h1
          have HTK := Hid.mk' (HTL.out k h1)
          have HLK : Hid (longB ns (k + 1) = decide (16 < ns k)) := by show (longB ns k || _) = _; rw [HL.out, Bool.false_or]
          clear hv1
          generalize ns k = nk at hc hnk HTK HLK
          rcases Nat.lt_or_ge 16 nk with hl | hl
          · have hlI : (16 : Int) < (nk : Int) := by omega
            go_wp2_with fail
            go_ret
            exact ⟨by rw [HTK.out hl]; rfl, Below.refl _ _⟩
          · have hlI : (nk : Int) ≤ 16 := by omega
            have HL1 : Hid (longB ns (k + 1) = false) := by show _ = _; rw [HLK.out]; exact decide_eq_false (by omega)
            go_wp2_with fail
            exact ⟨⟨k + 1, h1, by go_num, trivial, HL1⟩, by simp [intOf]; omega⟩
        · obtain rfl : k = R := by omega
          go_wp2_with fail
          go_loopw [6, 24] (fun _ i wr => ∃ j : Nat, j ≤ k ∧ i = .int .i64 j ∧ wr = w ∧ Hid (unevenB ns j = false)) (fun _ i _ => k - (intOf i).toNat)
          case atStart => exact ⟨0, Nat.zero_le _, rfl, rfl, rfl⟩
          case round =>
            obtain ⟨j, hj, rfl, hwr, HU⟩ := hrel
            rw [hwr]
            clear hwr
            rcases Nat.lt_or_ge j k with h2 | h2
            · obtain ⟨ad1, cap1, hv1⟩ := HF.out j h2
              have hc := HR.out j h2
              rw [hv1] at hc
              have hkn : (j : Int) < (k : Int) := by omega
              have hnk := HN.out j h2
              have HUK : Hid (unevenB ns (j + 1) = !decide (ns j = ns 0)) := by show (unevenB ns j || _) = _; rw [HU.out, Bool.false_or]
              have HTU : Hid (ns j ≠ ns 0 → tabErr k ns zs = 3) := fun hne => HTB.out HL.out (unevenB_mono h2 hne)
              clear hv1
              generalize ns j = nk at hc hnk HUK HTU
              generalize ns 0 = n0 at hc0 hn0 HUK HTU
              by_cases he : nk = n0
              · subst he
                have HU1 : Hid (unevenB ns (j + 1) = false) := by show _ = _; rw [HUK.out]; simp
                go_wp2_with fail
                exact ⟨⟨j + 1, h2, by go_num, trivial, HU1⟩, by simp [intOf]; omega⟩
              · have heb : ((nk : Int) == (n0 : Int)) = false := by simp; omega
                have HT3 := Hid.mk' (HTU.out he)
                go_wp2_with fail
                go_ret
                exact ⟨by rw [HT3.out]; rfl, Below.refl _ _⟩
            · obtain rfl : j = k := by omega
              have HE := Hid.mk' (HTE.out HL.out HU.out)
              go_wp2_with fail
              refine hcl.mono ?_
              clear hcl
              rintro e w1 ⟨v1, rfl, hrow, hb1⟩
              have hcw := checkWeights_any a v1 _ _ w1 (HEE.out.below hb1) (numsAt_row hrow) (by have := HLE.out; omega)
              obtain ⟨ao, cc, hu, hlc⟩ := row_shape hrow
              have HB1 := Hid.mk' hb1
              rw [hu] at hcw ⊢
              clear hrow hb1 hlc hu
              go_wp2_with (go_at_call 120; refine hcw.mono ?_; rintro e w2 ⟨rfl, hw2⟩; rw [hw2]; clear hw2)
              go_ret
              exact ⟨by rw [HE.out]; rfl, HB1.out⟩
end Go.Proofs.YtphecjjblnnjdaaGreatDoor

/- The document's Plus. -/
namespace Go.Proofs.YtphecjjblnnjdaaGreatDoor
open Go.RowKit

theorem new_below (w : World) (X : Obj) : Below w.heap.size w (w.alloc X) := (Below.refl _ _).alloc (Nat.le_refl _) _
theorem more_below {w W : World} (h : Below w.heap.size w W) (X : Obj) : Below w.heap.size w (W.alloc X) := h.alloc h.size X
theorem setB_below {W0 W : World} {B : Nat} (h : Below W0.heap.size W0 W) (hB : W0.heap.size ≤ B) (x y : Value) : Below W0.heap.size W0 ((W.setCell ⟨B, 0, none⟩ x).setCell ⟨B, 1, none⟩ y) := (h.setCell hB _).setCell hB _
/-- The box of a number with a sign, in the making. -/
structure NewBox (W0 W : World) (B : Nat) : Prop where
  c0 : W.cell? ⟨B, 0, none⟩ = some (.bool false)
  c1 : W.cell? ⟨B, 1, none⟩ = some (.slice none 0 0)
  f0 : W.frozen? ⟨B, 0, none⟩ = false
  f1 : W.frozen? ⟨B, 1, none⟩ = false
  no : NoInts W B
  hB : W0.heap.size ≤ B
theorem NewBox.later {W0 W W' : World} {B : Nat} (h : NewBox W0 W B) (hb : Below W.heap.size W W') : NewBox W0 W' B :=
  ⟨(cell_past h.c0 hb).2, (cell_past h.c1 hb).2, (frozen_past h.c0 h.f0 hb).2, (frozen_past h.c1 h.f1 hb).2, h.no.later (cell_lt h.c0) hb, h.hB⟩
theorem newBox_of {W0 W W' : World} (h : Below W0.heap.size W0 W) (hb : Below (W.alloc (.cells #[.bool false, .slice none 0 0] 52)).heap.size (W.alloc (.cells #[.bool false, .slice none 0 0] 52)) W') : NewBox W0 W' W.heap.size := by
  obtain ⟨c0, c1, f0, f1⟩ := res_past hb
  exact ⟨c0, c1, f0, f1, (noInts_new2 W false none 0 0 _).later (by simp) hb, h.size⟩
/-- The sum's box. -/
structure SignBox (W0 W : World) (B : Nat) (z : Int) : Prop where
  below : Below W0.heap.size W0 W
  box : ∃ u, W.cell? ⟨B, 0, none⟩ = some (.bool (decide (z < 0))) ∧ W.cell? ⟨B, 1, none⟩ = some u ∧ BigAt W u z.natAbs
  hB : W0.heap.size ≤ B
theorem signBox_late {W0 W : World} {z : Int} {ad : Option Addr} {l cap : Nat} (h : Below W0.heap.size W0 W) (hu : BigAt W (.slice ad l cap) z.natAbs) : SignBox W0 (W.alloc (.cells #[.bool (decide (z < 0)), .slice ad l cap] 52)) W.heap.size z :=
  ⟨more_below h _, ⟨.slice ad l cap, by rw [World.cell?_alloc_at _ _ _ _ rfl]; rfl, by rw [World.cell?_alloc_at _ _ _ _ rfl]; rfl, hu.later (new_below _ _)⟩, h.size⟩
theorem signBox_soon {W0 W : World} {B : Nat} {z : Int} {ad : Option Addr} {l cap : Nat} (h : Below W0.heap.size W0 W) (hu : BigAt W (.slice ad l cap) z.natAbs) (hn : NewBox W0 W B) : SignBox W0 ((W.setCell ⟨B, 0, none⟩ (.bool (decide (z < 0)))).setCell ⟨B, 1, none⟩ (.slice ad l cap)) B z :=
  ⟨setB_below h hn.hB _ _, ⟨.slice ad l cap, by rw [World.cell?_setCell_other _ _ _ _ (by simp)]; exact World.cell?_setCell_same _ _ _ hn.c0, World.cell?_setCell_same _ _ _ (by rw [World.cell?_setCell_other _ _ _ _ (by simp)]; exact hn.c1), hu.set2 hn.no hn.c0 hn.c1⟩, hn.hB⟩

set_option maxRecDepth 10000 in
set_option maxHeartbeats 4000000 in
/-- Plus: the sum, in its lowest terms. -/
theorem Plus_ratio (v1 v2 : Value) (n1 n2 : Int) (d1 d2 k : Nat) (w : World) (h1 : RatioAt w v1 n1 d1) (h2 : RatioAt w v2 n2 d2) (hd1 : 0 < d1) (hd2 : 0 < d2) (hn1 : n1.natAbs < 1000000 ^ k) (hn2 : n2.natAbs < 1000000 ^ k) (hk1 : d1 < 1000000 ^ k) (hk2 : d2 < 1000000 ^ k) (hk : k + k + 1 + 1 ≤ 1000000) :
    Calls Tryz.prog 49 #[v1, v2] w fun e w' => ∃ r, e = .returned r ∧ RatioAt w' r ((n1 * d2 + n2 * d1).tdiv ((Nat.gcd (n1 * d2 + n2 * d1).natAbs (d1 * d2) : Nat) : Int)) (d1 * d2 / Nat.gcd (n1 * d2 + n2 * d1).natAbs (d1 * d2)) ∧ Below w.heap.size w w' := by
  obtain ⟨u1, q1, rfl, hu1, hq1⟩ := h1
  obtain ⟨u2, q2, rfl, hu2, hq2⟩ := h2
  obtain ⟨ad1, l1, cap1, rfl, _⟩ := hu1.len
  obtain ⟨bd1, m1, bap1, rfl, _⟩ := hq1.len
  obtain ⟨ad2, l2, cap2, rfl, _⟩ := hu2.len
  obtain ⟨bd2, m2, bap2, rfl, _⟩ := hq2.len
  obtain ⟨s1, hs1⟩ : ∃ s, decide (n1 < 0) = s := ⟨_, rfl⟩
  obtain ⟨s2, hs2⟩ : ∃ s, decide (n2 < 0) = s := ⟨_, rfl⟩
  rw [hs1, hs2]
  have hB0 : Below w.heap.size w (((w.alloc (.cells #[.bool s1, .slice ad1 l1 cap1, .slice bd1 m1 bap1] 54)).alloc (.cells #[.bool s2, .slice ad2 l2 cap2, .slice bd2 m2 bap2] 54)).alloc (.cells #[.bool false, .slice none 0 0, .slice none 0 0] 54)) := (((Below.refl _ _).alloc (Nat.le_refl _) _).alloc (by simp) _).alloc (by simp; omega) _
  have hN := noInts_third3 w (.cells #[.bool s1, .slice ad1 l1 cap1, .slice bd1 m1 bap1] 54) (.cells #[.bool s2, .slice ad2 l2 cap2, .slice bd2 m2 bap2] 54) 54
  have hNP := fun (w1 : World) => nine_past (w := w) (w1 := w1) (x0 := .bool s1) (x1 := .slice ad1 l1 cap1) (x2 := .slice bd1 m1 bap1) (y0 := .bool s2) (y1 := .slice ad2 l2 cap2) (y2 := .slice bd2 m2 bap2) (r0 := .bool false) (r1 := .slice none 0 0) (r2 := .slice none 0 0) (t := 54)
  have hz0 : w.heap.size + 1 + 1 + 1 = (((w.alloc (.cells #[.bool s1, .slice ad1 l1 cap1, .slice bd1 m1 bap1] 54)).alloc (.cells #[.bool s2, .slice ad2 l2 cap2, .slice bd2 m2 bap2] 54)).alloc (.cells #[.bool false, .slice none 0 0, .slice none 0 0] 54)).heap.size := by simp
  generalize hW : (((w.alloc (.cells #[.bool s1, .slice ad1 l1 cap1, .slice bd1 m1 bap1] 54)).alloc (.cells #[.bool s2, .slice ad2 l2 cap2, .slice bd2 m2 bap2] 54)).alloc (.cells #[.bool false, .slice none 0 0, .slice none 0 0] 54)) = W0 at hB0 hN hNP hz0
  have hKS : ∀ W, Below W0.heap.size W0 W → (W.cell? ⟨w.heap.size, 0, none⟩ = some (.bool s1) ∧ W.cell? ⟨w.heap.size, 1, none⟩ = some (.slice ad1 l1 cap1) ∧ W.cell? ⟨w.heap.size, 2, none⟩ = some (.slice bd1 m1 bap1)) ∧ (W.cell? ⟨w.heap.size + 1, 0, none⟩ = some (.bool s2) ∧ W.cell? ⟨w.heap.size + 1, 1, none⟩ = some (.slice ad2 l2 cap2) ∧ W.cell? ⟨w.heap.size + 1, 2, none⟩ = some (.slice bd2 m2 bap2)) := fun W hb => by
    obtain ⟨a, b, _⟩ := hNP W hb
    exact ⟨a, b⟩
  have HS1 : Hid (∀ W, Below W0.heap.size W0 W → SignedAt W (.agg #[.bool s1, .slice ad1 l1 cap1]) n1) := fun W hb => ⟨_, by rw [hs1], (hu1.later hB0).later hb⟩
  have HS2 : Hid (∀ W, Below W0.heap.size W0 W → SignedAt W (.agg #[.bool s2, .slice ad2 l2 cap2]) n2) := fun W hb => ⟨_, by rw [hs2], (hu2.later hB0).later hb⟩
  have HD1 : Hid (∀ W, Below W0.heap.size W0 W → BigAt W (.slice bd1 m1 bap1) d1) := fun W hb => (hq1.later hB0).later hb
  have HD2 : Hid (∀ W, Below W0.heap.size W0 W → BigAt W (.slice bd2 m2 bap2) d2) := fun W hb => (hq2.later hB0).later hb
  have HKS := Hid.mk' hKS
  have HW := Hid.mk' hW
  have HNP := Hid.mk' hNP
  have HN := Hid.mk' hN
  have HB := Hid.mk' hB0
  have hm1 : (n1 * (d2 : Int)).natAbs < 1000000 ^ (k + k) := by rw [Int.natAbs_mul, Int.natAbs_natCast, Nat.pow_add]; exact Nat.mul_lt_mul'' hn1 hk2
  have hm2 : (n2 * (d1 : Int)).natAbs < 1000000 ^ (k + k) := by rw [Int.natAbs_mul, Int.natAbs_natCast, Nat.pow_add]; exact Nat.mul_lt_mul'' hn2 hk1
  have hsm : (n1 * (d2 : Int) + n2 * (d1 : Int)).natAbs < 1000000 ^ (k + k + 1) := by
    have h3 := Int.natAbs_add_le (n1 * (d2 : Int)) (n2 * (d1 : Int))
    have h4 : 1000000 ^ (k + k) * 2 ≤ 1000000 ^ (k + k + 1) := by rw [Nat.pow_succ]; exact Nat.mul_le_mul_left _ (by decide)
    omega
  have hdd : d1 * d2 < 1000000 ^ (k + k + 1) := Nat.lt_trans (by rw [Nat.pow_add]; exact Nat.mul_lt_mul'' hk1 hk2) (Nat.pow_lt_pow_right (by decide) (by omega))
  have HM := Hid.mk' (And.intro hm1 (And.intro hm2 (And.intro hsm hdd)))
  have HBD : Hid (n1.natAbs < 1000000 ^ k ∧ (d2 : Int).natAbs < 1000000 ^ k ∧ n2.natAbs < 1000000 ^ k ∧ (d1 : Int).natAbs < 1000000 ^ k) := ⟨hn1, by rw [Int.natAbs_natCast]; exact hk2, hn2, by rw [Int.natAbs_natCast]; exact hk1⟩
  have HDK := Hid.mk' (And.intro hk1 hk2)
  have hcur0 : Below W0.heap.size W0 W0 := Below.refl _ _
  have hcur : Below W0.heap.size W0 W0.drew := (Below.refl _ _).drew
  have hcurA : ∀ X, Below W0.heap.size W0 (W0.alloc X).drew := fun X => (new_below _ _).drew
  have hdn1 : ¬ (d1 : Int) < 0 := by omega
  have hdn2 : ¬ (d2 : Int) < 0 := by omega
  have HDE : Hid (decide ((d1 : Int) < 0) = false ∧ decide ((d2 : Int) < 0) = false) := ⟨decide_eq_false hdn1, decide_eq_false hdn2⟩
  clear hs1 hs2 hu1 hu2 hq1 hq2 hB0 hN hNP hW hKS hn1 hn2 hk1 hk2 hm1 hm2 hsm hdd hdn1 hdn2
  generalize hz : n1 * (d2 : Int) + n2 * (d1 : Int) = z at HM ⊢
  have HZ := Hid.mk' hz
  clear hz
  go_enter Tryz.func49, Tryz.ntmps49
  go_wp2_with fail
  rw [HW.out]
  go_cut [5] from 6 (fun s wx => ∃ Bs : Nat, s = .pointer (some ⟨Bs, 0, none⟩) ∧ Hid (SignBox W0 wx Bs z))
  case first =>
    go_region_held3 (fun W => (W.cell? ⟨w.heap.size, 0, none⟩ = some (.bool s1) ∧ W.cell? ⟨w.heap.size, 1, none⟩ = some (.slice ad1 l1 cap1) ∧ W.cell? ⟨w.heap.size, 2, none⟩ = some (.slice bd1 m1 bap1)) ∧ (W.cell? ⟨w.heap.size + 1, 0, none⟩ = some (.bool s2) ∧ W.cell? ⟨w.heap.size + 1, 1, none⟩ = some (.slice ad2 l2 cap2) ∧ W.cell? ⟨w.heap.size + 1, 2, none⟩ = some (.slice bd2 m2 bap2)))
      (first | exact HKS.out _ hcur0 | exact HKS.out _ hcur | exact HKS.out _ (hcurA _) | (refine HKS.out _ ?_; assumption) | (refine HKS.out _ (more_below ?_ _); assumption) | (refine HKS.out _ (setB_below ?_ NB.hB _ _); assumption))
      (first
        | (go_at_call 96; refine (SignedAdd_any _ _ (n1 * (d2 : Int)) (n2 * (d1 : Int)) (k + k) _ (HX2.out _ ?_) (HX4.out _ ?_) HM.out.1 HM.out.2.1 (by omega)).mono ?_; (first | exact h24 | exact more_below h24 _); (first | exact Below.refl _ _ | exact new_below _ _); rintro e w5 ⟨sv5, rfl, ⟨x5, rfl, hx5⟩, hb5⟩; rw [HZ.out] at hx5 ⊢; obtain ⟨ad7, l7, cap7, rfl, _⟩ := hx5.len; (first | (have hbw5 := below_chain hbw4 hb5; try have NB := NB.later hb5) | (have hbw5 := below_chain (more_below hbw4 _) hb5; have NB := newBox_of hbw4 hb5)); (try (have y0 := NB.c0; have y1 := NB.c1; have y2 := NB.f0; have y3 := NB.f1)); have HX5 := Hid.mk' hx5; clear hx5 hb5)
        | (go_at_call 95; refine (SignedMul_any _ _ n2 (d1 : Int) k _ (HS2.out _ ?_) (HX3.out _ ?_) HBD.out.2.2.1 HBD.out.2.2.2 (by omega)).mono ?_; (first | exact hbw3 | exact more_below hbw3 _); (first | exact Below.refl _ _ | exact new_below _ _); rintro e w4 ⟨sv4, rfl, ⟨x4, rfl, hx4⟩, hb4⟩; obtain ⟨sg4, hsg4⟩ : ∃ sg, decide (n2 * (d1 : Int) < 0) = sg := ⟨_, rfl⟩; rw [hsg4]; obtain ⟨ad6, l6, cap6, rfl, _⟩ := hx4.len; (first | (have hbw4 := below_chain hbw3 hb4; have h24 := below_chain h23 hb4; try have NB := NB.later hb4) | (have hbw4 := below_chain (more_below hbw3 _) hb4; have h24 := below_chain (more_below h23 _) hb4; have NB := newBox_of hbw3 hb4)); have HX4 : Hid (∀ W, Below w4.heap.size w4 W → SignedAt W (.agg #[.bool sg4, .slice ad6 l6 cap6]) (n2 * (d1 : Int))) := (fun W hb => ⟨_, by rw [hsg4], hx4.later hb⟩); clear hx4 hb4 hsg4)
        | (go_at_call 63; refine (wide_any (.slice bd1 m1 bap1) d1 _ (HD1.out _ ?_)).mono ?_; (first | exact hbw2 | exact more_below hbw2 _); rintro e w3 ⟨sv3, rfl, ⟨x3, rfl, hx3⟩, hb3⟩; rw [HDE.out.1]; obtain ⟨ad5, l5, cap5, rfl, _⟩ := hx3.len; (first | (have hbw3 := below_chain hbw2 hb3; have h23 := below_chain (Below.refl _ w2) hb3; try have NB := NB.later hb3) | (have hbw3 := below_chain (more_below hbw2 _) hb3; have h23 := below_chain (new_below w2 _) hb3; have NB := newBox_of hbw2 hb3)); have HX3 : Hid (∀ W, Below w3.heap.size w3 W → SignedAt W (.agg #[.bool false, .slice ad5 l5 cap5]) (d1 : Int)) := (fun W hb => ⟨_, by rw [HDE.out.1], hx3.later hb⟩); clear hx3 hb3)
        | (go_at_call 95; refine (SignedMul_any _ _ n1 (d2 : Int) k _ (HS1.out _ ?_) (HX1.out _ ?_) HBD.out.1 HBD.out.2.1 (by omega)).mono ?_; (first | exact hbw1 | exact more_below hbw1 _); (first | exact Below.refl _ _ | exact new_below _ _); rintro e w2 ⟨sv2, rfl, ⟨x2, rfl, hx2⟩, hb2⟩; obtain ⟨sg2, hsg2⟩ : ∃ sg, decide (n1 * (d2 : Int) < 0) = sg := ⟨_, rfl⟩; rw [hsg2]; obtain ⟨ad4, l4, cap4, rfl, _⟩ := hx2.len; (first | (have hbw2 := below_chain hbw1 hb2; try have NB := NB.later hb2) | (have hbw2 := below_chain (more_below hbw1 _) hb2; have NB := newBox_of hbw1 hb2)); have HX2 : Hid (∀ W, Below w2.heap.size w2 W → SignedAt W (.agg #[.bool sg2, .slice ad4 l4 cap4]) (n1 * (d2 : Int))) := (fun W hb => ⟨_, by rw [hsg2], hx2.later hb⟩); clear hx2 hb2 hsg2)
        | (go_at_call 63; refine (wide_any (.slice bd2 m2 bap2) d2 _ (HD2.out _ ?_)).mono ?_; (first | exact hcur | exact hcurA _); rintro e w1 ⟨sv1, rfl, ⟨x1, rfl, hx1⟩, hb1⟩; rw [HDE.out.2]; obtain ⟨ad3, l3, cap3, rfl, _⟩ := hx1.len; (first | have hbw1 := below_chain hcur hb1 | (have hbw1 := below_chain (hcurA _) hb1; have NB := newBox_of hcur0 (below_chain ((Below.refl _ _).drew) hb1))); have HX1 : Hid (∀ W, Below w1.heap.size w1 W → SignedAt W (.agg #[.bool false, .slice ad3 l3 cap3]) (d2 : Int)) := (fun W hb => ⟨_, by rw [HDE.out.2], hx1.later hb⟩); clear hx1 hb1))
    all_goals
      go_wp2_with fail
      go_meet
      first | exact ⟨_, rfl, signBox_late hbw5 HX5.out⟩ | exact ⟨_, rfl, signBox_soon hbw5 HX5.out NB⟩
  case rest =>
  obtain ⟨Bs, rfl, HSB⟩ := hcut
  obtain ⟨u, x0, x1, hu⟩ := HSB.out.box
  obtain ⟨ad, l, cap, rfl, _⟩ := hu.len
  obtain ⟨sg, hsg⟩ : ∃ sg, decide (z < 0) = sg := ⟨_, rfl⟩
  rw [hsg] at x0
  have hBs := HSB.out.hB
  have hSc : ∀ W, Below wc.heap.size wc W → W.cell? ⟨Bs, 0, none⟩ = some (.bool sg) ∧ W.cell? ⟨Bs, 1, none⟩ = some (.slice ad l cap) ∧ W.cell? ⟨w.heap.size, 2, none⟩ = some (.slice bd1 m1 bap1) ∧ W.cell? ⟨w.heap.size + 1, 2, none⟩ = some (.slice bd2 m2 bap2) := fun W hb => by
    have h1 := HKS.out _ (below_chain HSB.out.below hb)
    exact ⟨(cell_past x0 hb).2, (cell_past x1 hb).2, h1.1.2.2, h1.2.2.2⟩
  have HSC := Hid.mk' hSc
  have hmul := BigMul_any _ _ d1 d2 k wc.drew (HD1.out _ HSB.out.below.drew) (HD2.out _ HSB.out.below.drew) HDK.out.1 HDK.out.2 (by omega)
  have HMUL := Hid.mk' hmul
  have HU := Hid.mk' hu
  have HSG := Hid.mk' hsg
  have hc0 : Below wc.heap.size wc wc := Below.refl _ _
  have hc1 : Below wc.heap.size wc wc.drew := (Below.refl _ _).drew
  have HBC := Hid.mk' HSB.out.below
  have hsetS : ∀ (W : World) (x y q : Value), Below wc.heap.size wc W → Bs ≠ w.heap.size + 1 + 1 → (((W.setCell ⟨w.heap.size + 1 + 1, 0, none⟩ x).setCell ⟨w.heap.size + 1 + 1, 1, none⟩ y).setCell ⟨w.heap.size + 1 + 1, 2, none⟩ q).cell? ⟨Bs, 0, none⟩ = some (.bool sg) ∧ (((W.setCell ⟨w.heap.size + 1 + 1, 0, none⟩ x).setCell ⟨w.heap.size + 1 + 1, 1, none⟩ y).setCell ⟨w.heap.size + 1 + 1, 2, none⟩ q).cell? ⟨Bs, 1, none⟩ = some (.slice ad l cap) ∧ (((W.setCell ⟨w.heap.size + 1 + 1, 0, none⟩ x).setCell ⟨w.heap.size + 1 + 1, 1, none⟩ y).setCell ⟨w.heap.size + 1 + 1, 2, none⟩ q).cell? ⟨w.heap.size, 2, none⟩ = some (.slice bd1 m1 bap1) ∧ (((W.setCell ⟨w.heap.size + 1 + 1, 0, none⟩ x).setCell ⟨w.heap.size + 1 + 1, 1, none⟩ y).setCell ⟨w.heap.size + 1 + 1, 2, none⟩ q).cell? ⟨w.heap.size + 1, 2, none⟩ = some (.slice bd2 m2 bap2) := fun W x y q hb hne => by
    obtain ⟨e0, e1, e2, e3⟩ := HSC.out W hb
    refine ⟨?_, ?_, ?_, ?_⟩
    · rw [World.cell?_setCell_far _ _ _ _ (fun e => hne e.symm), World.cell?_setCell_far _ _ _ _ (fun e => hne e.symm), World.cell?_setCell_far _ _ _ _ (fun e => hne e.symm)]; exact e0
    · rw [World.cell?_setCell_far _ _ _ _ (fun e => hne e.symm), World.cell?_setCell_far _ _ _ _ (fun e => hne e.symm), World.cell?_setCell_far _ _ _ _ (fun e => hne e.symm)]; exact e1
    · rw [World.cell?_setCell_far _ _ _ _ (by show w.heap.size + 1 + 1 ≠ w.heap.size; omega), World.cell?_setCell_far _ _ _ _ (by show w.heap.size + 1 + 1 ≠ w.heap.size; omega), World.cell?_setCell_far _ _ _ _ (by show w.heap.size + 1 + 1 ≠ w.heap.size; omega)]; exact e2
    · rw [World.cell?_setCell_far _ _ _ _ (by show w.heap.size + 1 + 1 ≠ w.heap.size + 1; omega), World.cell?_setCell_far _ _ _ _ (by show w.heap.size + 1 + 1 ≠ w.heap.size + 1; omega), World.cell?_setCell_far _ _ _ _ (by show w.heap.size + 1 + 1 ≠ w.heap.size + 1; omega)]; exact e3
  have HSS := Hid.mk' hsetS
  have hne : Bs ≠ w.heap.size + 1 + 1 := by omega
  clear hu hsg hSc hmul hsetS x0 x1
  go_wp2_with fail
  go_region_held3 (fun W => W.cell? ⟨Bs, 0, none⟩ = some (.bool sg) ∧ W.cell? ⟨Bs, 1, none⟩ = some (.slice ad l cap) ∧ W.cell? ⟨w.heap.size, 2, none⟩ = some (.slice bd1 m1 bap1) ∧ W.cell? ⟨w.heap.size + 1, 2, none⟩ = some (.slice bd2 m2 bap2))
    (first | exact HSC.out _ hc0 | exact HSC.out _ hc1 | exact HSC.out _ hc2 | exact HSC.out _ hc3 | exact HSS.out _ _ _ _ hc3 hne)
    (first
      | (go_at_call 55; refine (Lowest_any _ z (d1 * d2) (k + k + 1) w6 HRA.out (Nat.mul_pos hd1 hd2) HM.out.2.2.1 HM.out.2.2.2 hk).mono ?_; rintro e w7 ⟨rv, rfl, ⟨ur, qr, rfl, hur, hqr⟩, hb7⟩; obtain ⟨ad8, l8, cap8, rfl, _⟩ := hur.len; obtain ⟨ad9, l9, cap9, rfl, _⟩ := hqr.len; have hc3 := below_chain hc2 hb7; have hbw7 := below_chain HBC.out hc3; obtain ⟨_, _, ⟨c0, c1, c2⟩, f0, f1, f2⟩ := HNP.out w7 hbw7; have HUR := Hid.mk' hur; have HQR := Hid.mk' hqr; have HBW7 := Hid.mk' hbw7; clear hur hqr hb7 hbw7)
      | (go_at_call 60; refine HMUL.out.mono ?_; rintro e w6 ⟨qv, rfl, hqv, hb6⟩; obtain ⟨bd6, m6, bap6, rfl, _⟩ := hqv.len; have hc2 := below_chain hc1 hb6; have HRA : Hid (RatioAt w6 (.agg #[.bool sg, .slice ad l cap, .slice bd6 m6 bap6]) z (d1 * d2)) := ⟨_, _, by rw [HSG.out], HU.out.later hc2, hqv⟩; clear hqv hb6))
  go_wp2_with fail
  refine bodyPost_ret (v := .agg #[.bool (decide (z.tdiv ((Nat.gcd z.natAbs (d1 * d2) : Nat) : Int) < 0)), .slice ad8 l8 cap8, .slice ad9 l9 cap9]) (by simp [results, Tryz.results49, go_sem, c0, c1, c2]) rfl ⟨_, rfl, ⟨_, _, rfl, HUR.out.set3 (HN.out.later (by omega) HBW7.out) c0 c1, HQR.out.set3 (HN.out.later (by omega) HBW7.out) c0 c1⟩, below_set3 (below_chain HB.out HBW7.out) (by omega) _ _ _⟩
end Go.Proofs.YtphecjjblnnjdaaGreatDoor

/- Sums of logarithms as sorted lists of primes and coefficients. -/
namespace Go.Proofs.YtphecjjblnnjdaaGreatDoor
open Go.RowKit Go.Maps

def mapOf (l : List (Int × Int)) : DataW Unit := .map (l.map fun e => (.int .i64 e.1, .lit (.int .i64 e.2)))
def insL (e : Int × Int) : List (Int × Int) → List (Int × Int)
  | [] => [e]
  | y :: r => if e.1 < y.1 then e :: y :: r else y :: insL e r
def putL (l : List (Int × Int)) (k v : Int) : List (Int × Int) := insL (k, v) (l.filter fun e => !decide (e.1 = k))
def atL : List (Int × Int) → Int → Int
  | [], _ => 0
  | e :: r, x => if e.1 = x then e.2 else atL r x
def Rising (l : List (Int × Int)) : Prop := l.Pairwise fun a b => a.1 < b.1

theorem insert_map (e : Int × Int) : ∀ l : List (Int × Int), DataW.insert (H := Unit) (.int .i64 e.1, .lit (.int .i64 e.2)) (l.map fun e => (.int .i64 e.1, .lit (.int .i64 e.2))) = (insL e l).map fun e => (.int .i64 e.1, .lit (.int .i64 e.2))
  | [] => rfl
  | y :: r => by
    have ih := insert_map e r
    simp only [List.map_cons, DataW.insert, insL, Lit.before]
    by_cases h : e.1 < y.1
    · simp [h]
    · simp only [h, decide_false, Bool.false_eq_true, if_false]
      rw [ih]
      simp
theorem put_map (l : List (Int × Int)) (k v : Int) : (mapOf l).put (.int .i64 k) (.lit (.int .i64 v)) = mapOf (putL l k v) := by
  have h : ((l.map fun e => ((Lit.int .i64 e.1, DataW.lit (.int .i64 e.2)) : Lit × DataW Unit)).filter fun p => !p.1.sameKey (.int .i64 k)) = (l.filter fun e => !decide (e.1 = k)).map fun e => (.int .i64 e.1, .lit (.int .i64 e.2)) := by
    rw [List.filter_map]
    congr 1
    refine List.filter_congr fun e _ => ?_
    simp [Lit.sameKey]
  show DataW.map _ = _
  rw [h, insert_map (k, v)]
  rfl
theorem at_map : ∀ (l : List (Int × Int)) (x : Int), (mapOf l).atKey (.int .i64 x) (.lit (.int .i64 0)) = .lit (.int .i64 (atL l x))
  | [], x => rfl
  | e :: r, x => by
    have ih := at_map r x
    simp only [mapOf, DataW.atKey, List.map_cons, List.find?_cons, atL, Lit.sameKey] at ih ⊢
    by_cases h : e.1 = x
    · simp [h]
    · simp only [h, and_false, decide_false, if_false]
      exact ih
theorem keys_map (l : List (Int × Int)) : intKeys (mapOf l) = l.map Prod.fst := by
  simp only [intKeys, mapOf, List.map_map]
  exact List.map_congr_left fun e _ => rfl
theorem size_map (l : List (Int × Int)) : Maps.size (mapOf l) = l.length := by simp [mapOf, Maps.size]

theorem mem_insL (e f : Int × Int) : ∀ l : List (Int × Int), f ∈ insL e l ↔ f = e ∨ f ∈ l
  | [] => by simp [insL]
  | y :: r => by
    have ih := mem_insL e f r
    by_cases h : e.1 < y.1
    · simp [insL, h]
    · simp only [insL, h, if_false, List.mem_cons, ih]
      constructor
      · rintro (h | h | h)
        · exact Or.inr (Or.inl h)
        · exact Or.inl h
        · exact Or.inr (Or.inr h)
      · rintro (h | h | h)
        · exact Or.inr (Or.inl h)
        · exact Or.inl h
        · exact Or.inr (Or.inr h)
theorem rising_insL (e : Int × Int) : ∀ l : List (Int × Int), Rising l → (∀ f ∈ l, f.1 ≠ e.1) → Rising (insL e l)
  | [], _, _ => by simp [insL, Rising]
  | y :: r, h, hn => by
    have hy := List.pairwise_cons.1 h
    by_cases hlt : e.1 < y.1
    · simp only [insL, hlt, if_true]
      refine List.pairwise_cons.2 ⟨fun f hf => ?_, h⟩
      rcases List.mem_cons.1 hf with rfl | hf
      · exact hlt
      · have := hy.1 f hf; omega
    · simp only [insL, hlt, if_false]
      refine List.pairwise_cons.2 ⟨fun f hf => ?_, rising_insL e r hy.2 (fun f hf => hn f (List.mem_cons_of_mem _ hf))⟩
      rcases (mem_insL e f r).1 hf with rfl | hf
      · have := hn y (List.mem_cons_self ..); omega
      · exact hy.1 f hf
theorem rising_put {l : List (Int × Int)} (h : Rising l) (k v : Int) : Rising (putL l k v) :=
  rising_insL (k, v) _ (h.filter _) (fun f hf => by
    have := (List.mem_filter.1 hf).2
    simpa using this)
theorem mem_put {l : List (Int × Int)} {k v : Int} {f : Int × Int} : f ∈ putL l k v ↔ f = (k, v) ∨ (f ∈ l ∧ f.1 ≠ k) := by
  unfold putL
  rw [mem_insL, List.mem_filter]
  simp
theorem length_insL (e : Int × Int) : ∀ l : List (Int × Int), (insL e l).length = l.length + 1
  | [] => rfl
  | y :: r => by
    have ih := length_insL e r
    by_cases h : e.1 < y.1
    · simp [insL, h]
    · simp [insL, h, ih]
theorem length_put (l : List (Int × Int)) (k v : Int) : (putL l k v).length ≤ l.length + 1 := by
  unfold putL
  rw [length_insL]
  have := List.length_filter_le (fun e : Int × Int => !decide (e.1 = k)) l
  omega
theorem atL_none {l : List (Int × Int)} {x : Int} (h : ∀ e ∈ l, e.1 ≠ x) : atL l x = 0 := by
  induction l with
  | nil => rfl
  | cons e r ih =>
    simp only [atL]
    rw [if_neg (h e (List.mem_cons_self ..)), ih (fun f hf => h f (List.mem_cons_of_mem _ hf))]
theorem atL_mem {l : List (Int × Int)} (h : Rising l) {e : Int × Int} (he : e ∈ l) : atL l e.1 = e.2 := by
  induction l with
  | nil => cases he
  | cons y r ih =>
    have hy := List.pairwise_cons.1 h
    simp only [atL]
    rcases List.mem_cons.1 he with rfl | he
    · rw [if_pos rfl]
    · have := hy.1 e he
      rw [if_neg (by omega), ih hy.2 he]
theorem atL_some {l : List (Int × Int)} {x : Int} (h : atL l x ≠ 0) : (x, atL l x) ∈ l := by
  induction l with
  | nil => exact absurd rfl h
  | cons e r ih =>
    simp only [atL] at h ⊢
    by_cases hx : e.1 = x
    · rw [if_pos hx]
      subst hx
      exact List.mem_cons_self ..
    · rw [if_neg hx] at h ⊢
      exact List.mem_cons_of_mem _ (ih h)
theorem atL_put {l : List (Int × Int)} (h : Rising l) (k v x : Int) : atL (putL l k v) x = if x = k then v else atL l x := by
  by_cases hx : x = k
  · rw [if_pos hx, hx]
    exact atL_mem (rising_put h k v) (e := (k, v)) (mem_put.2 (Or.inl rfl))
  · rw [if_neg hx]
    by_cases h0 : atL l x = 0
    · rw [h0]
      by_cases h1 : atL (putL l k v) x = 0
      · exact h1
      · have hm := atL_some h1
        rcases mem_put.1 hm with he | ⟨he, _⟩
        · exact absurd (Prod.mk.inj he).1 hx
        · have := atL_mem h he
          simp only at this
          omega
    · have hm := atL_some h0
      have := atL_mem (rising_put h k v) (mem_put.2 (Or.inr ⟨hm, hx⟩))
      exact this
/-- Two rising lists without noughts that tell the same are the same. -/
theorem rising_ext : ∀ {l r : List (Int × Int)}, Rising l → Rising r → (∀ e ∈ l, e.2 ≠ 0) → (∀ e ∈ r, e.2 ≠ 0) → (∀ x, atL l x = atL r x) → l = r
  | [], [], _, _, _, _, _ => rfl
  | [], e :: r, _, hr, _, hn, h => by
    have := h e.1
    rw [atL_mem hr (List.mem_cons_self ..)] at this
    exact absurd this.symm (hn e (List.mem_cons_self ..))
  | e :: l, [], hl, _, hn, _, h => by
    have := h e.1
    rw [atL_mem hl (List.mem_cons_self ..)] at this
    exact absurd this (hn e (List.mem_cons_self ..))
  | e :: l, f :: r, hl, hr, hnl, hnr, h => by
    have hl' := List.pairwise_cons.1 hl
    have hr' := List.pairwise_cons.1 hr
    have h1 : f.1 ≤ e.1 := by
      have h2 := h e.1
      rw [atL_mem hl (List.mem_cons_self ..)] at h2
      have h3 := atL_some (l := f :: r) (x := e.1) (by rw [← h2]; exact hnl e (List.mem_cons_self ..))
      rcases List.mem_cons.1 h3 with h4 | h4
      · rw [← h4]; exact Int.le_refl _
      · have := hr'.1 _ h4; simp only at this; omega
    have h1' : e.1 ≤ f.1 := by
      have h2 := h f.1
      rw [atL_mem hr (List.mem_cons_self ..)] at h2
      have h3 := atL_some (l := e :: l) (x := f.1) (by rw [h2]; exact hnr f (List.mem_cons_self ..))
      rcases List.mem_cons.1 h3 with h4 | h4
      · rw [← h4]; exact Int.le_refl _
      · have := hl'.1 _ h4; simp only at this; omega
    have hk : e.1 = f.1 := by omega
    have hv : e.2 = f.2 := by
      have h2 := h e.1
      rw [atL_mem hl (List.mem_cons_self ..), hk, atL_mem hr (List.mem_cons_self ..)] at h2
      exact h2
    have hef : e = f := Prod.ext hk hv
    subst hef
    congr 1
    refine rising_ext hl'.2 hr'.2 (fun g hg => hnl g (List.mem_cons_of_mem _ hg)) (fun g hg => hnr g (List.mem_cons_of_mem _ hg)) (fun x => ?_)
    have h2 := h x
    simp only [atL] at h2
    by_cases hx : e.1 = x
    · subst hx
      rw [atL_none (fun g hg => by have := hl'.1 g hg; omega), atL_none (fun g hg => by have := hr'.1 g hg; omega)]
    · rw [if_neg hx, if_neg hx] at h2
      exact h2
theorem sort_keys {l : List (Int × Int)} (h : Rising l) (ss : List Int) (hp : ss.Perm (intKeys (mapOf l))) : ss.mergeSort (fun x y => decide (x ≤ y)) = l.map Prod.fst := by
  rw [keys_map] at hp
  refine List.Perm.eq_of_pairwise (le := fun a b => a ≤ b) (fun a b _ _ h1 h2 => by omega) ?_ ?_ ((List.mergeSort_perm ..).trans hp)
  · have := List.pairwise_mergeSort (le := fun x y : Int => decide (x ≤ y)) (fun a b c h1 h2 => by simp at *; omega) (fun a b => by simp; omega) ss
    exact this.imp (fun h => by simpa using h)
  · rw [List.pairwise_map]
    exact h.imp (fun h => by omega)

/-- Over the common divisor, without noughts. -/
def overL (G : Nat) (l : List (Int × Int)) : List (Int × Int) := (l.map fun e => (e.1, e.2.tdiv (G : Int))).filter fun e => !decide (e.2 = 0)
theorem rising_over {l : List (Int × Int)} (h : Rising l) (G : Nat) : Rising (overL G l) := by
  refine List.Pairwise.filter _ ?_
  rw [List.pairwise_map]
  exact h
theorem over_nz {l : List (Int × Int)} {G : Nat} {e : Int × Int} (h : e ∈ overL G l) : e.2 ≠ 0 := by
  have := (List.mem_filter.1 h).2
  simpa using this
theorem mem_over {l : List (Int × Int)} {G : Nat} {e : Int × Int} (h : e ∈ overL G l) : ∃ f ∈ l, e = (f.1, f.2.tdiv (G : Int)) := by
  obtain ⟨f, hf, rfl⟩ := List.mem_map.1 (List.mem_filter.1 h).1
  exact ⟨f, hf, rfl⟩
theorem atL_over {l : List (Int × Int)} (h : Rising l) (G : Nat) (x : Int) : atL (overL G l) x = (atL l x).tdiv (G : Int) := by
  by_cases h0 : (atL l x).tdiv (G : Int) = 0
  · rw [h0]
    by_cases h1 : atL (overL G l) x = 0
    · exact h1
    · obtain ⟨f, hf, he⟩ := mem_over (atL_some h1)
      have h2 := Prod.mk.inj he
      have h3 := atL_mem h hf
      rw [← h2.1] at h3
      rw [h2.2, ← h3, h0]
  · have h1 : atL l x ≠ 0 := fun e => h0 (by rw [e]; simp)
    have hm := atL_some h1
    have : (x, (atL l x).tdiv (G : Int)) ∈ overL G l := List.mem_filter.2 ⟨List.mem_map.2 ⟨_, hm, rfl⟩, by simpa using h0⟩
    exact atL_mem (rising_over h G) this
theorem length_over (l : List (Int × Int)) (G : Nat) : (overL G l).length ≤ l.length := by
  have := List.length_filter_le (fun e : Int × Int => !decide (e.2 = 0)) (l.map fun e => (e.1, e.2.tdiv (G : Int)))
  rw [List.length_map] at this
  exact this
/-- told's rows are these. -/
def flat : List (Int × Int) → List Value
  | [] => []
  | e :: r => .int .i64 e.1 :: .int .i64 e.2 :: flat r
theorem terms_flat (cf : Int → Int) (G : Nat) : ∀ l : List (Int × Int), (∀ e ∈ l, cf e.1 = e.2) → termsOf (quo cf G) (l.map Prod.fst) = flat (overL G l) ∧ countOf (quo cf G) (l.map Prod.fst) = (overL G l).length
  | [], _ => ⟨rfl, rfl⟩
  | e :: r, h => by
    have ih := terms_flat cf G r (fun f hf => h f (List.mem_cons_of_mem _ hf))
    have he : quo cf G e.1 = e.2.tdiv (G : Int) := by unfold quo; rw [h e (List.mem_cons_self ..)]
    simp only [List.map_cons, termsOf, countOf, he]
    by_cases h0 : e.2.tdiv (G : Int) = 0
    · rw [if_pos h0, if_pos h0]
      have : overL G (e :: r) = overL G r := by simp [overL, h0]
      rw [this]; exact ih
    · rw [if_neg h0, if_neg h0]
      have : overL G (e :: r) = (e.1, e.2.tdiv (G : Int)) :: overL G r := by simp [overL, h0]
      rw [this]
      exact ⟨by rw [ih.1]; rfl, by rw [ih.2]; rfl⟩
def pOf (l : List (Int × Int)) (i : Nat) : Int := (l.getD i (0, 0)).1
def cOf (l : List (Int × Int)) (i : Nat) : Int := (l.getD i (0, 0)).2
theorem flat_join : ∀ l r : List (Int × Int), flat (l ++ r) = flat l ++ flat r
  | [], _ => rfl
  | e :: l, r => by simp only [List.cons_append, flat, flat_join l r]
theorem flat_cells (l : List (Int × Int)) : flat l = termCells (pOf l) (cOf l) l.length := by
  have aux : ∀ k, k ≤ l.length → flat (l.take k) = termCells (pOf l) (cOf l) k := by
    intro k
    induction k with
    | zero => intro _; rfl
    | succ k ih =>
      intro hk
      have h1 : l.take (k + 1) = l.take k ++ [l.getD k (0, 0)] := by
        rw [List.take_succ_eq_append_getElem (by omega), List.getD_eq_getElem?_getD, List.getElem?_eq_getElem (by omega)]
        rfl
      rw [h1, flat_join, ih (by omega)]
      rfl
  have := aux l.length (Nat.le_refl _)
  rwa [List.take_length] at this
theorem getD_mem {l : List (Int × Int)} {i : Nat} (h : i < l.length) : l.getD i (0, 0) ∈ l := by
  rw [List.getD_eq_getElem?_getD, List.getElem?_eq_getElem h]; exact List.getElem_mem h
end Go.Proofs.YtphecjjblnnjdaaGreatDoor

/- Multiplicities of primes: plain numbers. -/
namespace Go.Proofs.YtphecjjblnnjdaaGreatDoor

/-- How often a number divides another one, with fuel. -/
def multF (p : Nat) : Nat → Nat → Nat
  | 0, _ => 0
  | k + 1, n => if 2 ≤ p ∧ 0 < n ∧ n % p = 0 then multF p k (n / p) + 1 else 0
theorem multF_more {p : Nat} : ∀ (k m n : Nat), n ≤ k → n ≤ m → multF p k n = multF p m n
  | 0, 0, _, _, _ => rfl
  | 0, m + 1, n, h, _ => by
    obtain rfl : n = 0 := by omega
    show 0 = if 2 ≤ p ∧ 0 < 0 ∧ 0 % p = 0 then _ else 0
    rw [if_neg (fun e => absurd e.2.1 (by decide))]
  | k + 1, 0, n, _, h => by
    obtain rfl : n = 0 := by omega
    show (if 2 ≤ p ∧ 0 < 0 ∧ 0 % p = 0 then _ else 0) = 0
    rw [if_neg (fun e => absurd e.2.1 (by decide))]
  | k + 1, m + 1, n, h1, h2 => by
    show (if 2 ≤ p ∧ 0 < n ∧ n % p = 0 then multF p k (n / p) + 1 else 0) = if 2 ≤ p ∧ 0 < n ∧ n % p = 0 then multF p m (n / p) + 1 else 0
    by_cases h : 2 ≤ p ∧ 0 < n ∧ n % p = 0
    · rw [if_pos h, if_pos h]
      have h3 := Nat.div_lt_self h.2.1 h.1
      rw [multF_more k m (n / p) (by omega) (by omega)]
    · rw [if_neg h, if_neg h]
def mult (p n : Nat) : Nat := multF p n n

theorem mult_div {p n : Nat} (hp : 2 ≤ p) (hn : 0 < n) (h : n % p = 0) : mult p n = mult p (n / p) + 1 := by
  obtain ⟨k, rfl⟩ : ∃ k, n = k + 1 := ⟨n - 1, by omega⟩
  show (if 2 ≤ p ∧ 0 < k + 1 ∧ (k + 1) % p = 0 then multF p k ((k + 1) / p) + 1 else 0) = multF p ((k + 1) / p) ((k + 1) / p) + 1
  rw [if_pos ⟨hp, hn, h⟩]
  have h3 := Nat.div_lt_self hn hp
  rw [multF_more k ((k + 1) / p) ((k + 1) / p) (by omega) (Nat.le_refl _)]
theorem mult_not {p n : Nat} (h : ¬ n % p = 0) : mult p n = 0 := by
  cases n with
  | zero => rfl
  | succ k =>
    show (if 2 ≤ p ∧ 0 < k + 1 ∧ (k + 1) % p = 0 then _ else 0) = 0
    rw [if_neg (fun e => h e.2.2)]
theorem mult_one {p : Nat} (hp : 2 ≤ p) : mult p 1 = 0 := mult_not (by rw [Nat.mod_eq_of_lt (by omega)]; omega)
theorem mult_times {p n : Nat} (hp : 2 ≤ p) (hn : 0 < n) : mult p (p * n) = mult p n + 1 := by
  rw [mult_div hp (Nat.mul_pos (by omega) hn) (Nat.mul_mod_right p n), Nat.mul_div_cancel_left _ (by omega)]
theorem pr_dvd {p d : Nat} (h : Pr p) (hd : d ∣ p) : d = 1 ∨ d = p := by
  obtain ⟨h2, hq⟩ := h
  obtain ⟨e, he⟩ := hd
  have hd0 : 0 < d := by
    rcases Nat.eq_zero_or_pos d with h0 | h0
    · rw [h0, Nat.zero_mul] at he; omega
    · exact h0
  have he0 : 0 < e := by
    rcases Nat.eq_zero_or_pos e with h0 | h0
    · rw [h0, Nat.mul_zero] at he; omega
    · exact h0
  rcases Nat.lt_or_ge d 2 with h1 | h1
  · exact Or.inl (by omega)
  · rcases Nat.lt_or_ge e 2 with h3 | h3
    · have : e = 1 := by omega
      rw [this, Nat.mul_one] at he
      exact Or.inr he.symm
    · exfalso
      rcases Nat.le_total d e with h4 | h4
      · exact hq d h1 (by rw [he]; exact Nat.mul_le_mul_left _ h4) (by rw [he]; exact Nat.mul_mod_right d e)
      · exact hq e h3 (by rw [he, Nat.mul_comm d e]; exact Nat.mul_le_mul_left _ h4) (by rw [he]; exact Nat.mul_mod_left d e)
theorem pr_mul {p a b : Nat} (h : Pr p) (hab : p ∣ a * b) : p ∣ a ∨ p ∣ b := by
  by_cases ha : p ∣ a
  · exact Or.inl ha
  · refine Or.inr (Nat.Coprime.dvd_of_dvd_mul_left (m := a) ?_ hab)
    rcases pr_dvd h (Nat.gcd_dvd_left p a) with h1 | h1
    · exact h1
    · exact absurd (h1 ▸ Nat.gcd_dvd_right p a) ha
theorem mult_mul {p : Nat} (h : Pr p) : ∀ a b : Nat, 0 < a → 0 < b → mult p (a * b) = mult p a + mult p b := by
  intro a
  induction a using Nat.strongRecOn with
  | _ a iha =>
    intro b ha hb
    by_cases hpa : p ∣ a
    · obtain ⟨c, rfl⟩ := hpa
      have hc : 0 < c := Nat.pos_of_mul_pos_left ha
      rw [Nat.mul_assoc, mult_times h.1 (Nat.mul_pos hc hb), mult_times h.1 hc, iha c (by have := h.1; have := Nat.mul_le_mul_right c h.1; omega) b hc hb]
      omega
    · have h0 : mult p a = 0 := mult_not (fun e => hpa (Nat.dvd_of_mod_eq_zero e))
      rw [h0, Nat.zero_add]
      induction b using Nat.strongRecOn with
      | _ b ihb =>
        by_cases hpb : p ∣ b
        · obtain ⟨c, rfl⟩ := hpb
          have hc : 0 < c := Nat.pos_of_mul_pos_left hb
          rw [Nat.mul_left_comm, mult_times h.1 (Nat.mul_pos ha hc), mult_times h.1 hc, ihb c (by have := Nat.mul_le_mul_right c h.1; omega) hc]
        · rw [mult_not (fun e => (pr_mul h (Nat.dvd_of_mod_eq_zero e)).elim hpa hpb), mult_not (fun e => hpb (Nat.dvd_of_mod_eq_zero e))]
theorem mult_self {p : Nat} (h : Pr p) : mult p p = 1 := by
  have := mult_times (p := p) (n := 1) h.1 (by omega)
  rw [Nat.mul_one, mult_one h.1] at this
  exact this
theorem mult_other {p q : Nat} (hp : Pr p) (hq : Pr q) (h : p ≠ q) : mult p q = 0 := mult_not fun e => by
  rcases pr_dvd hq (Nat.dvd_of_mod_eq_zero e) with h1 | h1
  · have := hp.1; omega
  · exact h h1
theorem mult_pow {p q : Nat} (hp : Pr p) (hq : Pr q) : ∀ m, mult p (q ^ m) = if p = q then m else 0
  | 0 => by rw [Nat.pow_zero, mult_one hp.1]; split <;> rfl
  | m + 1 => by
    have hq0 : 0 < q := by have := hq.1; omega
    rw [Nat.pow_succ, mult_mul hp _ _ (Nat.pow_pos hq0) hq0, mult_pow hp hq m]
    by_cases h : p = q
    · subst h; rw [if_pos rfl, if_pos rfl, mult_self hp]
    · rw [if_neg h, if_neg h, mult_other hp hq h]
theorem mult_bound {p : Nat} (hp : 2 ≤ p) : ∀ n, 0 < n → 2 ^ mult p n ≤ n := by
  intro n
  induction n using Nat.strongRecOn with
  | _ n ih =>
    intro hn
    by_cases h : n % p = 0
    · obtain ⟨c, rfl⟩ := Nat.dvd_of_mod_eq_zero h
      have hc : 0 < c := Nat.pos_of_mul_pos_left hn
      have hlt : c < p * c := by have := Nat.mul_le_mul_right c hp; omega
      rw [mult_times hp hc, Nat.pow_succ]
      have := ih c hlt hc
      have := Nat.mul_le_mul_right c hp
      omega
    · rw [mult_not h]; omega
theorem mult_le {p n : Nat} (hp : 2 ≤ p) (hn : 0 < n) (h6 : n ≤ 1000000) : mult p n ≤ 19 := by
  rcases Nat.lt_or_ge 19 (mult p n) with h | h
  · have h1 := mult_bound hp n hn
    have h2 : 2 ^ 20 ≤ 2 ^ mult p n := Nat.pow_le_pow_right (by decide) h
    have h3 : (2 : Nat) ^ 20 = 1048576 := by decide
    omega
  · exact h
theorem pr_least {n d : Nat} (h2 : 2 ≤ d) (hd : n % d = 0) (hl : ∀ e, 2 ≤ e → e < d → n % e ≠ 0) : Pr d :=
  ⟨h2, fun e he hee h => hl e he (by
    rcases Nat.lt_or_ge e d with h' | h'
    · exact h'
    · have := Nat.mul_le_mul h' he
      omega) (Nat.mod_eq_zero_of_dvd (Nat.dvd_trans (Nat.dvd_of_mod_eq_zero h) (Nat.dvd_of_mod_eq_zero hd)))⟩
theorem has_prime {n : Nat} (h : 2 ≤ n) : ∃ p, Pr p ∧ n % p = 0 := by
  have aux : ∀ k d, 2 ≤ d → d + k = n → (∀ e, 2 ≤ e → e < d → n % e ≠ 0) → ∃ p, Pr p ∧ n % p = 0 := by
    intro k
    induction k with
    | zero =>
      intro d hd he hl
      obtain rfl : d = n := by omega
      exact ⟨d, pr_least hd (Nat.mod_self d) hl, Nat.mod_self d⟩
    | succ k ih =>
      intro d hd he hl
      by_cases h0 : n % d = 0
      · exact ⟨d, pr_least hd h0 hl, h0⟩
      · refine ih (d + 1) (by omega) (by omega) (fun e h1 h2 => ?_)
        rcases Nat.lt_or_ge e d with h' | h'
        · exact hl e h1 h'
        · obtain rfl : e = d := by omega
          exact h0
  exact aux (n - 2) 2 (by omega) (by omega) (fun e h1 h2 => by omega)
/-- Numbers with the same multiplicities are the same. -/
theorem eq_of_mult : ∀ a b : Nat, 0 < a → 0 < b → (∀ p, Pr p → mult p a = mult p b) → a = b := by
  intro a
  induction a using Nat.strongRecOn with
  | _ a ih =>
    intro b ha hb h
    rcases Nat.lt_or_ge a 2 with h1 | h1
    · rcases Nat.lt_or_ge b 2 with h2 | h2
      · omega
      · obtain ⟨p, hp, hd⟩ := has_prime h2
        have := h p hp
        rw [show a = 1 by omega, mult_one hp.1, mult_div hp.1 hb hd] at this
        omega
    · obtain ⟨p, hp, hd⟩ := has_prime h1
      obtain ⟨c, rfl⟩ := Nat.dvd_of_mod_eq_zero hd
      have hc : 0 < c := Nat.pos_of_mul_pos_left ha
      have hm := h p hp
      rw [mult_times hp.1 hc] at hm
      have hdb : b % p = 0 := by
        by_cases h0 : b % p = 0
        · exact h0
        · rw [mult_not h0] at hm; omega
      obtain ⟨e, rfl⟩ := Nat.dvd_of_mod_eq_zero hdb
      have he : 0 < e := Nat.pos_of_mul_pos_left hb
      congr 1
      refine ih c (by have := Nat.mul_le_mul_right c hp.1; omega) e hc he (fun q hq => ?_)
      have := h q hq
      rw [mult_mul hq _ _ (by have := hp.1; omega) hc, mult_mul hq _ _ (by have := hp.1; omega) he] at this
      omega

/-- A prime, by trying. -/
def isPr (n : Nat) : Bool := decide (2 ≤ n) && (List.range (n + 1)).all fun d => !(decide (2 ≤ d) && decide (d * d ≤ n) && decide (n % d = 0))
theorem isPr_iff (n : Nat) : isPr n = true ↔ Pr n := by
  unfold isPr Pr
  simp only [Bool.and_eq_true, decide_eq_true_eq, List.all_eq_true, List.mem_range, Bool.not_eq_true', Bool.and_eq_false_imp, decide_eq_false_iff_not]
  constructor
  · rintro ⟨h1, h2⟩
    refine ⟨h1, fun d hd hdd h => ?_⟩
    have hlt : d < n + 1 := by have := Nat.mul_le_mul_left d (show 1 ≤ d by omega); omega
    exact h2 d hlt ⟨hd, hdd⟩ h
  · rintro ⟨h1, h2⟩
    exact ⟨h1, fun d _ h => h2 d h.1 h.2⟩
/-- The multiplicity of any number that is a prime. -/
def multI (x : Int) (n : Nat) : Int := if isPr x.toNat = true then (mult x.toNat n : Int) else 0
theorem multI_pr {x : Int} {n : Nat} (h : Pr x.toNat) : multI x n = (mult x.toNat n : Int) := by unfold multI; rw [if_pos ((isPr_iff _).2 h)]
theorem multI_no {x : Int} {n : Nat} (h : ¬ Pr x.toNat) : multI x n = 0 := by unfold multI; rw [if_neg (fun e => h ((isPr_iff _).1 e))]
theorem multI_one (x : Int) : multI x 1 = 0 := by
  by_cases h : Pr x.toNat
  · rw [multI_pr h, mult_one h.1]; rfl
  · exact multI_no h
theorem multI_mul (x : Int) {a b : Nat} (ha : 0 < a) (hb : 0 < b) : multI x (a * b) = multI x a + multI x b := by
  by_cases h : Pr x.toNat
  · rw [multI_pr h, multI_pr h, multI_pr h, mult_mul h a b ha hb]; simp
  · rw [multI_no h, multI_no h, multI_no h]; rfl
theorem multI_prime (x : Int) {q : Nat} (hq : Pr q) : multI x q = if x = (q : Int) then 1 else 0 := by
  by_cases h : Pr x.toNat
  · rw [multI_pr h]
    by_cases hx : x = (q : Int)
    · subst hx; rw [if_pos rfl]; simp [mult_self hq]
    · rw [if_neg hx, mult_other h hq (fun e => hx (by have := h.1; omega))]; rfl
  · rw [multI_no h, if_neg (fun e => h (by rw [e]; simpa using hq))]
theorem multI_step (x : Int) {n d : Nat} (hn : 0 < n) (hd : Pr d) (h : n % d = 0) : multI x n = multI x (n / d) + if x = (d : Int) then 1 else 0 := by
  obtain ⟨c, rfl⟩ := Nat.dvd_of_mod_eq_zero h
  have hc : 0 < c := Nat.pos_of_mul_pos_left hn
  have hd0 : 0 < d := by have := hd.1; omega
  rw [Nat.mul_div_cancel_left _ hd0, multI_mul x hd0 hc, multI_prime x hd]
  omega
theorem multI_nonneg (x : Int) (n : Nat) : 0 ≤ multI x n := by
  by_cases h : Pr x.toNat
  · rw [multI_pr h]; omega
  · rw [multI_no h]; omega
theorem multI_le (x : Int) {n : Nat} (hn : 0 < n) (h6 : n ≤ 1000000) : multI x n ≤ 19 := by
  by_cases h : Pr x.toNat
  · rw [multI_pr h]; have := mult_le h.1 hn h6; omega
  · rw [multI_no h]; omega
theorem multI_support {x : Int} {n : Nat} (hn : 0 < n) (h : multI x n ≠ 0) : Pr x.toNat ∧ 2 ≤ x ∧ x ≤ (n : Int) := by
  by_cases hp : Pr x.toNat
  · refine ⟨hp, by have := hp.1; omega, ?_⟩
    rw [multI_pr hp] at h
    have hd : n % x.toNat = 0 := by
      by_cases h0 : n % x.toNat = 0
      · exact h0
      · rw [mult_not h0] at h; exact absurd rfl h
    have := Nat.le_of_dvd hn (Nat.dvd_of_mod_eq_zero hd)
    omega
  · exact absurd (multI_no hp) h
end Go.Proofs.YtphecjjblnnjdaaGreatDoor
