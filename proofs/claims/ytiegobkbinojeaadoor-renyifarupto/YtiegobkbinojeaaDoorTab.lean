/- Tables in memory; all of a table's weights as one list. -/
import Derived.Test.YtiegobkbinojeaaDoorCopy
import Derived.Test.YtiegobkbinojeaaDoorLaysG
import Derived.BigQuiet
namespace Go.Proofs.YtiegobkbinojeaaDoor
open Go.RowKit

def TabAt (w : World) (v : Value) (R : Nat) (vs : Nat → Value) (ns : Nat → Nat) (zs : Nat → Nat → Int) : Prop := (∃ ad cap, v = .slice ad 0 cap ∧ R = 0) ∨ ∃ b o cap, v = .slice (some ⟨b, o, none⟩) R cap ∧ 0 < R ∧ ∀ i, i < R → w.cell? ⟨b, o + i, none⟩ = some (vs i) ∧ NumsAt w (vs i) (ns i) (zs i)
theorem TabAt.later {w w' : World} {v : Value} {R : Nat} {vs : Nat → Value} {ns : Nat → Nat} {zs : Nat → Nat → Int} (h : TabAt w v R vs ns zs) (hb : Below w.heap.size w w') : TabAt w' v R vs ns zs := by
  rcases h with h | ⟨b, o, cap, hv, hn, hr⟩
  · exact Or.inl h
  · exact Or.inr ⟨b, o, cap, hv, hn, fun i hi => ⟨by rw [hb.cell (cell_lt (hr i hi).1)]; exact (hr i hi).1, (hr i hi).2.later hb⟩⟩
theorem TabAt.form {w : World} {v : Value} {R : Nat} {vs : Nat → Value} {ns : Nat → Nat} {zs : Nat → Nat → Int} (h : TabAt w v R vs ns zs) : ∃ ad cap, v = .slice ad R cap := by
  rcases h with ⟨ad, cap, rfl, rfl⟩ | ⟨b, o, cap, rfl, _⟩
  · exact ⟨_, _, rfl⟩
  · exact ⟨_, _, rfl⟩
def rowL (z : Nat → Int) (n : Nat) : List Int := (List.range n).map z
/-- All weights of the first k rows. -/
def flatL (ns : Nat → Nat) (zs : Nat → Nat → Int) : Nat → List Int
  | 0 => []
  | k + 1 => flatL ns zs k ++ rowL (zs k) (ns k)
def cellL (l : List Int) : List Value := l.map fun x => .int .i64 x
theorem cellL_length (l : List Int) : (cellL l).length = l.length := by simp [cellL]
theorem cellL_append (l r : List Int) : cellL (l ++ r) = cellL l ++ cellL r := by simp [cellL]
theorem rowL_length (z : Nat → Int) (n : Nat) : (rowL z n).length = n := by simp [rowL]
theorem cellL_row (z : Nat → Int) : ∀ n, cellL (rowL z n) = numCells z n
  | 0 => rfl
  | n + 1 => by
    have ih := cellL_row z n
    unfold cellL rowL at ih ⊢
    rw [List.range_succ, List.map_append, List.map_append, ih]
    rfl
def sumT (ns : Nat → Nat) : Nat → Nat
  | 0 => 0
  | k + 1 => sumT ns k + ns k
theorem flatL_length (ns : Nat → Nat) (zs : Nat → Nat → Int) : ∀ k, (flatL ns zs k).length = sumT ns k
  | 0 => rfl
  | k + 1 => by
    show (flatL ns zs k ++ rowL (zs k) (ns k)).length = sumT ns k + ns k
    rw [List.length_append, flatL_length ns zs k, rowL_length]
theorem sumT_mono (ns : Nat → Nat) {k n : Nat} (h : k ≤ n) : sumT ns k ≤ sumT ns n := by
  induction n with
  | zero => obtain rfl : k = 0 := by omega
            exact Nat.le_refl _
  | succ n ih =>
    rcases Nat.lt_or_ge k (n + 1) with h' | h'
    · have := ih (by omega); show sumT ns k ≤ sumT ns n + ns n; omega
    · obtain rfl : k = n + 1 := by omega
      exact Nat.le_refl _
/-- A list as a row of numbers. -/
def atF (l : List Int) (i : Nat) : Int := l.getD i 0
theorem numCells_list : ∀ l : List Int, numCells (atF l) l.length = cellL l := fun l => by
  rw [← cellL_row]
  congr 1
  refine List.ext_getElem (by simp [rowL]) (fun i h1 h2 => ?_)
  simp [rowL, atF, List.getD, List.getElem?_eq_getElem h2]
theorem numsAt_row {w : World} {base : Nat} {v : Value} {l : List Int} (h : w.ownsRow base 3 1 v l.length (cellL l)) : NumsAt w v l.length (atF l) := by
  rcases h.2 with ⟨hv, h0⟩ | ⟨g, cap, cur, hv, _⟩
  · exact Or.inl ⟨none, 0, hv, h0⟩
  · rcases Nat.eq_zero_or_pos l.length with h0 | h0
    · exact Or.inl ⟨_, _, by rw [hv, h0], h0⟩
    · refine Or.inr ⟨g, 0, cap, hv, h0, ?_⟩
      subst hv
      rw [← numCells_list] at h
      exact rowAt_of_row h

theorem append_nothing (w : World) (ty : TypeId) (ao : Option Addr) (l c : Nat) (hl : l ≤ c) (ad : Option Addr) (cap : Nat) : (Builtin.append_ #[39, 39] ty #[.slice ao l c, .slice ad 0 cap]).run Tryd.prog w = .ok (.slice ao l c) w := by
  obtain ⟨i, hi, hi2⟩ := Option.map_eq_some_iff.1 Tryd.infoInt
  refine run_append_nothing w _ _ ty 3 i Tryd.underlying39 hi ao l c hl _ ?_
  cases ad with
  | none => exact Src.ofNil w Tryd.underlying39 cap
  | some a => exact Src.ofSlice w Tryd.underlying39 a 0 cap [] (by simp) (fun j u h => by simp at h) (fun u h => by simp at h)
theorem wpList_append_nothing {w : World} {ops : Array Oper} {rest : List Oper} {o : Oper} {a : Act} {Q : Exit → Act → World → Prop} (hgd : o.guard = none) (s x : Operand)
    (ho : o.op = .call { callee := .builtin .append, args := #[s, x], argTypes := #[39, 39] })
    (ao : Option Addr) (l c : Nat) (hl : l ≤ c) (ad : Option Addr) (cap : Nat) (hs : a.eval s = .slice ao l c) (hx : a.eval x = .slice ad 0 cap)
    (h : wpList Tryd.prog ops Q rest (a.put o.dst (.slice ao l c)) w) : wpList Tryd.prog ops Q (o :: rest) a w := by
  refine wpList_plain hgd fun K hK => ?_
  have hrun := append_nothing w o.type ao l c hl ad cap
  unfold Oper.wp
  simp [execOp, ho, resolve, invoke, builtin, hs, hx, hrun, Result.andThen]
  exact hK _ _ h
theorem row_shape {w : World} {base : Nat} {t : TypeId} {v : Value} {n : Nat} {xs : List Value} (h : w.ownsRow base t 1 v n xs) : ∃ ao c, v = .slice ao n c ∧ n ≤ c := by
  rcases h.2 with ⟨rfl, rfl⟩ | ⟨g, cap, cur, rfl, _, _, hc, _⟩
  · exact ⟨none, 0, rfl, Nat.le_refl _⟩
  · exact ⟨_, _, rfl, hc⟩
theorem below_grow {w wr w3 : World} {v : Value} {e : TypeId} {size n : Nat} {xs : List Value} (hB : Below w.heap.size w wr) (hR : wr.ownsRow w.heap.size e size v n xs) (hg : wr.grownBy w3 v.ownBlock) : Below w.heap.size w w3 :=
  hB.grown hg hB.size (fun k e => (hR.lt k e).1)

set_option maxRecDepth 100000 in
set_option maxHeartbeats 2000000 in
theorem Flat_any (v : Value) (R : Nat) (vs : Nat → Value) (ns : Nat → Nat) (zs : Nat → Nat → Int) (w : World) (h : TabAt w v R vs ns zs) (hR : R ≤ 1000) (hs : sumT ns R ≤ 2000000) :
    Calls Tryd.prog 27 #[v] w fun e w' => ∃ v', e = .returned v' ∧ w'.ownsRow w.heap.size 3 1 v' (flatL ns zs R).length (cellL (flatL ns zs R)) ∧ Below w.heap.size w w' := by
  rcases h with ⟨ad, cap, rfl, rfl⟩ | ⟨b, o, cap, rfl, h0, hr⟩
  · go_enter Tryd.func27, Tryd.ntmps27
    go_wp2_with fail
    refine wp_loop_rounds 1 ?_
    rw [rounds_succ]
    go_wp2_with fail
    go_ret
    exact ⟨_, rfl, ⟨rfl, Or.inl ⟨rfl, rfl⟩⟩, Below.refl _ _⟩
  · obtain ⟨i0, hi, hz0, hz1, hz2⟩ := info_parts Tryd.infoInt
    have HINF : Hid (Tryd.prog.info? 3 = some i0 ∧ i0.zero = some (.int .i64 0) ∧ i0.size = 1 ∧ i0.bytes = 8) := ⟨hi, hz0, hz1, hz2⟩
    have HR := Hid.mk' hr
    clear hi hz0 hz1 hz2 hr
    go_enter Tryd.func27, Tryd.ntmps27
    go_wp2_with fail
    go_loopw [3, 4] (fun u i wr => ∃ k : Nat, k ≤ R ∧ i = .int .i64 k ∧ Hid (wr.ownsRow w.heap.size 3 1 u (flatL ns zs k).length (cellL (flatL ns zs k))) ∧ Hid (Below w.heap.size w wr)) (fun _ i _ => R - (intOf i).toNat)
    case atStart => exact ⟨0, Nat.zero_le _, rfl, ⟨rfl, Or.inl ⟨rfl, rfl⟩⟩, Below.refl _ _⟩
    case round =>
      obtain ⟨k, hk, rfl, HO, HB⟩ := hrel
      rcases Nat.lt_or_ge k R with h1 | h1
      · have hc := (HR.out k h1).1
        have hc' : wr.cell? ⟨b, o + k, none⟩ = some (vs k) := by rw [HB.out.cell (cell_lt hc)]; exact hc
        have hkn : (k : Int) < (R : Int) := by omega
        have hm1 := sumT_mono ns (Nat.le_of_lt h1)
        have hm2 : sumT ns k + ns k ≤ sumT ns R := sumT_mono ns h1
        have hfb : (flatL ns zs k).length ≤ 2000000 ∧ (flatL ns zs k).length + ns k ≤ 2000000 := by rw [flatL_length]; omega
        clear hm1 hm2
        rcases (HR.out k h1).2.later HB.out with ⟨ad1, cap1, hv1, hn1⟩ | ⟨b1, o1, cap1, hv1, hn1, hr1⟩
        · rw [hv1] at hc'
          obtain ⟨ao, cc, hu, hlc⟩ := row_shape HO.out
          have HU := Hid.mk' hu
          rw [hu] at HO ⊢
          have HE : Hid (flatL ns zs (k + 1) = flatL ns zs k) := by show flatL ns zs k ++ rowL (zs k) (ns k) = _; rw [hn1]; simp [rowL]
          clear hc hu
          go_wp2_with (at_builtin; go_must (refine wpList_append_nothing rfl _ _ rfl ao _ cc hlc ad1 cap1 rfl rfl ?_))
          exact ⟨⟨k + 1, h1, by go_num, by rw [HE.out]; exact HO, HB⟩, by simp [intOf]; omega⟩
        · rw [hv1] at hc'
          have HR1 := Hid.mk' hr1
          have HC : Hid (∀ u, u ∈ numCells (zs k) (ns k) → u.oneCell' = true) := fun u hu => by obtain ⟨x, rfl⟩ := numCells_ints (zs k) (ns k) u hu; rfl
          have HL : Hid ((numCells (zs k) (ns k)).length = ns k * 1) := by show _ = _; rw [numCells_length, Nat.mul_one]
          have HE : Hid (cellL (flatL ns zs (k + 1)) = cellL (flatL ns zs k) ++ numCells (zs k) (ns k) ∧ (flatL ns zs (k + 1)).length = (flatL ns zs k).length + ns k) := by
            refine ⟨?_, ?_⟩
            · show cellL (flatL ns zs k ++ rowL (zs k) (ns k)) = _
              rw [cellL_append, cellL_row]
            · show (flatL ns zs k ++ rowL (zs k) (ns k)).length = _
              rw [List.length_append, rowL_length]
          have hzB := HB.out.size
          clear hc hr1
          go_wp2_with (at_builtin; go_must (refine wpList_append_lies _ rfl _ _ _ rfl w.heap.size 3 i0 _ 1 8 Tryd.underlying39 HINF.out.1 HINF.out.2.1 HINF.out.2.2.1 HINF.out.2.2.2 rfl (by omega) u3 _ _ rfl HO.out ⟨b1, o1, none⟩ (ns k) cap1 (numCells (zs k) (ns k)) rfl HL.out (fun j u hu => numCells_news HR1.out j u hu) HC.out hn1 (by unfold maxLen; omega) (by omega) (by omega) _ rfl ?_; intro g' cap2 w3 hown3 hgrow3 hat3 hlt3; have HO3 := Hid.mk' hown3; have HG3 := Hid.mk' hgrow3; clear hown3 hgrow3 hat3))
          refine ⟨⟨k + 1, h1, by go_num, ?_, below_grow HB.out HO.out HG3.out⟩, by simp [intOf]; omega⟩
          rw [HE.out.1, HE.out.2]
          exact HO3
      · obtain rfl : k = R := by omega
        go_wp2_with fail
        go_ret
        exact ⟨_, rfl, HO.out, HB.out⟩

set_option maxRecDepth 100000 in
set_option maxHeartbeats 1000000 in
theorem few_any (v : Value) (R : Nat) (vs : Nat → Value) (ns : Nat → Nat) (zs : Nat → Nat → Int) (w : World) (h : TabAt w v R vs ns zs) (hm : R ≤ maxLen) (hs : sumT ns R ≤ 2000000) (r : Bool) (hr : r = true ↔ R ≤ 70 ∧ sumT ns R ≤ 1200) :
    Calls Tryd.prog 8 #[v] w fun e w' => e = .returned (.bool r) ∧ Below w.heap.size w w' := by
  unfold maxLen at hm
  by_cases hR : R ≤ 70
  · have hF := Flat_any v R vs ns zs w h (by omega) hs
    obtain ⟨ad, cap, rfl⟩ := h.form
    have HRR : Hid (r = decide ((sumT ns R : Int) ≤ 1200)) := by
      by_cases hh : sumT ns R ≤ 1200
      · rw [hr.2 ⟨hR, hh⟩, decide_eq_true (by omega)]; exact rfl
      · have : r = false := by cases r with | false => rfl | true => exact absurd (hr.1 rfl).2 hh
        rw [this, decide_eq_false (by omega)]; exact rfl
    have HFL := Hid.mk' (flatL_length ns zs R)
    clear h hr
    go_enter Tryd.func8, Tryd.ntmps8
    go_wp2_with (go_at_call 27; refine hF.mono ?_; rintro e w1 ⟨v1, rfl, hrow, hb1⟩; obtain ⟨ao, cc, hu, hlc⟩ := row_shape hrow; rw [HFL.out] at hu; subst hu; have HB1 := Hid.mk' hb1; clear hrow hb1 hlc)
    go_ret
    exact ⟨by rw [HRR.out]; rfl, HB1.out⟩
  · have hrf : r = false := by cases r with | false => rfl | true => exact absurd (hr.1 rfl).1 hR
    subst hrf
    obtain ⟨ad, cap, rfl⟩ := h.form
    have hd : decide ((R : Int) ≤ 70) = false := decide_eq_false (by omega)
    clear h hr
    go_enter Tryd.func8, Tryd.ntmps8
    go_wp2_with fail
    go_ret
    exact ⟨rfl, Below.refl _ _⟩

/-- Is a row longer than 16? Is one not as long as the first? -/
def longB (ns : Nat → Nat) : Nat → Bool
  | 0 => false
  | k + 1 => longB ns k || decide (16 < ns k)
def unevenB (ns : Nat → Nat) : Nat → Bool
  | 0 => false
  | k + 1 => unevenB ns k || !decide (ns k = ns 0)
theorem longB_mono {ns : Nat → Nat} {k n : Nat} (hk : k < n) (h : 16 < ns k) : longB ns n = true := by
  induction n with
  | zero => omega
  | succ n ih =>
    show (longB ns n || decide (16 < ns n)) = true
    rcases Nat.lt_or_ge k n with h' | h'
    · rw [ih h']; rfl
    · obtain rfl : k = n := by omega
      rw [decide_eq_true h, Bool.or_true]
theorem unevenB_mono {ns : Nat → Nat} {k n : Nat} (hk : k < n) (h : ns k ≠ ns 0) : unevenB ns n = true := by
  induction n with
  | zero => omega
  | succ n ih =>
    show (unevenB ns n || !decide (ns n = ns 0)) = true
    rcases Nat.lt_or_ge k n with h' | h'
    · rw [ih h']; rfl
    · obtain rfl : k = n := by omega
      rw [decide_eq_false h]; simp
/-- The number of a table's error, as the document says it. -/
def tabErr (R : Nat) (ns : Nat → Nat) (zs : Nat → Nat → Int) : Nat := if 16 < R then 2 else if longB ns R = true then 2 else if unevenB ns R = true then 3 else listErr (atF (flatL ns zs R)) (flatL ns zs R).length
end Go.Proofs.YtiegobkbinojeaaDoor
