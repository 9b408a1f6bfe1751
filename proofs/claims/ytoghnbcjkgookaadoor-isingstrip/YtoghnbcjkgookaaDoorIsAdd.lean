/- ising.addShifted, ising.noStates. -/
import Derived.Test.YtoghnbcjkgookaaDoorIsTrK
import Derived.Test.YtoghnbcjkgookaaDoorIsOdd
namespace Go.Proofs.YtoghnbcjkgookaaDoor
open Go.RowKit

/-- All is as it was, but for one block. -/
structure RowPut (g : Nat) (w w' : World) : Prop where
  os : w'.os = w.os
  tape : w'.tape = w.tape
  output : w'.output = w.output
  size : w.heap.size ≤ w'.heap.size
  block : ∀ k, k < w.heap.size → k ≠ g → w'.heap[k]? = w.heap[k]?
theorem RowPut.of {g : Nat} {w w' : World} (h : Below w.heap.size w w') : RowPut g w w' := ⟨h.os, h.tape, h.output, h.size, fun k hk _ => h.block k hk⟩
theorem RowPut.trans {g : Nat} {a b c : World} (h : RowPut g a b) (k : RowPut g b c) : RowPut g a c := ⟨k.os.trans h.os, k.tape.trans h.tape, k.output.trans h.output, Nat.le_trans h.size k.size, fun i hi hn => by rw [k.block i (Nat.lt_of_lt_of_le hi h.size) hn, h.block i hi hn]⟩
theorem RowPut.put (g : Nat) (w : World) (o : Nat) (x : Value) : RowPut g w (w.setCell ⟨g, o, none⟩ x) := by
  have h := (Below.refl 0 w).setCell (p := ⟨g, o, none⟩) (Nat.zero_le _) x
  exact ⟨h.os, h.tape, h.output, h.size, fun k _ hn => Below.heap_setCell _ _ _ _ (fun e => hn e)⟩
theorem RowPut.below {g B : Nat} {w w' : World} (h : RowPut g w w') (hB : B ≤ g) (hs : B ≤ w.heap.size) : Below B w w' := ⟨h.os, h.tape, h.output, h.size, fun k hk => h.block k (by omega) (by omega)⟩
theorem RowPut.cell {g : Nat} {w w' : World} (h : RowPut g w w') {p : Addr} {x : Value} (hp : w.cell? p = some x) (hn : p.block ≠ g) : w'.cell? p = some x := by
  rw [← hp]
  exact World.cell?_of_block (w := w) (h.block p.block (cell_lt hp) hn)
theorem RowPut.frozen {g : Nat} {w w' : World} (h : RowPut g w w') {p : Addr} (hl : p.block < w.heap.size) (hn : p.block ≠ g) : w'.frozen? p = w.frozen? p :=
  World.frozen?_of_block (w := w) (h.block p.block hl hn)
theorem RowIs.beside {g b n : Nat} {w w' : World} {f : Nat → Value} (h : RowIs w b n f) (hp : RowPut g w w') (hn : b ≠ g) : RowIs w' b n f :=
  ⟨fun k hk => hp.cell (h.row k hk) hn, fun k hk => by rw [hp.frozen (p := ⟨b, k, none⟩) (cell_lt (h.row k hk)) hn]; exact h.fz k hk⟩
theorem RowIs.put {b n : Nat} {w : World} {f f' : Nat → Value} (h : RowIs w b n f) {j : Nat} (hj : j < n) (x : Value) (hf : ∀ k, k < n → f' k = if k = j then x else f k) : RowIs (w.setCell ⟨b, j, none⟩ x) b n f' :=
  ⟨fun k hk => by
    rw [put_cell _ (h.row j hj), hf k hk]
    by_cases e : k = j
    · subst e; rw [if_pos rfl, if_pos rfl]
    · rw [if_neg (fun e' => e (by simpa using congrArg Addr.off e')), if_neg e]
      exact h.row k hk, fun k hk => by rw [World.frozen?_setCell]; exact h.fz k hk⟩
/-- A row of a grid is turned. -/
theorem GridB.turn {w wr W : World} {g n C m : Nat} {rb : Nat → Nat} {f : Nat → Nat → Value} {f' : Nat → Value} (h : GridB w wr g n C m rb f) {i : Nat} (hi : i < m) (hp : RowPut (rb i) wr W) (hr : RowIs W (rb i) C f') : GridB w W g n C m rb (fun i' k => if i' = i then f' k else f i' k) := by
  have hri := h.rge i hi
  refine ⟨h.below.trans (hp.below hri.1 h.below.size), h.hg, fun j hj => ?_, fun j hj => ?_, fun j hj => ?_, fun j hj => ⟨(h.rge j hj).1, (h.rge j hj).2.1, Nat.lt_of_lt_of_le (h.rge j hj).2.2 hp.size⟩, h.inj, fun j hj => ?_⟩
  · obtain ⟨x, hx⟩ := h.outer j hj
    exact ⟨x, hp.cell hx (fun e => hri.2.1 e.symm)⟩
  · exact hp.cell (h.made j hj) (fun e => hri.2.1 e.symm)
  · obtain ⟨x, hx⟩ := h.outer j hj
    rw [hp.frozen (p := ⟨g, j, none⟩) (cell_lt hx) (fun e => hri.2.1 e.symm)]; exact h.ofz j hj
  · by_cases e : j = i
    · subst e
      exact ⟨fun k hk => by rw [if_pos rfl]; exact hr.row k hk, hr.fz⟩
    · have h2 := (h.rows j hj).beside hp (fun e' => e (h.inj j i hj hi e'))
      exact ⟨fun k hk => by rw [if_neg e]; exact h2.row k hk, h2.fz⟩
theorem Fills.turn {w wr W : World} {g T : Nat} {f f' : Nat → Int} (h : Fills w wr g T f) (hp : RowPut g wr W) (hr : RowIs W g T (fun k => .int .i64 (f' k))) : Fills w W g T f' :=
  ⟨fun i hi => by rw [Nat.zero_add]; exact hr.row i hi, fun i hi => by rw [Nat.zero_add]; exact hr.fz i hi, h.below.trans (hp.below h.hg h.below.size), h.hg⟩
theorem Fills.rowIs {w wr : World} {g T : Nat} {f : Nat → Int} (h : Fills w wr g T f) : RowIs wr g T (fun k => .int .i64 (f k)) :=
  ⟨fun i hi => by have := h.row i hi; rwa [Nat.zero_add] at this, fun i hi => by have := h.fz i hi; rwa [Nat.zero_add] at this⟩

/-- While it is added. -/
def adF (f v : Nat → Nat) (sh j k : Nat) : Nat := f k + if sh ≤ k ∧ k < sh + j then v (k - sh) else 0
theorem adF_end (f v : Nat → Nat) {sh j n k : Nat} (hj : n ≤ sh + j) (hk : k < n) : adF f v sh j k = f k + shf v sh k := by
  unfold adF shf
  congr 1
  by_cases h : sh ≤ k
  · rw [if_pos h, if_pos ⟨h, by omega⟩]
  · rw [if_neg h, if_neg (fun e => h e.1)]

set_option maxRecDepth 100000 in
set_option maxHeartbeats 4000000 in
theorem addShifted_any (g b sz sh : Nat) (f v : Nat → Nat) (w : World) (hg : RowIs w g sz (fun k => .int .i64 ((f k : Nat) : Int))) (hb : RowIs w b sz (fun k => .int .i64 ((v k : Nat) : Int))) (hne : b ≠ g) (hsz : sz ≤ 200) (hsh : sh ≤ 200) (hf : ∀ k, f k ≤ 2 ^ 60) (hv : ∀ k, v k ≤ 2 ^ 60) :
    Calls Tryd.prog 37 #[.slice (some ⟨g, 0, none⟩) sz sz, .slice (some ⟨b, 0, none⟩) sz sz, .int .i64 sh] w fun e w' => e = .returned (.tuple #[]) ∧ RowIs w' g sz (fun k => .int .i64 ((f k + shf v sh k : Nat) : Int)) ∧ RowPut g w w' := by
  have HG := Hid.mk' hg
  have HBR := Hid.mk' hb
  have HF := Hid.mk' hf
  have HV := Hid.mk' hv
  have hszI : (sz : Int) ≤ 200 := by omega
  have hshI : (sh : Int) ≤ 200 := by omega
  have hsh0 : (0 : Int) ≤ (sh : Int) := by omega
  clear hg hb hf hv
  go_enter Tryd.func37, Tryd.ntmps37
  go_wp2_with fail
  go_loopw [6] (fun t wr => ∃ j : Nat, (j = 0 ∨ sh + j ≤ sz) ∧ t = .int .i64 ((sh : Int) + (j : Int)) ∧ Hid (RowIs wr g sz (fun k => .int .i64 ((adF f v sh j k : Nat) : Int))) ∧ Hid (RowPut g w wr)) (fun t _ => sz - (intOf t).toNat)
  case atStart => exact ⟨0, Or.inl rfl, by simp, ⟨fun k hk => by rw [adF, if_neg (by omega), Nat.add_zero]; exact HG.out.row k hk, HG.out.fz⟩, RowPut.of (Below.refl _ _)⟩
  case round =>
    obtain ⟨j, hj, rfl, HR, HP⟩ := hrel
    rcases Nat.lt_or_ge (sh + j) sz with h1 | h1
    · have hjI : (sh : Int) + (j : Int) < (sz : Int) := by omega
      have hj0 : (0 : Int) ≤ (j : Int) := by omega
      have hjs : (j : Int) < (sz : Int) := by omega
      have hw1 : (sh : Int) + (j : Int) - (sh : Int) = (j : Int) := by omega
      have hw2 : IntKind.i64.wrap (j : Int) = (j : Int) := i64_low j (by omega)
      have htn : ((sh : Int) + (j : Int)).toNat = sh + j := by omega
      have c1 := HR.out.row (sh + j) h1
      have f1 := HR.out.fz (sh + j) h1
      have c2 : wr.cell? ⟨b, j, none⟩ = some (.int .i64 ((v j : Nat) : Int)) := HP.out.cell (HBR.out.row j (by omega)) hne
      have e1 : adF f v sh j (sh + j) = f (sh + j) := by rw [adF, if_neg (by omega), Nat.add_zero]
      rw [e1] at c1
      have HN := Hid.mk' (HR.out.put (j := sh + j) h1 (.int .i64 ((f (sh + j) : Int) + (v j : Int))) (f' := fun k => .int .i64 ((adF f v sh (j + 1) k : Nat) : Int)) (fun k hk => by
        by_cases e : k = sh + j
        · rw [if_pos e, e, adF, if_pos (by omega), Nat.add_sub_cancel_left]
          rfl
        · rw [if_neg e]
          congr 2
          unfold adF
          congr 1
          by_cases h2 : sh ≤ k ∧ k < sh + j
          · rw [if_pos h2, if_pos (by omega)]
          · rw [if_neg h2, if_neg (by omega)]))
      have HP2 : Hid (RowPut g w (wr.setCell ⟨g, sh + j, none⟩ (.int .i64 ((f (sh + j) : Int) + (v j : Int))))) := HP.out.trans (RowPut.put _ _ _ _)
      have a1 := HF.out (sh + j)
      have a2 := HV.out j
      have b1 : ((f (sh + j) : Nat) : Int) ≤ 1152921504606846976 := by omega
      have b2 : ((v j : Nat) : Int) ≤ 1152921504606846976 := by omega
      have b3 : (0 : Int) ≤ ((f (sh + j) : Nat) : Int) := by omega
      have b4 : (0 : Int) ≤ ((v j : Nat) : Int) := by omega
      clear e1 a1 a2 HR HP
      generalize f (sh + j) = X at *
      generalize v j = Y at *
      go_wp2_with fail
      go_region
      all_goals
        go_wp2_with fail
        refine ⟨⟨j + 1, Or.inr h1, by go_num, ⟨fun k hk => HN.out.row k hk, fun k hk => HN.out.fz k hk⟩, HP2.out.trans (RowPut.of (Below.refl _ _).drew)⟩, by simp [intOf]; omega⟩
    · have hjI : ¬ (sh : Int) + (j : Int) < (sz : Int) := by omega
      go_wp2_with fail
      go_end0
      exact ⟨rfl, ⟨fun k hk => by have h9 := HR.out.row k hk; simp only [adF_end f v h1 hk] at h9; first | exact h9 | (rw [Int.natCast_add] at h9; exact h9), HR.out.fz⟩, HP.out⟩

set_option maxRecDepth 100000 in
set_option maxHeartbeats 4000000 in
theorem noStates_any (h sz : Nat) (w : World) (hh : h ≤ 4) (hsz : sz ≤ 200) :
    Calls Tryd.prog 46 #[.int .i64 h, .int .i64 sz] w fun e w' => ∃ g rb, e = .returned (.slice (some ⟨g, 0, none⟩) (2 ^ h) (2 ^ h)) ∧ GridB w w' g (2 ^ h) sz (2 ^ h) rb (fun _ _ => .int .i64 0) := by
  obtain ⟨i0, hi, hz0, hz1, hz2⟩ := info_parts Tryd.infoInt
  have HINI : Hid (Tryd.prog.info? 3 = some i0 ∧ i0.zero = some (.int .i64 0) ∧ i0.size = 1 ∧ i0.bytes = 8) := ⟨hi, hz0, hz1, hz2⟩
  clear hi hz0 hz1 hz2
  obtain ⟨i1, hi, hz0, hz1, hz2⟩ := info_parts Tryd.infoIntRow
  have HINF : Hid (Tryd.prog.info? 34 = some i1 ∧ i1.zero = some (.slice none 0 0) ∧ i1.size = 1 ∧ i1.bytes = 24) := ⟨hi, hz0, hz1, hz2⟩
  clear hi hz0 hz1 hz2
  have hhI : (h : Int) ≤ 4 := by omega
  have hh0 : (0 : Int) ≤ (h : Int) := by omega
  have hszI : (sz : Int) ≤ 200 := by omega
  have HT : Hid (2 ^ h ≤ 16) := Nat.pow_le_pow_right (n := 2) (by decide) hh
  obtain ⟨T, hT2⟩ : ∃ T : Nat, T = 2 ^ h := ⟨_, rfl⟩
  have hsh : IntKind.i64.wrap (2 ^ h : Int) = (T : Int) := by rw [shl_wrap h (by omega), hT2]; simp
  have hT3 : T ≤ 16 := by rw [hT2]; exact HT.out
  rw [← hT2]
  clear hT2 HT
  go_enter Tryd.func46, Tryd.ntmps46
  go_wp2_with (at_make; go_must (refine wpList_make_full _ rfl _ _ _ rfl w.heap.size 34 i1 _ 1 Tryd.underlying55 HINF.out.1 HINF.out.2.1 HINF.out.2.2.1 .i64 .i64 _ _ T rfl rfl rfl rfl (by rw [HINF.out.2.2.2]; omega) (by unfold maxLen; omega) (Nat.le_refl _) ?_; intro w2 hown2 hgrow2; have HF2 : Hid (GridB w w2 w.heap.size T sz 0 (fun _ => 0) (fun _ _ => .int .i64 0)) := gridB_start (rowIs_made hown2 (made_one (.slice none 0 0) rfl T)) (made_below hgrow2) (Nat.le_refl _) _ _; clear hown2 hgrow2))
  go_loopw [12] (fun t wr => ∃ (k : Nat) (rb : Nat → Nat), k ≤ T ∧ t = .int .i64 k ∧ Hid (GridB w wr w.heap.size T sz k rb (fun _ _ => .int .i64 0))) (fun t _ => T - (intOf t).toNat)
  case atStart => exact ⟨0, _, Nat.zero_le _, rfl, HF2⟩
  case round =>
    clear HF2
    obtain ⟨k, rb, hk, rfl, HGR⟩ := hrel
    have hk0 : (0 : Int) ≤ (k : Int) := by omega
    rcases Nat.lt_or_ge k T with h1 | h1
    · have hkI : (k : Int) < (T : Int) := by omega
      obtain ⟨xo, hxo⟩ := HGR.out.outer k h1
      have hfo := HGR.out.ofz k h1
      go_wp2_with (at_make; go_must (refine wpList_make_full _ rfl _ _ _ rfl wr.heap.size 3 i0 _ 1 Tryd.underlying34 HINI.out.1 HINI.out.2.1 HINI.out.2.2.1 .i64 .i64 _ _ sz rfl rfl rfl rfl (by rw [HINI.out.2.2.2]; omega) (by unfold maxLen; omega) (Nat.le_refl _) ?_; intro w3 hown3 hgrow3; have hmb := made_below hgrow3; have hlt3 := made_lt hown3; have HG4 := Hid.mk' (HGR.out.push h1 hmb (Nat.le_refl _) hlt3 (rowIs_made hown3 (made_zero sz))); obtain ⟨xo3, hxo3⟩ := (HGR.out.later hmb).outer k h1; have hfo3 := (HGR.out.later hmb).ofz k h1; clear hown3 hgrow3 hmb hlt3 hxo hfo))
      exact ⟨⟨k + 1, _, h1, by go_num, Hid.mk' (HG4.out.cast fun i k hi hk => by split <;> rfl)⟩, by simp [intOf]; omega⟩
    · obtain rfl : k = T := by omega
      have hkI : ¬ ((k : Int) < (k : Int)) := by omega
      go_wp2_with fail
      go_ret
      first | exact ⟨_, rb, rfl, HGR.out⟩ | exact ⟨_, rfl, rb, HGR.out⟩
end Go.Proofs.YtoghnbcjkgookaaDoor
