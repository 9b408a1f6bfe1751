/- machine.Many. -/
import Derived.Test.YtdfcipdknfebpaaDoorMacU
namespace Go.Proofs.YtdfcipdknfebpaaDoor
open Go.RowKit Go.Shelf
attribute [local go_sem] Oper.semAt_some

/-- How many of them write a text of at most 8 signs. -/
def cntE (l : List Pg) : Nat := (l.filter fun p => decide ((stp p).length ≤ 8)).length
theorem cntE_snoc (l : List Pg) (p : Pg) : cntE (l ++ [p]) = cntE l + (if (stp p).length ≤ 8 then 1 else 0) := by
  unfold cntE
  rw [List.filter_append, List.length_append]
  by_cases h : (stp p).length ≤ 8
  · simp [h]
  · simp [h]
theorem cntE_len (l : List Pg) : cntE l ≤ l.length := List.length_filter_le _ _
theorem while_here {n : Nat} : ∀ (pre t : List Pg), (∀ r ∈ pre, (fla r).length ≤ n) → (∀ q, t.head? = some q → ¬ (fla q).length ≤ n) → (pre ++ t).takeWhile (fun p => decide ((fla p).length ≤ n)) = pre
  | [], [], _, _ => rfl
  | [], q :: t, _, h => by
    have := h q rfl
    simp [this]
  | p :: pre, t, h, h2 => by
    have h3 := h p (by simp)
    rw [List.cons_append, List.takeWhile_cons]
    simp only [h3, decide_true, if_true]
    rw [while_here pre t (fun r hr => h r (by simp [hr])) h2]
theorem while_all {n : Nat} (E : List Pg) (h : ∀ r ∈ E, (fla r).length ≤ n) : manyM E n = cntE E := by
  unfold manyM cntE
  have := while_here E [] h (fun q hq => by simp at hq)
  rw [List.append_nil] at this
  rw [this]
theorem while_stop {n : Nat} {E pre : List Pg} {q : Pg} (hp : pre ++ [q] <+: E) (h : ∀ r ∈ pre, (fla r).length ≤ n) (hq : ¬ (fla q).length ≤ n) : manyM E n = cntE pre := by
  obtain ⟨t, rfl⟩ := hp
  unfold manyM cntE
  have := while_here pre (q :: t) h (fun r hr => by simp at hr; rw [← hr]; exact hq)
  rw [List.append_assoc, List.singleton_append, this]
theorem flat_len : ∀ (L : List (List Pg)), (∀ l ∈ L, l.length ≤ 1000) → L.flatten.length ≤ 1000 * L.length
  | [], _ => by simp
  | l :: L, h => by
    have h1 := flat_len L (fun r hr => h r (by simp [hr]))
    have h2 := h l (by simp)
    rw [List.flatten_cons, List.length_append, List.length_cons]
    omega
theorem allE_len : (allE 17).length ≤ 17000 := by
  have := flat_len (lvl 17).1 (fun l hl => lvl_short (Nat.le_refl _) hl)
  rw [lvl_len] at this
  exact this
set_option maxRecDepth 100000 in
theorem Many_bad (n : Int) (vB : Value) (w : World) (hn : n < 0 ∨ 16 < n) (hv : w.cell? ⟨0, 0, none⟩ = some vB) :
    Calls Tryd.prog 15 #[.int .i64 n] w fun e w' => e = .returned (.tuple #[.int .i64 0, vB]) ∧ Below w.heap.size w w' := by
  have c0 : (w.alloc (.cells #[.int .i64 n] 3)).cell? ⟨w.heap.size, 0, none⟩ = some (.int .i64 n) := by simp
  have c1 : (w.alloc (.cells #[.int .i64 n] 3)).cell? ⟨0, 0, none⟩ = some vB := by rw [World.cell?_alloc_lt _ _ _ (cell_lt hv)]; exact hv
  clear hv
  by_cases h0 : n < 0
  · clear hn
    go_enter Tryd.func15, Tryd.ntmps15
    go_wp2_with fail
    go_region
    all_goals (go_wp2_with fail; go_ret2; exact ⟨rfl, ((Below.refl _ _).alloc (Nat.le_refl _) _).drew⟩)
  · have h1 : 16 < n := by omega
    clear hn
    go_enter Tryd.func15, Tryd.ntmps15
    go_wp2_with fail
    go_region
    all_goals (go_wp2_with fail; go_ret2; exact ⟨rfl, ((Below.refl _ _).alloc (Nat.le_refl _) _).drew⟩)

set_option maxRecDepth 100000 in
set_option maxHeartbeats 4000000 in
theorem Many_ok (n : Nat) (w : World) (hn : n ≤ 16) :
    Calls Tryd.prog 15 #[.int .i64 (n : Int)] w fun e w' => e = .returned (.tuple #[.int .i64 (manyM (allE 17) n : Int), .nilIface]) ∧ Below w.heap.size w w' := by
  refine (callsIn_wide (n := 3)).1 ?_
  refine callsIn_of_wp_marks Tryd.func15 rfl trivial ?_ rfl
  simp only [Tryd.ntmps15, List.size_toArray, List.length_cons, List.length_nil, Nat.reduceAdd, Nat.reduceSub, Array.replicate_succ, Array.replicate_zero, List.push_toArray, List.append_toArray, List.nil_append, List.cons_append]
  have i0 : ¬ (n : Int) < 0 := by omega
  have i1 : ¬ (16 : Int) < (n : Int) := by omega
  have c0 : (w.alloc (.cells #[.int .i64 (n : Int)] 3)).cell? ⟨w.heap.size, 0, none⟩ = some (.int .i64 (n : Int)) := by simp
  gi_wp2
  refine ⟨trivial, ?_⟩
  gi_at_call 22
  refine CallsIn.mono (callsIn_wide.2 (leastP_any _)) ?_
  rintro e w3 ⟨rfl, rfl⟩
  gi_wp2
  obtain ⟨W4, hW4⟩ : ∃ W4, W4 = (w.alloc (.cells #[.int .i64 (n : Int)] 3)).alloc (.cells #[.int .i64 0] 3) := ⟨_, rfl⟩
  have s4 : W4.heap.size = w.heap.size + 2 := by rw [hW4]; simp
  have k0 : W4.cell? ⟨w.heap.size, 0, none⟩ = some (.int .i64 (n : Int)) := by rw [hW4, World.cell?_alloc_lt _ _ _ (cell_lt c0)]; exact c0
  have k1 : W4.cell? ⟨w.heap.size + 1, 0, none⟩ = some (.int .i64 ((cntE [] : Nat) : Int)) := by rw [hW4, World.cell?_alloc_at _ _ _ _ (by simp)]; rfl
  have k2 : W4.frozen? ⟨w.heap.size + 1, 0, none⟩ = false := by
    have h9 := heap_newM (w.alloc (.cells #[.int .i64 (n : Int)] 3)) (.cells #[.int .i64 0] 3)
    rw [World.size_alloc, ← hW4] at h9
    simp [World.frozen?, h9]
  have k3 : Below w.heap.size w W4 := by rw [hW4]; exact ((Below.refl _ _).alloc (Nat.le_refl _) _).alloc (by simp) _
  rw [← hW4]
  have HS4 := Hid.mk' s4
  clear hW4 c0 s4
  refine wpIn_rangeOwn rfl (by omega) (gf := 37) (lb := #[]) rfl trivial (enters_of Tryd.func37 (by kernel_rfl) rfl) least_seq (fun _ => rfl)
    (fun pre W => (∀ r ∈ pre, (fla r).length ≤ n) ∧ W.cell? ⟨w.heap.size, 0, none⟩ = some (.int .i64 (n : Int)) ∧ W.cell? ⟨w.heap.size + 1, 0, none⟩ = some (.int .i64 (cntE pre : Int)) ∧ W.frozen? ⟨w.heap.size + 1, 0, none⟩ = false ∧ Below w.heap.size w W)
    (fun c pre W => c = .exit 0 ∧ ∃ pre' q, pre = pre' ++ [q] ∧ ¬ (fla q).length ≤ n ∧ (∀ r ∈ pre', (fla r).length ≤ n) ∧ W.cell? ⟨w.heap.size + 1, 0, none⟩ = some (.int .i64 (cntE pre' : Int)) ∧ Below w.heap.size w W)
    (fun s A B h hb => ⟨h.1, by rw [hb.cell (p := ⟨w.heap.size, 0, none⟩) (by show w.heap.size < _; have := HS4.out; omega)]; exact h.2.1, by rw [hb.cell (p := ⟨w.heap.size + 1, 0, none⟩) (by show w.heap.size + 1 < _; have := HS4.out; omega)]; exact h.2.2.1, by rw [hb.frozen (p := ⟨w.heap.size + 1, 0, none⟩) (by show w.heap.size + 1 < _; have := HS4.out; omega)]; exact h.2.2.2.1, h.2.2.2.2.trans (hb.mono (by have := HS4.out; omega))⟩)
    (fun c s A B h hb => by
      obtain ⟨h1, pre', q, h2, h3, h4, h5, h6⟩ := h
      exact ⟨h1, pre', q, h2, h3, h4, by rw [hb.cell (p := ⟨w.heap.size + 1, 0, none⟩) (by show w.heap.size + 1 < _; have := HS4.out; omega)]; exact h5, h6.trans (hb.mono (by have := HS4.out; omega))⟩)
    ⟨fun r hr => by simp at hr, k0, k1, k2, k3⟩
    (fun p => { tmps := #[.int .i64 (n : Int), .pointer (some ⟨w.heap.size, 0, none⟩), .int .i64 0, .nilIface, .pointer (some ⟨w.heap.size + 1, 0, none⟩), .string (bt (fla p)), .string (bt (stp p)), .int .i64 (n : Int), .bool false, .bool false, .int .i64 (n : Int), .bool false, .bool false, undef, .func (.func 37) #[] #[], .string (bt (fla p)), .string (bt (stp p)), undef, undef, undef, undef, undef, undef, undef, undef, undef, undef], defers := [] }) ?assign ?body ?done ?stop
  case assign =>
    intro l p W K hK
    gi_wp2
    exact hK
  case body =>
    rintro l pre p W ⟨hn', hcx, hcl, hfl, hB⟩ hpre hsz
    obtain ⟨e1, e2⟩ := ent_small (hpre.subset (by simp : p ∈ pre ++ [p]))
    have hzF := bt_size (fla p)
    have hzS := bt_size (stp p)
    have hcb : cntE pre ≤ 1000000 := by
      have h5 := cntE_len pre
      have h6 := hpre.length_le
      have h7 : (allE 17).length ≤ 17000 := allE_len
      rw [List.length_append] at h6
      omega
    have HN := Hid.mk' hn'
    have HCL := Hid.mk' hcl
    have HBW := Hid.mk' hB
    have HFL := Hid.mk' hfl
    have HCX := Hid.mk' hcx
    have HSN := Hid.mk' (cntE_snoc pre p)
    by_cases hlt : (fla p).length ≤ n
    · have HN2 : Hid (∀ r ∈ pre ++ [p], (fla r).length ≤ n) := fun r hr => by
        rcases List.mem_append.1 hr with h | h
        · exact HN.out r h
        · rw [List.mem_singleton.1 h]; exact hlt
      by_cases h8 : (stp p).length ≤ 8
      · have HC1 : Hid (((cntE (pre ++ [p]) : Nat) : Int) = (cntE pre : Int) + 1) := by show _ = _; rw [HSN.out, if_pos h8]; omega
        generalize bt (fla p) = Fp at *
        generalize bt (stp p) = Sp at *
        generalize hcc : cntE pre = cc at *
        have j1 : ¬ (n : Int) < (Fp.size : Int) := by omega
        have j2 : (Fp.size : Int) ≤ 16 := by omega
        have j3 : (Sp.size : Int) ≤ 8 := by omega
        have j4 : (cc : Int) ≤ 1000000 := by omega
        have j5 : (0 : Int) ≤ (cc : Int) := by omega
        clear hzF hzS e1 e2 hlt h8 hn' hcc HSN
        gi_wp2
        refine ⟨⟨by simp [World.setCell], fun k h1 h2 => Below.heap_setCell _ _ _ _ (by show k ≠ w.heap.size + 1; have := HS4.out; omega)⟩, HN2.out, ?_, ?_, ?_, ?_⟩
        · rw [World.cell?_setCell_other _ _ _ _ (fun e => by have h9 := congrArg Addr.block e; dsimp only at h9; omega)]; exact HCX.out
        · rw [HC1.out]; exact World.cell?_setCell_same _ _ _ HCL.out
        · rw [World.frozen?_setCell]; exact HFL.out
        · exact HBW.out.setCell (p := ⟨w.heap.size + 1, 0, none⟩) (by show w.heap.size ≤ w.heap.size + 1; omega) _
      · have HC1 : Hid (((cntE (pre ++ [p]) : Nat) : Int) = (cntE pre : Int)) := by show _ = _; rw [HSN.out, if_neg h8]; rfl
        generalize bt (fla p) = Fp at *
        generalize bt (stp p) = Sp at *
        generalize hcc : cntE pre = cc at *
        have j1 : ¬ (n : Int) < (Fp.size : Int) := by omega
        have j2 : (Fp.size : Int) ≤ 16 := by omega
        have j3 : ¬ (Sp.size : Int) ≤ 8 := by omega
        have j4 : (Sp.size : Int) ≤ 24 := by omega
        clear hzF hzS e1 e2 hlt h8 hn' hcc HSN
        gi_wp2
        exact ⟨⟨Nat.le_refl _, fun _ _ _ => rfl⟩, HN2.out, HCX.out, by rw [HC1.out]; exact HCL.out, HFL.out, HBW.out⟩
    · have HLT := Hid.mk' hlt
      generalize bt (fla p) = Fp at *
      generalize bt (stp p) = Sp at *
      have j1 : (n : Int) < (Fp.size : Int) := by omega
      have j2 : (Fp.size : Int) ≤ 16 := by omega
      clear hzF hzS e1 e2 hlt hn' HSN
      gi_wp2
      exact ⟨⟨Nat.le_refl _, fun _ _ _ => rfl⟩, rfl, pre, p, rfl, HLT.out, HN.out, HCL.out, HBW.out⟩
  case done =>
    rintro D W hD ⟨hn', hcx, hcl, hfl, hB⟩ hK
    have HE := Hid.mk' (while_all (n := n) (allE 17) hn')
    have HEB : Hid (Below w.heap.size w (W.putObj D (.deferred none))) := hB.trans (below_put _ (by have := HS4.out; omega))
    have HK := Hid.mk' hK
    clear hK hn'
    generalize cntE (allE 17) = cc at *
    gi_wp2
    refine ⟨by simp, .inl ⟨_, _, rfl, run_takeDeferred HK.out, ?_⟩⟩
    exact ⟨_, results_tmp2 rfl _ _ _, by rw [HE.out]; rfl, HEB.out⟩
  case stop =>
    rintro D c pre W hD hpre ⟨rfl, pre', q, rfl, hq, hn', hcl, hB⟩ hK
    have HE := Hid.mk' (while_stop hpre hn' hq)
    have HEB : Hid (Below w.heap.size w (W.putObj D (.deferred none))) := hB.trans (below_put _ (by have := HS4.out; omega))
    have HK := Hid.mk' hK
    clear hK hn' hq
    generalize cntE pre' = cc at *
    gi_wp2
    refine ⟨by simp, .inl ⟨_, _, rfl, run_takeDeferred HK.out, ?_⟩⟩
    exact ⟨_, results_tmp2 rfl _ _ _, by rw [HE.out]; rfl, HEB.out⟩
end Go.Proofs.YtdfcipdknfebpaaDoor
