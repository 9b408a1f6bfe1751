/- machine.Least. -/
import Derived.Test.YtdfcipdknfebpaaDoorMacQ
namespace Go.Proofs.YtdfcipdknfebpaaDoor
open Go.RowKit Go.Shelf
attribute [local go_sem] Oper.semAt_some

theorem bitB_bt (x : List UInt8) : bitB (bt x) = bitL x := by unfold bitB; rw [bt_list]; rfl
theorem leastP_any (w : World) : Calls Tryd.prog 22 #[] w fun e w' => e = .returned (.func (.func 37) #[] #[]) ∧ w' = w := by
  go_enter Tryd.func22, Tryd.ntmps22
  go_wp2_with fail
  go_ret
  exact ⟨rfl, rfl⟩
theorem least_seq : SeqOwn Fence.wide 2 Tryd.prog 37 #[] (fun p : Pg => #[.string (bt (fla p)), .string (bt (stp p))]) (allE 17) :=
  fun l J Jx W hJ hY h0 => least1_in 2 (by omega) l J Jx W hJ hY h0
theorem find_here {E : List Pg} {pre : List Pg} {q : Pg} {x : List UInt8} (hp : pre ++ [q] <+: E) (hn : ∀ r ∈ pre, stp r ≠ x) (hq : stp q = x) : E.find? (fun p => decide (stp p = x)) = some q := by
  obtain ⟨t, rfl⟩ := hp
  rw [List.append_assoc, List.find?_append, List.find?_eq_none.2 (fun r hr => by simpa using hn r hr)]
  simp [hq]
theorem bt_toList (a : List UInt8) : (bt a).toList = a := by rw [ByteArray.toList_eq]; exact bt_list a
theorem bt_ne {a b : List UInt8} (h : a ≠ b) : ((bt a).toList == (bt b).toList) = false := by rw [bt_toList, bt_toList]; simpa using h
theorem bt_eqB (a b : List UInt8) : ((bt a).toList == (bt b).toList) = decide (a = b) := by
  rw [bt_toList, bt_toList]
  by_cases h : a = b
  · simp [h]
  · simp [h]
theorem Least_long (x : List UInt8) (vB : Value) (w : World) (hx : 8 < x.length) (hx2 : x.length ≤ 1000000) (hv : w.cell? ⟨0, 0, none⟩ = some vB) :
    Calls Tryd.prog 11 #[.string (bt x)] w fun e w' => e = .returned (.tuple #[.string ⟨#[]⟩, vB]) ∧ Below w.heap.size w w' := by
  have hz := bt_size x
  generalize bt x = X at *
  have hI : (8 : Int) < (X.size : Int) := by omega
  have hI2 : (X.size : Int) ≤ 1000000 := by omega
  have c0 : (w.alloc (.cells #[.string X] 9)).cell? ⟨w.heap.size, 0, none⟩ = some (.string X) := by simp
  have c1 : (w.alloc (.cells #[.string X] 9)).cell? ⟨0, 0, none⟩ = some vB := by rw [World.cell?_alloc_lt _ _ _ (cell_lt hv)]; exact hv
  clear hz hv
  go_enter Tryd.func11, Tryd.ntmps11
  go_wp2_with fail
  go_region
  all_goals (go_wp2_with fail; go_ret2; exact ⟨rfl, ((Below.refl _ _).alloc (Nat.le_refl _) _).drew⟩)
set_option maxRecDepth 100000 in
theorem Least_text (x : List UInt8) (vT : Value) (w : World) (hx : x.length ≤ 8) (hb : bitL x = false) (hv : w.cell? ⟨1, 0, none⟩ = some vT) :
    Calls Tryd.prog 11 #[.string (bt x)] w fun e w' => e = .returned (.tuple #[.string ⟨#[]⟩, vT]) ∧ Below w.heap.size w w' := by
  have hz := bt_size x
  have HT := Hid.mk' (fun W => trim_other (bt x) W (by rw [bt_size]; omega) (by rw [bitB_bt]; exact hb))
  generalize bt x = X at *
  have hI : ¬ (8 : Int) < (X.size : Int) := by omega
  have hI2 : (X.size : Int) ≤ 1000000 := by omega
  obtain ⟨W1, hW1⟩ : ∃ W1, W1 = w.alloc (.cells #[.string X] 9) := ⟨_, rfl⟩
  have c0 : (w.alloc (.cells #[.string X] 9)).cell? ⟨w.heap.size, 0, none⟩ = some (.string X) := by simp
  have c1 : W1.cell? ⟨1, 0, none⟩ = some vT := by rw [hW1, World.cell?_alloc_lt _ _ _ (cell_lt hv)]; exact hv
  have HB1 : Hid (Below w.heap.size w W1) := by rw [hW1]; exact (Below.refl _ _).alloc (Nat.le_refl _) _
  have HC1 := Hid.mk' c1
  have HT1 := Hid.mk' (HT.out W1)
  clear hz hv HT c1
  go_enter Tryd.func11, Tryd.ntmps11
  go_wp2_with fail
  rw [← hW1]
  clear hW1
  refine HT1.out.mono ?_
  clear HT1
  rintro e w2 ⟨t, rfl, ht, hB2⟩
  have c2 : w2.cell? ⟨1, 0, none⟩ = some vT := by rw [hB2.cell (cell_lt HC1.out)]; exact HC1.out
  have HB2 := Hid.mk' (below_chain HB1.out hB2)
  clear hB2
  go_wp2_with fail
  go_region
  all_goals (go_wp2_with fail; go_ret2; exact ⟨rfl, HB2.out.drew⟩)

set_option maxRecDepth 100000 in
set_option maxHeartbeats 4000000 in
theorem Least_ok (x : List UInt8) (w : World) (hx : x.length ≤ 8) (hb : bitL x = true) :
    Calls Tryd.prog 11 #[.string (bt x)] w fun e w' => e = .returned (.tuple #[.string (bt (fla (lstM x))), .nilIface]) ∧ Below w.heap.size w w' := by
  have hz := bt_size x
  have HT := Hid.mk' (fun W => trim_bits (bt x) W (by rw [bt_size]; omega) (by rw [bitB_bt]; exact hb))
  have HF := Hid.mk' (lst_find hb hx)
  refine (callsIn_wide (n := 3)).1 ?_
  refine callsIn_of_wp_marks Tryd.func11 rfl trivial ?_ rfl
  simp only [Tryd.ntmps11, List.size_toArray, List.length_cons, List.length_nil, Nat.reduceAdd, Nat.reduceSub, Array.replicate_succ, Array.replicate_zero, List.push_toArray, List.append_toArray, List.nil_append, List.cons_append]
  obtain ⟨X, hX⟩ : ∃ X, X = bt x := ⟨_, rfl⟩
  have HX := Hid.mk' hX
  rw [← hX] at hz HT ⊢
  clear hX
  obtain ⟨nx, hnx⟩ : ∃ nx, nx = x.length := ⟨_, rfl⟩
  rw [← hnx] at hz hx
  have HNX := Hid.mk' hnx
  clear hnx
  have hI : ¬ (8 : Int) < (nx : Int) := by omega
  obtain ⟨W1, hW1⟩ : ∃ W1, W1 = w.alloc (.cells #[.string X] 9) := ⟨_, rfl⟩
  have c0 : (w.alloc (.cells #[.string X] 9)).cell? ⟨w.heap.size, 0, none⟩ = some (.string X) := by simp
  have HB1 : Hid (Below w.heap.size w W1) := by rw [hW1]; exact (Below.refl _ _).alloc (Nat.le_refl _) _
  have HC1 : Hid (W1.cell? ⟨w.heap.size, 0, none⟩ = some (.string X)) := by rw [hW1]; exact c0
  have HT1 := Hid.mk' (HT.out W1)
  clear HT
  gi_wp2
  rw [← hW1]
  clear hW1 c0
  refine ⟨trivial, ?_⟩
  gi_at_call 21
  refine CallsIn.mono (callsIn_wide.2 HT1.out) ?_
  clear HT1
  rintro e w2 ⟨rfl, hB2⟩
  have HB2 := Hid.mk' (below_chain HB1.out hB2)
  have HC2 : Hid (w2.cell? ⟨w.heap.size, 0, none⟩ = some (.string X)) := by show _ = _; rw [hB2.cell (cell_lt HC1.out)]; exact HC1.out
  clear hB2
  gi_wp2
  refine ⟨trivial, ?_⟩
  gi_at_call 22
  refine CallsIn.mono (callsIn_wide.2 (leastP_any _)) ?_
  rintro e w3 ⟨rfl, rfl⟩
  gi_wp2
  have hsw := HB2.out.size
  obtain ⟨W4, hW4⟩ : ∃ W4, W4 = w2.alloc (.cells #[.string ⟨#[]⟩] 9) := ⟨_, rfl⟩
  have s4 : W4.heap.size = w2.heap.size + 1 := by rw [hW4]; simp
  have k0 : W4.cell? ⟨w.heap.size, 0, none⟩ = some (.string X) := by rw [hW4, World.cell?_alloc_lt _ _ _ (cell_lt HC2.out)]; exact HC2.out
  have k1 : W4.cell? ⟨w2.heap.size, 0, none⟩ = some (.string ⟨#[]⟩) := by rw [hW4]; simp
  have k2 : W4.frozen? ⟨w2.heap.size, 0, none⟩ = false := by rw [hW4]; simp
  have k3 : Below w.heap.size w W4 := by rw [hW4]; exact HB2.out.alloc hsw _
  have hxl := cell_lt HC2.out
  have hxl' : w.heap.size < w2.heap.size := hxl
  rw [← hW4]
  clear hW4 HB1 HC1
  refine wpIn_rangeOwn rfl (by omega) (gf := 37) (lb := #[]) rfl trivial (enters_of Tryd.func37 (by kernel_rfl) rfl) least_seq (fun _ => rfl)
    (fun pre W => (∀ r ∈ pre, stp r ≠ x) ∧ W.cell? ⟨w.heap.size, 0, none⟩ = some (.string X) ∧ W.cell? ⟨w2.heap.size, 0, none⟩ = some (.string ⟨#[]⟩) ∧ W.frozen? ⟨w2.heap.size, 0, none⟩ = false ∧ Below w.heap.size w W)
    (fun c pre W => c = .exit 0 ∧ ∃ pre' q, pre = pre' ++ [q] ∧ stp q = x ∧ (∀ r ∈ pre', stp r ≠ x) ∧ W.cell? ⟨w2.heap.size, 0, none⟩ = some (.string (bt (fla q))) ∧ Below w.heap.size w W)
    (fun s A B h hb => ⟨h.1, by rw [hb.cell (p := ⟨w.heap.size, 0, none⟩) (by show w.heap.size < _; omega)]; exact h.2.1, by rw [hb.cell (p := ⟨w2.heap.size, 0, none⟩) (by show w2.heap.size < _; omega)]; exact h.2.2.1, by rw [hb.frozen (p := ⟨w2.heap.size, 0, none⟩) (by show w2.heap.size < _; omega)]; exact h.2.2.2.1, h.2.2.2.2.trans (hb.mono (by omega))⟩)
    (fun c s A B h hb => by
      obtain ⟨h1, pre', q, h2, h3, h4, h5, h6⟩ := h
      exact ⟨h1, pre', q, h2, h3, h4, by rw [hb.cell (p := ⟨w2.heap.size, 0, none⟩) (by show w2.heap.size < _; omega)]; exact h5, h6.trans (hb.mono (by omega))⟩)
    ⟨fun r hr => by simp at hr, k0, k1, k2, k3⟩
    (fun p => { tmps := #[.string X, .pointer (some ⟨w.heap.size, 0, none⟩), .string ⟨#[]⟩, .nilIface, .pointer (some ⟨w2.heap.size, 0, none⟩), .string (bt (fla p)), .string (bt (stp p)), .string X, .int .i64 (nx : Int), .bool false, undef, .string X, .string ⟨#[]⟩, .bool false, undef, .func (.func 37) #[] #[], .string (bt (fla p)), .string (bt (stp p)), undef, undef, undef, undef, undef], defers := [] }) ?assign ?body ?done ?stop
  case assign =>
    intro l p W K hK
    gi_wp2
    exact hK
  case body =>
    rintro l pre p W ⟨hn, hcx, hcl, hfl, hB⟩ hpre hsz
    by_cases e : stp p = x
    · have eX : bt (stp p) = X := by rw [HX.out, e]
      rw [eX]
      obtain ⟨Fp, hFp⟩ : ∃ Fp, Fp = bt (fla p) := ⟨_, rfl⟩
      rw [← hFp]
      have HFP := Hid.mk' hFp
      have HN := Hid.mk' hn
      have HEQ := Hid.mk' e
      have HCL := Hid.mk' hcl
      have HBW := Hid.mk' hB
      clear eX hFp e hn
      gi_wp2
      exact ⟨⟨by simp [World.setCell], fun k h1 h2 => Below.heap_setCell _ _ _ _ (by show k ≠ w2.heap.size; omega)⟩, rfl, pre, p, rfl, HEQ.out, HN.out, by rw [← HFP.out]; exact World.cell?_setCell_same _ _ _ HCL.out, HBW.out.setCell (p := ⟨w2.heap.size, 0, none⟩) (by show w.heap.size ≤ w2.heap.size; omega) _⟩
    · have eX : ((bt (stp p)).toList == X.toList) = false := by rw [HX.out]; exact bt_ne e
      have HN : Hid (∀ r ∈ pre ++ [p], stp r ≠ x) := fun r hr => by
        rcases List.mem_append.1 hr with h | h
        · exact hn r h
        · rw [List.mem_singleton.1 h]; exact e
      have HR := Hid.mk' (And.intro hcx (And.intro hcl (And.intro hfl hB)))
      generalize bt (stp p) = Sp at *
      generalize bt (fla p) = Fp at *
      clear hn e
      gi_wp2
      exact ⟨⟨Nat.le_refl _, fun _ _ _ => rfl⟩, HN.out, HR.out⟩
  case done =>
    rintro D W hD ⟨hn, _⟩ hK
    have h1 := List.mem_of_find?_eq_some HF.out
    have h2 := List.find?_some HF.out
    exact absurd (by simpa using h2) (hn _ h1)
  case stop =>
    rintro D c pre W hD hpre ⟨rfl, pre', q, rfl, hq, hn, hcl, hB⟩ hK
    have HE : Hid (q = lstM x) := by
      have := find_here hpre hn hq
      rw [HF.out] at this
      exact (Option.some.inj this).symm
    have HEB : Hid (Below w.heap.size w (W.putObj D (.deferred none))) := hB.trans (below_put _ (by omega))
    have HK := Hid.mk' hK
    clear hK
    have HFQ : Hid (bt (fla q) = bt (fla (lstM x))) := by rw [HE.out]; exact rfl
    generalize bt (fla q) = Fq at *
    gi_wp2
    refine ⟨by simp, .inl ⟨_, _, rfl, run_takeDeferred HK.out, ?_⟩⟩
    exact ⟨_, results_tmp2 rfl _ _ _, by rw [← HFQ.out]; rfl, HEB.out⟩
end Go.Proofs.YtdfcipdknfebpaaDoor
