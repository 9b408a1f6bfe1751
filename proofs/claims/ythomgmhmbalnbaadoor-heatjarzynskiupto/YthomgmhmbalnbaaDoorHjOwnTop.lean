/- Proved: demonlaw4.HeatJarzynski, called with any process, all together of at most 1048576 values (a law's '..Upto' form), in whatever memory in which package api's errors and the other listed variables are as their initialisers lay them, returns true, and the arguments read as they did; the listed variables are tied to the program's text by the card. -/
import Derived.Test.YthomgmhmbalnbaaDoorPackD
namespace Go.Proofs.YthomgmhmbalnbaaDoor
open Go.ChangeShapes Go.WideShapes Go.ChangeAt Go.RowKit Go.Joins Go.Deep

theorem heatJarzynski_reads (os : Os) {H : Type} (enc : TypeId × Value → H) : ∃ places, DataW.whole enc Tryd.prog ((World.doorLaid Tryd.prog 66 os).forCall (fun _ _ => 0) ⟨#[], #[.agg #[.slice none 0 0, .slice none 0 0]], []⟩).memory Tryd.f3.params.toList Rows.heatJarzynskiSpec.vars false (#[.agg #[.slice none 0 0, .slice none 0 0]] : Array Value).toList 8 = some ([.agg [.nil, .nil]], [], places) := ⟨[], by kernel_rfl⟩

set_option maxRecDepth 100000 in
theorem heatJarzynski_lifted (os : Os) (started : os.Started) (H : Type) (enc : TypeId × Value → H) (F : Stop.Interp) :
    ReturnsInHanded {} Tryd.checked os 3 .any ((Rows.OpenSpec.upto Rows.heatJarzynskiSpec).preRow enc Tryd.prog Tryd.f3 Rows.heatJarzynskiUptoRow.domain false laidAll) (((Rows.OpenSpec.upto Rows.heatJarzynskiSpec).at F).post enc Tryd.prog Tryd.f3 false true false false) := by
  obtain ⟨places, hx⟩ := heatJarzynski_reads os enc
  refine returnsInHanded_of_row (C := Tryd.checked) (s := Rows.OpenSpec.upto Rows.heatJarzynskiSpec) Tryd.own started (by kernel_rfl) Tryd.func3
    (witness_row_atRef (enc := enc) (C := Tryd.checked) false (World.doorLaid Tryd.prog 66 os) #[.agg #[.slice none 0 0, .slice none 0 0]] rfl (by kernel_rfl) (by kernel_rfl) (by kernel_rfl)
      (OpenSpec.preRow_of_cond 8 hx (by kernel_rfl) (fun k hk => by cases hk; kernel_rfl) (by kernel_rfl) (door_met os _))) ?_
  intro W base args ds gs before hval0 hW _ hcond _ hL _ _
  have hval : ∀ (j : Nat) t v, Tryd.f3.params[j]? = some t → args[j]? = some v → Value.okWide Tryd.prog W .any base t v := hval0
  have hW' := hW
  obtain ⟨p, q, hA0, hV, rfl, hfz, hnd⟩ := hW
  have hA : DataW.TrodAll enc Tryd.prog W 0 (fun _ => true) true Tryd.f3.params.toList args.toList ds p := hA0
  rw [Tryd.params3] at hA hval
  obtain ⟨v0, d0, rfl, rfl, h0⟩ := trodAll_one hA
  obtain ⟨rfl, rfl⟩ := trodVars_none hV
  have lt0 : ∀ x ∈ p, x.block < W.heap.size := by obtain ⟨m, hm⟩ := h0; exact DataW.trod_lt m _ _ _ hm
  obtain ⟨wv0, L0, vs0, ns0, Z0, sv0, T0, tv0, R0, rv0, rn0, P0, rfl, hTa0, hSt0, hLm0, hTm0, hRm0, hbk0⟩ := open_process (hval 0 25 v0 rfl rfl) h0
  have hbulk := bulk_bound (hcond _ rfl)
  have hroom := hbk0 (by
    have := bulk_mem (H := H) (d := d0) (l := [d0] ++ []) (by simp)
    omega)
  obtain ⟨a, hE⟩ := errs_of_laid hL
  refine (HeatJarzynski_all a wv0 L0 vs0 ns0 Z0 sv0 T0 tv0 R0 rv0 rn0 P0 W hE hTa0 hSt0 hLm0 hTm0 hRm0 hroom.1 hroom.2).mono fun e W' ⟨he, bel⟩ => ?_
  subst he
  have e1 : Rows.heatJarzynskiSpec.fn H ([d0] ++ []) = { results := [.lit (.bool true)], args := [d0] } := by simp [Rows.heatJarzynskiSpec]
  refine ⟨_, rfl, (?_ : Rows.heatJarzynskiSpec.post enc Tryd.prog Tryd.f3 false true false false _ _ _ _)⟩
  refine ⟨_, _, _, [], p, [], hW', ?_, ?_, ?_, bel.frame _, fun h => by cases h⟩
  · rw [e1]; exact trodAll_mk1 (shut_bool Tryd.underlying4 true)
  · rw [e1]; exact trodAll_mk1 (Below.trod Tryd.laidOut (by kernel_rfl) (of_decide_eq_true (by kernel_rfl)) h0 bel lt0)
  · rw [e1]; rfl

theorem heatJarzynski_holds : Rows.HeatJarzynskiUptoSaid :=
  OpenClaim.holds_of_cond 3 Tryd.f3 rfl rfl rfl rfl rfl rfl rfl ⟨rfl, rfl, rfl, rfl, rfl⟩ rfl rfl rfl rfl rfl (by kernel_rfl) Tryd.func3 (by kernel_rfl)
    (of_decide_eq_true (by kernel_rfl)) (by unfold Func.isWrapper; rw [if_neg (of_decide_eq_false (by kernel_rfl))]; exact ⟨rfl, rfl⟩)
    (fun os started H enc _ F => by rw [OpenClaim.pre_eq_preRow]; exact heatJarzynski_lifted os started H enc F)

theorem heatJarzynski_card : Rows.HeatJarzynskiUptoCardSaid :=
  Claim7.holds_tied_plain_at .later [] _ _ _ _ heatJarzynski_holds (fun _ h => by cases h) (by kernel_rfl) (fun _ h => by cases h) heatJarzynskiUpto_row_tie rfl ⟨rfl, rfl⟩ (by kernel_rfl) rfl
    (fun f fn hf hfn => by
      obtain rfl : f = 3 := Option.some.inj ((show Tryd.prog.funcNamed "demon/demonlaw4.HeatJarzynski" = some 3 by kernel_rfl).symm.trans hf) |>.symm
      obtain rfl : fn = Tryd.f3 := (Option.some.inj (Tryd.func3.symm.trans hfn)).symm
      exact ⟨by kernel_rfl, fun j t ht => by
        rw [Tryd.params3] at ht
        rcases j with _ | j
        · obtain rfl : t = 25 := by simpa using ht.symm
          exact (show Tryd.prog.wantsStandIn 25 = false by kernel_rfl)
        · simp at ht⟩)
    (by kernel_rfl)
#print axioms heatJarzynski_card
end Go.Proofs.YthomgmhmbalnbaaDoor
