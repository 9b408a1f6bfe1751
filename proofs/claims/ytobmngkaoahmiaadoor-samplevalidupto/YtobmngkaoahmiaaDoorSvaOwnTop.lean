/- Proved: demonlaw4.SampleValid, called with any rules, all together of at most 1048576 values (a law's '..Upto' form), in whatever memory in which package api's errors and the other listed variables are as their initialisers lay them, returns true, and the arguments read as they did; the listed variables are tied to the program's text by the card. -/
import Derived.Test.YtobmngkaoahmiaaDoorPackA
namespace Go.Proofs.YtobmngkaoahmiaaDoor
open Go.ChangeShapes Go.WideShapes Go.ChangeAt Go.RowKit Go.Joins Go.Deep

theorem sampleValid_reads (os : Os) {H : Type} (enc : TypeId × Value → H) : ∃ places, DataW.whole enc Tryd.prog ((World.layVars Tryd.prog (World.doorLaid Tryd.prog 178 os) [("unicode/utf8.first", Rows.laid_unicode_utf8_first)]).forCall (fun _ _ => 0) ⟨#[], #[.slice none 0 0], []⟩).memory Tryd.f5.params.toList Rows.sampleValidSpec.vars false (#[.slice none 0 0] : Array Value).toList 8 = some ([.nil], [], places) := ⟨[], by kernel_rfl⟩

set_option maxRecDepth 100000 in
theorem sampleValid_lifted (os : Os) (started : os.Started) (H : Type) (enc : TypeId × Value → H) (F : Stop.Interp) :
    ReturnsInHanded {} Tryd.checked os 5 .any ((Rows.OpenSpec.upto Rows.sampleValidSpec).preRow enc Tryd.prog Tryd.f5 Rows.sampleValidUptoRow.domain false laidAll) (((Rows.OpenSpec.upto Rows.sampleValidSpec).at F).post enc Tryd.prog Tryd.f5 false true false false) := by
  obtain ⟨places, hx⟩ := sampleValid_reads os enc
  refine returnsInHanded_of_row (C := Tryd.checked) (s := Rows.OpenSpec.upto Rows.sampleValidSpec) Tryd.own started (by kernel_rfl) Tryd.func5
    (witness_row_atRef (enc := enc) (C := Tryd.checked) false (World.layVars Tryd.prog (World.doorLaid Tryd.prog 178 os) [("unicode/utf8.first", Rows.laid_unicode_utf8_first)]) #[.slice none 0 0] (World.layVars_os _ _ _) (by kernel_rfl) (by kernel_rfl) (by kernel_rfl)
      (OpenSpec.preRow_of_cond 8 hx (by kernel_rfl) (fun k hk => by cases hk; kernel_rfl) (by kernel_rfl) (door_met os _))) ?_
  intro W base args ds gs before hval0 hW _ hcond _ hL _ _
  have hval : ∀ (j : Nat) t v, Tryd.f5.params[j]? = some t → args[j]? = some v → Value.okWide Tryd.prog W .any base t v := hval0
  have hW' := hW
  obtain ⟨p, q, hA0, hV, rfl, hfz, hnd⟩ := hW
  have hA : DataW.TrodAll enc Tryd.prog W 0 (fun _ => true) true Tryd.f5.params.toList args.toList ds p := hA0
  rw [Tryd.params5] at hA hval
  obtain ⟨v0, d0, rfl, rfl, h0⟩ := trodAll_one hA
  obtain ⟨rfl, rfl⟩ := trodVars_none hV
  have lt0 : ∀ x ∈ p, x.block < W.heap.size := by obtain ⟨m, hm⟩ := h0; exact DataW.trod_lt m _ _ _ hm
  obtain ⟨ad0, n0, c0, vs0, ns0, zs0, rfl, hm0, hn0, hs0⟩ := open_table (hval 0 48 v0 rfl rfl) h0
  have hbulk := bulk_bound (hcond _ rfl)
  have hroom : sumT ns0 n0 ≤ 2000000 := by
    have := bulk_mem (H := H) (d := d0) (l := [d0] ++ []) (by simp)
    omega
  obtain ⟨a, hE, _⟩ := errs_of_laid hL
  refine (SampleValid_all a ad0 n0 c0 vs0 ns0 zs0 W hE hn0 hm0 hroom).mono fun e W' ⟨he, bel⟩ => ?_
  subst he
  have e1 : Rows.sampleValidSpec.fn H ([d0] ++ []) = { results := [.lit (.bool true)], args := [d0] } := by simp [Rows.sampleValidSpec]
  refine ⟨_, rfl, (?_ : Rows.sampleValidSpec.post enc Tryd.prog Tryd.f5 false true false false _ _ _ _)⟩
  refine ⟨_, _, _, [], p, [], hW', ?_, ?_, ?_, bel.frame _, fun h => by cases h⟩
  · rw [e1]; exact trodAll_mk1 (shut_bool Tryd.underlying4 true)
  · rw [e1]; exact trodAll_mk1 (Below.trod Tryd.laidOut (by kernel_rfl) (of_decide_eq_true (by kernel_rfl)) h0 bel lt0)
  · rw [e1]; rfl

theorem sampleValid_holds : Rows.SampleValidUptoSaid :=
  OpenClaim.holds_of_cond 5 Tryd.f5 rfl rfl rfl rfl rfl rfl rfl ⟨rfl, rfl, rfl, rfl, rfl⟩ rfl rfl rfl rfl rfl (by kernel_rfl) Tryd.func5 (by kernel_rfl)
    (of_decide_eq_true (by kernel_rfl)) (by unfold Func.isWrapper; rw [if_neg (of_decide_eq_false (by kernel_rfl))]; exact ⟨rfl, rfl⟩)
    (fun os started H enc _ F => by rw [OpenClaim.pre_eq_preRow]; exact sampleValid_lifted os started H enc F)

theorem sampleValid_card : Rows.SampleValidUptoCardSaid :=
  Claim7.holds_tied_plain_at .later [] _ _ _ _ sampleValid_holds (fun _ h => by cases h) (by kernel_rfl) (fun _ h => by cases h) sampleValidUpto_row_tie rfl ⟨rfl, rfl⟩ (by kernel_rfl) rfl
    (fun f fn hf hfn => by
      obtain rfl : f = 5 := Option.some.inj ((show Tryd.prog.funcNamed "demon/demonlaw4.SampleValid" = some 5 by kernel_rfl).symm.trans hf) |>.symm
      obtain rfl : fn = Tryd.f5 := (Option.some.inj (Tryd.func5.symm.trans hfn)).symm
      exact ⟨by kernel_rfl, fun j t ht => by
        rw [Tryd.params5] at ht
        rcases j with _ | j
        · obtain rfl : t = 48 := by simpa using ht.symm
          exact (show Tryd.prog.wantsStandIn 48 = false by kernel_rfl)
        · simp at ht⟩)
    (by kernel_rfl)
#print axioms sampleValid_card
end Go.Proofs.YtobmngkaoahmiaaDoor
