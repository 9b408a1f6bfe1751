/- Proved: demonlaw3.ChannelBehind, called with any two tables, all together of at most 1048576 values (a law's '..Upto' form), in whatever memory in which package api's eight errors and errors.errorType are as their initialisers lay them, returns true, and the arguments read as they did; the listed variables are tied to the program's text by the card. -/
import Derived.Test.YtnihclkaaglnjaaGreatDoorPackD
namespace Go.Proofs.YtnihclkaaglnjaaGreatDoor
open Go.ChangeShapes Go.WideShapes Go.ChangeAt Go.RowKit Go.Joins Go.Deep

theorem channelBehind_reads (os : Os) {H : Type} (enc : TypeId × Value → H) : ∃ places, DataW.whole enc Tryz.prog ((World.doorLaid Tryz.prog 168 os).forCall (fun _ _ => 0) ⟨#[], #[.slice none 0 0, .slice none 0 0], []⟩).memory Tryz.f3.params.toList Rows.channelBehindSpec.vars false (#[.slice none 0 0, .slice none 0 0] : Array Value).toList 8 = some ([.nil, .nil], [], places) := ⟨[], by kernel_rfl⟩

set_option maxRecDepth 100000 in
theorem channelBehind_lifted (os : Os) (started : os.Started) (H : Type) (enc : TypeId × Value → H) (F : Stop.Interp) :
    ReturnsInHanded {} Tryz.checked os 3 .any ((Rows.OpenSpec.upto Rows.channelBehindSpec).preRow enc Tryz.prog Tryz.f3 Rows.channelBehindUptoRow.domain false laidAll) (((Rows.OpenSpec.upto Rows.channelBehindSpec).at F).post enc Tryz.prog Tryz.f3 false true false false) := by
  obtain ⟨places, hx⟩ := channelBehind_reads os enc
  refine returnsInHanded_of_row (C := Tryz.checked) (s := Rows.OpenSpec.upto Rows.channelBehindSpec) Tryz.own started (by kernel_rfl) Tryz.func3
    (witness_row_atRef (enc := enc) (C := Tryz.checked) false (World.doorLaid Tryz.prog 168 os) #[.slice none 0 0, .slice none 0 0] rfl (by kernel_rfl) (by kernel_rfl) (by kernel_rfl)
      (OpenSpec.preRow_of_cond 8 hx (by kernel_rfl) (fun k hk => by cases hk; kernel_rfl) (by kernel_rfl) (door_met os _))) ?_
  intro W base args ds gs before hval0 hW _ hcond _ hL _ _
  have hval : ∀ (j : Nat) t v, Tryz.f3.params[j]? = some t → args[j]? = some v → Value.okWide Tryz.prog W .any base t v := hval0
  have hW' := hW
  obtain ⟨p, q, hA0, hV, rfl, hfz, hnd⟩ := hW
  have hA : DataW.TrodAll enc Tryz.prog W 0 (fun _ => true) true Tryz.f3.params.toList args.toList ds p := hA0
  rw [Tryz.params3] at hA hval
  obtain ⟨v0, v1, d0, d1, p0, p1, rfl, rfl, rfl, h0, h1⟩ := trodAll_two hA
  obtain ⟨rfl, rfl⟩ := trodVars_none hV
  have lt0 : ∀ x ∈ p0, x.block < W.heap.size := by obtain ⟨m, hm⟩ := h0; exact DataW.trod_lt m _ _ _ hm
  have lt1 : ∀ x ∈ p1, x.block < W.heap.size := by obtain ⟨m, hm⟩ := h1; exact DataW.trod_lt m _ _ _ hm
  obtain ⟨ad0, n0, c0, vs0, ns0, zs0, rfl, hm0, hn0, hs0⟩ := open_table (hval 0 22 v0 rfl rfl) h0
  obtain ⟨ad1, n1, c1, vs1, ns1, zs1, rfl, hm1, hn1, hs1⟩ := open_table (hval 1 22 v1 rfl rfl) h1
  have hbulk := bulk_bound (hcond _ rfl)
  have hroom0 : sumT ns0 n0 ≤ 2000000 := by
    have := bulk_mem (H := H) (d := d0) (l := [d0, d1] ++ []) (by simp)
    omega
  have hroom1 : sumT ns1 n1 ≤ 2000000 := by
    have := bulk_mem (H := H) (d := d1) (l := [d0, d1] ++ []) (by simp)
    omega
  obtain ⟨a, hE, _⟩ := errs_of_laid hL
  refine (ChannelBehind_all a ad0 n0 c0 vs0 ns0 zs0 ad1 n1 c1 vs1 ns1 zs1 W hE hn0 hm0 hn1 hm1 hroom0 hroom1).mono fun e W' ⟨he, bel⟩ => ?_
  subst he
  have e1 : Rows.channelBehindSpec.fn H ([d0, d1] ++ []) = { results := [.lit (.bool true)], args := [d0, d1] } := by simp [Rows.channelBehindSpec]
  refine ⟨_, rfl, (?_ : Rows.channelBehindSpec.post enc Tryz.prog Tryz.f3 false true false false _ _ _ _)⟩
  refine ⟨_, _, _, [], p0 ++ p1, [], hW', ?_, ?_, ?_, bel.frame _, fun h => by cases h⟩
  · rw [e1]; exact trodAll_mk1 (shut_bool Tryz.underlying4 true)
  · rw [e1]; exact trodAll_mk2 (Below.trod Tryz.laidOut (by kernel_rfl) (of_decide_eq_true (by kernel_rfl)) h0 bel lt0) (Below.trod Tryz.laidOut (by kernel_rfl) (of_decide_eq_true (by kernel_rfl)) h1 bel lt1)
  · rw [e1]; rfl

theorem channelBehind_holds : Rows.ChannelBehindUptoSaid :=
  OpenClaim.holds_of_cond 3 Tryz.f3 rfl rfl rfl rfl rfl rfl rfl ⟨rfl, rfl, rfl, rfl, rfl⟩ rfl rfl rfl rfl rfl (by kernel_rfl) Tryz.func3 (by kernel_rfl)
    (of_decide_eq_true (by kernel_rfl)) (by unfold Func.isWrapper; rw [if_neg (of_decide_eq_false (by kernel_rfl))]; exact ⟨rfl, rfl⟩)
    (fun os started H enc _ F => by rw [OpenClaim.pre_eq_preRow]; exact channelBehind_lifted os started H enc F)

theorem channelBehind_card : Rows.ChannelBehindUptoCardSaid :=
  Claim7.holds_tied_plain_at .later [] _ _ _ _ channelBehind_holds (fun _ h => by cases h) (by kernel_rfl) (fun _ h => by cases h) channelBehindUpto_row_tie rfl ⟨rfl, rfl⟩ (by kernel_rfl) rfl
    (fun f fn hf hfn => by
      obtain rfl : f = 3 := Option.some.inj ((show Tryz.prog.funcNamed "demon/demonlaw3.ChannelBehind" = some 3 by kernel_rfl).symm.trans hf) |>.symm
      obtain rfl : fn = Tryz.f3 := (Option.some.inj (Tryz.func3.symm.trans hfn)).symm
      exact ⟨by kernel_rfl, fun j t ht => by
        rw [Tryz.params3] at ht
        rcases j with _ | _ | j
        · obtain rfl : t = 22 := by simpa using ht.symm
          exact (show Tryz.prog.wantsStandIn 22 = false by kernel_rfl)
        · obtain rfl : t = 22 := by simpa using ht.symm
          exact (show Tryz.prog.wantsStandIn 22 = false by kernel_rfl)
        · simp at ht⟩)
    (by kernel_rfl)
#print axioms channelBehind_card
end Go.Proofs.YtnihclkaaglnjaaGreatDoor
