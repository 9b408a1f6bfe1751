/- Proved: demonlaw1.LogsAdds, called with any two logarithms in whatever memory in which package api's eight errors and errors.errorType are as their initialisers lay them, returns true, and the arguments read as they did; the listed variables are tied to the program's text by the card. -/
import Derived.Test.YtiecbconcdncmabGreatDoorPackA
namespace Go.Proofs.YtiecbconcdncmabGreatDoor
open Go.ChangeShapes Go.WideShapes Go.ChangeAt Go.RowKit Go.Joins Go.Deep


theorem LogsAdds_all (da db : Int) (a b : Option Addr) (na nb ca cb : Nat) (pa qa pb qb : Nat → Int) (ea : Nat → Addr) (w : World) (h : Errs w ea) (ha : na ≤ maxLen) (hb : nb ≤ maxLen) (hla : LogAt w (.slice a na ca) na pa qa) (hlb : LogAt w (.slice b nb cb) nb pb qb) :
    Calls Tryz.prog 3 #[.agg #[.int .i64 da, .slice a na ca], .agg #[.int .i64 db, .slice b nb cb]] w fun e w' => e = .returned (.bool true) ∧ Below w.heap.size w w' := by
  by_cases hl : 30 < na ∨ 30 < nb
  · exact LogsAdds_long da db a b na nb ca cb w ha hb hl
  · obtain ⟨ta, rfl, hla⟩ := hla.listed'
    obtain ⟨tb, rfl, hlb⟩ := hlb.listed'
    by_cases h1 : OkLog da ta.length (pOf ta) (cOf ta)
    · by_cases h2 : OkLog db tb.length (pOf tb) (cOf tb)
      · obtain ⟨m, hm⟩ := Int.eq_ofNat_of_zero_le (show 0 ≤ da by have := h1.1; omega)
        obtain ⟨n, hn⟩ := Int.eq_ofNat_of_zero_le (show 0 ≤ db by have := h2.1; omega)
        subst hm
        subst hn
        exact LogsAdds_ok m n a b ca cb ta tb ea w h hla hlb h1 h2 (by omega) (by omega)
      · exact LogsAdds_bad2 da db a b _ _ ca cb _ _ _ _ ea w h hla hlb h1 h2 (by omega) (by omega)
    · exact LogsAdds_bad1 da db a b _ _ ca cb _ _ _ _ ea w h hla hlb h1 (by omega) (by omega)

set_option maxRecDepth 100000 in
theorem logsAdds_lifted (os : Os) (started : os.Started) (H : Type) (enc : TypeId × Value → H) :
    ReturnsInHanded {} Tryz.checked os 3 .any (fun w args => (Rows.logsAddsSpec.pre enc Tryz.prog Tryz.f3 [] false w args ∧ laidMetH Tryz.prog laidAll w) ∧ sizedMet enc Tryz.prog Tryz.f3 (OpenSpec.ofChange Rows.logsAddsSpec) false w args)
      (Rows.logsAddsSpec.post enc Tryz.prog Tryz.f3 false true false false) := by
  refine returnsInHanded_of_change_and (C := Tryz.checked) (X := fun w _ => laidMetH Tryz.prog laidAll w) (fun _ _ _ hh h => h.of_heap hh) Tryz.own started (by kernel_rfl) Tryz.func3
    (ChangeSpec.witness_shaped (enc := enc) (C := Tryz.checked) (os := os) (X := fun w _ => laidMetH Tryz.prog laidAll w) false (World.doorLaid Tryz.prog 231 os) #[.agg #[.int .i64 0, .slice none 0 0], .agg #[.int .i64 0, .slice none 0 0]] 8 rfl (World.shaped_of_RefB (by kernel_rfl) (by kernel_rfl)) (by kernel_rfl) (by kernel_rfl) (by kernel_rfl) (door_met os _)) ?_
  intro W base args ds gs before hval0 hW _ _ hL _
  have hval : ∀ (j : Nat) t v, Tryz.f3.params[j]? = some t → args[j]? = some v → Value.okWide Tryz.prog W .any base t v := hval0
  have hW' := hW
  obtain ⟨p, q, hA0, hV, rfl, hfz, hnd⟩ := hW
  have hA : DataW.TrodAll enc Tryz.prog W 0 (fun _ => true) true Tryz.f3.params.toList args.toList ds p := hA0
  rw [Tryz.params3] at hA hval
  obtain ⟨v0, v1, d0, d1, p0, p1, rfl, rfl, rfl, h0, h1⟩ := trodAll_two hA
  obtain ⟨rfl, rfl⟩ := trodVars_none hV
  have lt0 : ∀ x ∈ p0, x.block < W.heap.size := by obtain ⟨m, hm⟩ := h0; exact DataW.trod_lt m _ _ _ hm
  have lt1 : ∀ x ∈ p1, x.block < W.heap.size := by obtain ⟨m, hm⟩ := h1; exact DataW.trod_lt m _ _ _ hm
  obtain ⟨da, a0, n0, c0, pf0, cf0, rfl, hm0, hl0⟩ := open_log (hval 0 24 v0 rfl rfl) h0
  obtain ⟨db, a1, n1, c1, pf1, cf1, rfl, hm1, hl1⟩ := open_log (hval 1 24 v1 rfl rfl) h1
  obtain ⟨a, hE, _⟩ := errs_of_laid hL
  refine (LogsAdds_all da db a0 a1 n0 n1 c0 c1 pf0 cf0 pf1 cf1 a W hE hm0 hm1 hl0 hl1).mono fun e W' ⟨he, bel⟩ => ?_
  subst he
  have e1 : Rows.logsAddsSpec.fn H ([d0, d1] ++ []) = { results := [.lit (.bool true)], args := [d0, d1] } := by simp [Rows.logsAddsSpec]
  refine ⟨_, rfl, _, _, _, [], p0 ++ p1, [], hW', ?_, ?_, ?_, bel.frame _, fun h => by cases h⟩
  · rw [e1]; exact trodAll_mk1 (shut_bool Tryz.underlying4 true)
  · rw [e1]; exact trodAll_mk2 (Below.trod Tryz.laidOut (by kernel_rfl) (of_decide_eq_true (by kernel_rfl)) h0 bel lt0) (Below.trod Tryz.laidOut (by kernel_rfl) (of_decide_eq_true (by kernel_rfl)) h1 bel lt1)
  · rw [e1]; rfl

theorem logsAdds_holds : Rows.LogsAddsSaid :=
  OpenClaim.holds_of_wide 3 Tryz.f3 rfl rfl rfl rfl rfl rfl rfl ⟨rfl, rfl, rfl, rfl, rfl⟩ rfl rfl rfl rfl rfl (by kernel_rfl) Tryz.func3 (by kernel_rfl)
    (of_decide_eq_true (by kernel_rfl)) (by unfold Func.isWrapper; rw [if_neg (of_decide_eq_false (by kernel_rfl))]; exact ⟨rfl, rfl⟩)
    (fun os started H enc _ => logsAdds_lifted os started H enc)

theorem logsAdds_card : Rows.LogsAddsCardSaid :=
  Claim7.holds_tied_plain_at .later [] [.handle, .sentinel, .sentinel, .sentinel, .sentinel, .sentinel, .sentinel, .sentinel, .sentinel] true (true, "9e1540312751154b1fd240049ae8dc37106c9e2f4896790bcb650e93ac4e053e") true
    logsAdds_holds (fun _ h => by cases h) (by kernel_rfl) (fun _ h => by cases h) logsAdds_row_tie rfl ⟨rfl, rfl⟩ (by kernel_rfl) rfl
    (fun f fn hf hfn => by
      obtain rfl : f = 3 := Option.some.inj ((show Tryz.prog.funcNamed "demon/demonlaw1.LogsAdds" = some 3 by kernel_rfl).symm.trans hf) |>.symm
      obtain rfl : fn = Tryz.f3 := (Option.some.inj (Tryz.func3.symm.trans hfn)).symm
      exact ⟨by kernel_rfl, fun j t ht => by
        rw [Tryz.params3] at ht
        rcases j with _ | _ | j
        · obtain rfl : t = 24 := by simpa using ht.symm
          exact (show Tryz.prog.wantsStandIn 24 = false by kernel_rfl)
        · obtain rfl : t = 24 := by simpa using ht.symm
          exact (show Tryz.prog.wantsStandIn 24 = false by kernel_rfl)
        · simp at ht⟩)
    (by kernel_rfl)
#print axioms logsAdds_card
end Go.Proofs.YtiecbconcdncmabGreatDoor
