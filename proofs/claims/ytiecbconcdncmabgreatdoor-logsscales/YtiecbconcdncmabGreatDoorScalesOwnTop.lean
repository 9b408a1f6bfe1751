/- Proved: demonlaw1.LogsScales, called with any logarithm and any fraction in whatever memory in which package api's eight errors and errors.errorType are as their initialisers lay them, returns true, and the arguments read as they did; the listed variables are tied to the program's text by the card. -/
import Derived.Test.YtiecbconcdncmabGreatDoorPackB
namespace Go.Proofs.YtiecbconcdncmabGreatDoor
open Go.ChangeShapes Go.WideShapes Go.ChangeAt Go.RowKit Go.Joins Go.Deep


theorem Tryz.cellsFrac : Tryz.prog.cellsOf 45 = 2 := by kernel_rfl

set_option maxRecDepth 100000 in
/-- What a parameter of type api.Frac gives: two numbers. -/
theorem open_frac {H : Type} {enc : TypeId × Value → H} {W : World} {base : Nat} {v : Value} {d : DataW H} {p : List MemPlace} (hv : Value.okWide Tryz.prog W .any base 45 v)
    (h : DataW.Trod enc Tryz.prog W 0 (fun _ => true) true 45 v d p) : ∃ x y : Int, v = .agg #[.int .i64 x, .int .i64 y] := by
  obtain ⟨c0, c1, y0, y1, m, rfl, rfl, rfl, hy0, hy1⟩ := open_agg2 Tryz.underlying45 (by kernel_rfl) Tryz.cellsFrac hv h
  obtain ⟨x, e0, _, _⟩ := DataW.trod_int Tryz.underlying3 hy0
  obtain ⟨y, e1, _, _⟩ := DataW.trod_int Tryz.underlying3 hy1
  simp at e0 e1
  subst e0
  subst e1
  exact ⟨x, y, rfl⟩

theorem LogsScales_all (da fn fd : Int) (a : Option Addr) (na ca : Nat) (pa qa : Nat → Int) (ea : Nat → Addr) (w : World) (h : Errs w ea) (ha : na ≤ maxLen) (hla : LogAt w (.slice a na ca) na pa qa) :
    Calls Tryz.prog 4 #[.agg #[.int .i64 da, .slice a na ca], .agg #[.int .i64 fn, .int .i64 fd]] w fun e w' => e = .returned (.bool true) ∧ Below w.heap.size w w' := by
  by_cases hl : na ≤ 30
  · obtain ⟨ta, rfl, hla⟩ := hla.listed'
    by_cases h1 : OkLog da ta.length (pOf ta) (cOf ta)
    · by_cases h2 : fd < 1 ∨ 1073741824 < fd ∨ fn < -1073741824 ∨ 1073741824 < fn
      · exact LogsScales_far da fn fd a _ ca _ _ ea w h hla hl h1 h2
      · obtain ⟨m, hm⟩ := Int.eq_ofNat_of_zero_le (show 0 ≤ da by have := h1.1; omega)
        obtain ⟨n, hn⟩ := Int.eq_ofNat_of_zero_le (show 0 ≤ fd by omega)
        subst hm
        subst hn
        exact LogsScales_ok m n fn a ca ta ea w h hla h1 hl (by omega) (by omega) (by omega) (by omega)
    · exact LogsScales_bad da fn fd a _ ca _ _ ea w h hla hl h1
  · exact LogsScales_long da fn fd a na ca w ha hl

set_option maxRecDepth 100000 in
theorem logsScales_lifted (os : Os) (started : os.Started) (H : Type) (enc : TypeId × Value → H) :
    ReturnsInHanded {} Tryz.checked os 4 .any (fun w args => (Rows.logsScalesSpec.pre enc Tryz.prog Tryz.f4 [] false w args ∧ laidMetH Tryz.prog laidAll w) ∧ sizedMet enc Tryz.prog Tryz.f4 (OpenSpec.ofChange Rows.logsScalesSpec) false w args)
      (Rows.logsScalesSpec.post enc Tryz.prog Tryz.f4 false true false false) := by
  refine returnsInHanded_of_change_and (C := Tryz.checked) (X := fun w _ => laidMetH Tryz.prog laidAll w) (fun _ _ _ hh h => h.of_heap hh) Tryz.own started (by kernel_rfl) Tryz.func4
    (ChangeSpec.witness_shaped (enc := enc) (C := Tryz.checked) (os := os) (X := fun w _ => laidMetH Tryz.prog laidAll w) false (World.doorLaid Tryz.prog 231 os) #[.agg #[.int .i64 0, .slice none 0 0], .agg #[.int .i64 0, .int .i64 0]] 8 rfl (World.shaped_of_RefB (by kernel_rfl) (by kernel_rfl)) (by kernel_rfl) (by kernel_rfl) (by kernel_rfl) (door_met os _)) ?_
  intro W base args ds gs before hval0 hW _ _ hL _
  have hval : ∀ (j : Nat) t v, Tryz.f4.params[j]? = some t → args[j]? = some v → Value.okWide Tryz.prog W .any base t v := hval0
  have hW' := hW
  obtain ⟨p, q, hA0, hV, rfl, hfz, hnd⟩ := hW
  have hA : DataW.TrodAll enc Tryz.prog W 0 (fun _ => true) true Tryz.f4.params.toList args.toList ds p := hA0
  rw [Tryz.params4] at hA hval
  obtain ⟨v0, v1, d0, d1, p0, p1, rfl, rfl, rfl, h0, h1⟩ := trodAll_two hA
  obtain ⟨rfl, rfl⟩ := trodVars_none hV
  have lt0 : ∀ x ∈ p0, x.block < W.heap.size := by obtain ⟨m, hm⟩ := h0; exact DataW.trod_lt m _ _ _ hm
  have lt1 : ∀ x ∈ p1, x.block < W.heap.size := by obtain ⟨m, hm⟩ := h1; exact DataW.trod_lt m _ _ _ hm
  obtain ⟨da, a0, n0, c0, pf0, cf0, rfl, hm0, hl0⟩ := open_log (hval 0 24 v0 rfl rfl) h0
  obtain ⟨x, y, rfl⟩ := open_frac (hval 1 45 v1 rfl rfl) h1
  obtain ⟨a, hE, _⟩ := errs_of_laid hL
  refine (LogsScales_all da x y a0 n0 c0 pf0 cf0 a W hE hm0 hl0).mono fun e W' ⟨he, bel⟩ => ?_
  subst he
  have e1 : Rows.logsScalesSpec.fn H ([d0, d1] ++ []) = { results := [.lit (.bool true)], args := [d0, d1] } := by simp [Rows.logsScalesSpec]
  refine ⟨_, rfl, _, _, _, [], p0 ++ p1, [], hW', ?_, ?_, ?_, bel.frame _, fun h => by cases h⟩
  · rw [e1]; exact trodAll_mk1 (shut_bool Tryz.underlying4 true)
  · rw [e1]; exact trodAll_mk2 (Below.trod Tryz.laidOut (by kernel_rfl) (of_decide_eq_true (by kernel_rfl)) h0 bel lt0) (Below.trod Tryz.laidOut (by kernel_rfl) (of_decide_eq_true (by kernel_rfl)) h1 bel lt1)
  · rw [e1]; rfl

theorem logsScales_holds : Rows.LogsScalesSaid :=
  OpenClaim.holds_of_wide 4 Tryz.f4 rfl rfl rfl rfl rfl rfl rfl ⟨rfl, rfl, rfl, rfl, rfl⟩ rfl rfl rfl rfl rfl (by kernel_rfl) Tryz.func4 (by kernel_rfl)
    (of_decide_eq_true (by kernel_rfl)) (by unfold Func.isWrapper; rw [if_neg (of_decide_eq_false (by kernel_rfl))]; exact ⟨rfl, rfl⟩)
    (fun os started H enc _ => logsScales_lifted os started H enc)

theorem logsScales_card : Rows.LogsScalesCardSaid :=
  Claim7.holds_tied_plain_at .later [] [.handle, .sentinel, .sentinel, .sentinel, .sentinel, .sentinel, .sentinel, .sentinel, .sentinel] true (true, "9e1540312751154b1fd240049ae8dc37106c9e2f4896790bcb650e93ac4e053e") true
    logsScales_holds (fun _ h => by cases h) (by kernel_rfl) (fun _ h => by cases h) logsScales_row_tie rfl ⟨rfl, rfl⟩ (by kernel_rfl) rfl
    (fun f fn hf hfn => by
      obtain rfl : f = 4 := Option.some.inj ((show Tryz.prog.funcNamed "demon/demonlaw1.LogsScales" = some 4 by kernel_rfl).symm.trans hf) |>.symm
      obtain rfl : fn = Tryz.f4 := (Option.some.inj (Tryz.func4.symm.trans hfn)).symm
      exact ⟨by kernel_rfl, fun j t ht => by
        rw [Tryz.params4] at ht
        rcases j with _ | _ | j
        · obtain rfl : t = 24 := by simpa using ht.symm
          exact (show Tryz.prog.wantsStandIn 24 = false by kernel_rfl)
        · obtain rfl : t = 45 := by simpa using ht.symm
          exact (show Tryz.prog.wantsStandIn 45 = false by kernel_rfl)
        · simp at ht⟩)
    (by kernel_rfl)
#print axioms logsScales_card
end Go.Proofs.YtiecbconcdncmabGreatDoor
