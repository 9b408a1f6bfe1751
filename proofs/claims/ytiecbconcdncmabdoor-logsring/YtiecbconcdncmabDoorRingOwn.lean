/- Proved: demonlaw1.LogsRing, called with any three logarithms in whatever memory in which package api's ErrBound and ErrShape are as their initialisers lay them, returns true, and the arguments read as they did; the listed variables are tied to the program's text by the card. -/
import Derived.Test.YtiecbconcdncmabDoorRingLaw
import Derived.Test.YtiecbconcdncmabDoorOpenLog
namespace Go.Proofs.YtiecbconcdncmabDoor
open Go.ChangeShapes Go.WideShapes Go.ChangeAt Go.RowKit Go.Joins Go.Deep

theorem LogAt.listed {w : World} {sv : Value} {n : Nat} {p c : Nat → Int} (h : LogAt w sv n p c) : ∃ t : List (Int × Int), n = t.length ∧ LogAt w sv t.length (pOf t) (cOf t) := by
  refine ⟨(List.range n).map fun i => (p i, c i), by simp, ?_⟩
  rcases h with ⟨ad, cap, h1, h2⟩ | ⟨b, o, cap, h1, h2, h3⟩
  · exact Or.inl ⟨ad, cap, h1, by simp [h2]⟩
  · refine Or.inr ⟨b, o, cap, by simpa using h1, by simpa using h2, fun i hi => ?_⟩
    have hi' : i < n := by simpa using hi
    have e1 : pOf ((List.range n).map fun i => (p i, c i)) i = p i := by simp [pOf, List.getD, hi']
    have e2 : cOf ((List.range n).map fun i => (p i, c i)) i = c i := by simp [cOf, List.getD, hi']
    rw [e1, e2]
    exact h3 i hi'

theorem LogsRing_all (da db dc : Int) (a b c : Option Addr) (na nb nc ca cb cc : Nat) (pa qa pb qb pc qc : Nat → Int) (ea : Nat → Addr) (w : World) (h : Errs w ea) (ha : na ≤ maxLen) (hb : nb ≤ maxLen) (hc : nc ≤ maxLen)
    (hla : LogAt w (.slice a na ca) na pa qa) (hlb : LogAt w (.slice b nb cb) nb pb qb) (hlc : LogAt w (.slice c nc cc) nc pc qc) :
    Calls Tryd.prog 4 #[.agg #[.int .i64 da, .slice a na ca], .agg #[.int .i64 db, .slice b nb cb], .agg #[.int .i64 dc, .slice c nc cc]] w fun e w' => e = .returned (.bool true) ∧ Below w.heap.size w w' := by
  by_cases hl : 30 < na ∨ 30 < nb ∨ 30 < nc
  · exact LogsRing_long da db dc a b c na nb nc ca cb cc w ha hb hc hl
  · obtain ⟨ta, rfl, hla⟩ := hla.listed
    obtain ⟨tb, rfl, hlb⟩ := hlb.listed
    obtain ⟨tc, rfl, hlc⟩ := hlc.listed
    exact LogsRing_short da db dc a b c ca cb cc ta tb tc ea w h hla hlb hlc (by omega) (by omega) (by omega)

set_option maxRecDepth 100000 in
theorem logsRing_lifted (os : Os) (started : os.Started) (H : Type) (enc : TypeId × Value → H) :
    ReturnsInHanded {} Tryd.checked os 4 .any (fun w args => (Rows.logsRingSpec.pre enc Tryd.prog Tryd.f4 [] false w args ∧ laidMetH Tryd.prog laidAll w) ∧ sizedMet enc Tryd.prog Tryd.f4 (OpenSpec.ofChange Rows.logsRingSpec) false w args)
      (Rows.logsRingSpec.post enc Tryd.prog Tryd.f4 false true false false) := by
  refine returnsInHanded_of_change_and (C := Tryd.checked) (X := fun w _ => laidMetH Tryd.prog laidAll w) (fun _ _ _ hh h => h.of_heap hh) Tryd.own started (by kernel_rfl) Tryd.func4
    (ChangeSpec.witness_shaped (enc := enc) (C := Tryd.checked) (os := os) (X := fun w _ => laidMetH Tryd.prog laidAll w) false (World.doorLaid Tryd.prog 47 os) #[.agg #[.int .i64 0, .slice none 0 0], .agg #[.int .i64 0, .slice none 0 0], .agg #[.int .i64 0, .slice none 0 0]] 8 rfl (World.shaped_of_RefB (by kernel_rfl) (by kernel_rfl)) (by kernel_rfl) (by kernel_rfl) (by kernel_rfl) (door_met os _)) ?_
  intro W base args ds gs before hval0 hW _ _ hL _
  have hval : ∀ (j : Nat) t v, Tryd.f4.params[j]? = some t → args[j]? = some v → Value.okWide Tryd.prog W .any base t v := hval0
  have hW' := hW
  obtain ⟨p, q, hA0, hV, rfl, hfz, hnd⟩ := hW
  have hA : DataW.TrodAll enc Tryd.prog W 0 (fun _ => true) true Tryd.f4.params.toList args.toList ds p := hA0
  rw [Tryd.params4] at hA hval
  obtain ⟨v0, v1, v2, d0, d1, d2, p0, p1, p2, rfl, rfl, rfl, h0, h1, h2⟩ := trodAll_three hA
  obtain ⟨rfl, rfl⟩ := trodVars_none hV
  have lt0 : ∀ x ∈ p0, x.block < W.heap.size := by obtain ⟨m, hm⟩ := h0; exact DataW.trod_lt m _ _ _ hm
  have lt1 : ∀ x ∈ p1, x.block < W.heap.size := by obtain ⟨m, hm⟩ := h1; exact DataW.trod_lt m _ _ _ hm
  have lt2 : ∀ x ∈ p2, x.block < W.heap.size := by obtain ⟨m, hm⟩ := h2; exact DataW.trod_lt m _ _ _ hm
  obtain ⟨da, a0, n0, c0, pf0, cf0, rfl, hm0, hl0⟩ := open_log (hval 0 25 v0 rfl rfl) h0
  obtain ⟨db, a1, n1, c1, pf1, cf1, rfl, hm1, hl1⟩ := open_log (hval 1 25 v1 rfl rfl) h1
  obtain ⟨dc, a2, n2, c2, pf2, cf2, rfl, hm2, hl2⟩ := open_log (hval 2 25 v2 rfl rfl) h2
  obtain ⟨a, hE⟩ := errs_of_laid hL
  refine (LogsRing_all da db dc a0 a1 a2 n0 n1 n2 c0 c1 c2 pf0 cf0 pf1 cf1 pf2 cf2 a W hE hm0 hm1 hm2 hl0 hl1 hl2).mono fun e W' ⟨he, bel⟩ => ?_
  subst he
  have e1 : Rows.logsRingSpec.fn H ([d0, d1, d2] ++ []) = { results := [.lit (.bool true)], args := [d0, d1, d2] } := by simp [Rows.logsRingSpec]
  refine ⟨_, rfl, _, _, _, [], p0 ++ (p1 ++ p2), [], hW', ?_, ?_, ?_, bel.frame _, fun h => by cases h⟩
  · rw [e1]; exact trodAll_mk1 (shut_bool Tryd.underlying4 true)
  · rw [e1]; exact trodAll_mk3 (Below.trod Tryd.laidOut (by kernel_rfl) (of_decide_eq_true (by kernel_rfl)) h0 bel lt0) (Below.trod Tryd.laidOut (by kernel_rfl) (of_decide_eq_true (by kernel_rfl)) h1 bel lt1) (Below.trod Tryd.laidOut (by kernel_rfl) (of_decide_eq_true (by kernel_rfl)) h2 bel lt2)
  · rw [e1]; rfl

theorem logsRing_holds : Rows.LogsRingSaid :=
  OpenClaim.holds_of_wide 4 Tryd.f4 rfl rfl rfl rfl rfl rfl rfl ⟨rfl, rfl, rfl, rfl, rfl⟩ rfl rfl rfl rfl rfl (by kernel_rfl) Tryd.func4 (by kernel_rfl)
    (of_decide_eq_true (by kernel_rfl)) (by unfold Func.isWrapper; rw [if_neg (of_decide_eq_false (by kernel_rfl))]; exact ⟨rfl, rfl⟩)
    (fun os started H enc _ => logsRing_lifted os started H enc)

theorem logsRing_card : Rows.LogsRingCardSaid :=
  Claim7.holds_tied_plain_at .later [] [.sentinel, .sentinel] true (true, "602ac81cd56bc5956523e44f18f80403c3b6562976fc86ad113ea1af45948c33") false
    logsRing_holds (fun _ h => by cases h) (by kernel_rfl) (fun _ h => by cases h) logsRing_row_tie rfl ⟨rfl, rfl⟩ (by kernel_rfl) rfl
    (fun f fn hf hfn => by
      obtain rfl : f = 4 := Option.some.inj ((show Tryd.prog.funcNamed "demon/demonlaw1.LogsRing" = some 4 by kernel_rfl).symm.trans hf) |>.symm
      obtain rfl : fn = Tryd.f4 := (Option.some.inj (Tryd.func4.symm.trans hfn)).symm
      exact ⟨by kernel_rfl, fun j t ht => by
        rw [Tryd.params4] at ht
        have h3 : t = 25 := by
          rcases j with _ | _ | _ | j
          · simpa using ht.symm
          · simpa using ht.symm
          · simpa using ht.symm
          · simp at ht
        subst h3
        exact (show Tryd.prog.wantsStandIn 25 = false by kernel_rfl)⟩)
    (by kernel_rfl)
#print axioms logsRing_card
end Go.Proofs.YtiecbconcdncmabDoor
