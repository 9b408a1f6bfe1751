/- The document's Bits and WordsError; the law's some and strs. -/
import Derived.Test.YtcigmihfannmjaaGreatDoorWordsP
import Derived.Test.YtcigmihfannmjaaGreatDoorCopy
namespace Go.Proofs.YtcigmihfannmjaaGreatDoor
open Go.RowKit

theorem ret_nat4 {a b : Nat} (h : b = a) : Ending.returned (.int .i64 (a : Int)) = .returned (.int .i64 (b : Int)) := by rw [h]
theorem bit_at {s : ByteArray} {i : Nat} (h : i < s.size) (hb : bitB s = true) : (s[i]'h) = 48 ∨ (s[i]'h) = 49 := by
  have h1 : (s[i]'h) ∈ s.data.toList := by
    have h2 : i < s.data.size := h
    rw [Array.mem_toList_iff]
    exact Array.getElem_mem h2
  have := List.all_eq_true.1 hb _ h1
  simpa using this
theorem bit_all {s : ByteArray} (h : ∀ i (hi : i < s.size), (s[i]'hi) = 48 ∨ (s[i]'hi) = 49) : bitB s = true := by
  refine List.all_eq_true.2 fun x hx => ?_
  rw [Array.mem_toList_iff] at hx
  obtain ⟨i, hi, rfl⟩ := Array.getElem_of_mem hx
  have := h i hi
  have e : s.data[i] = (s[i]'hi) := rfl
  rw [e]
  simpa using this
set_option maxRecDepth 100000 in
theorem Bits_any (s : ByteArray) (w : World) (hs : s.size ≤ 9223372036854775807) : Calls Tryz.prog 21 #[.string s] w fun e w' => e = .returned (.bool (bitB s)) ∧ Below w.heap.size w w' := by
  go_enter Tryz.func21, Tryz.ntmps21
  go_wp2_with fail
  go_loopw [3] (fun t wr => ∃ k : Nat, k ≤ s.size ∧ t = .int .i64 k ∧ Hid (Below w.heap.size w wr) ∧ Hid (∀ i (hi : i < s.size), i < k → (s[i]'hi) = 48 ∨ (s[i]'hi) = 49)) (fun t _ => s.size - (intOf t).toNat)
  case atStart => exact ⟨0, Nat.zero_le _, rfl, Below.refl _ _, fun i _ h => by omega⟩
  case round =>
    obtain ⟨k, hk, rfl, HB, HI⟩ := hrel
    have hk0 : (0 : Int) ≤ (k : Int) := by omega
    rcases Nat.lt_or_ge k s.size with h1 | h1
    · have hkI : (k : Int) < (s.size : Int) := by omega
      by_cases hx : (s[k]'h1) = 48 ∨ (s[k]'h1) = 49
      · have HI1 : Hid (∀ i (hi : i < s.size), i < k + 1 → (s[i]'hi) = 48 ∨ (s[i]'hi) = 49) := fun i hi hik => by
          rcases Nat.lt_or_ge i k with h2 | h2
          · exact HI.out i hi h2
          · obtain rfl : i = k := by omega
            exact hx
        rcases hx with hx | hx
        · have hn : ((s[k]'h1).toNat : Int) = 48 := by rw [hx]; rfl
          go_wp2_with fail
          exact ⟨⟨k + 1, h1, by go_num, HB, HI1⟩, by simp [intOf]; omega⟩
        · have hn : ((s[k]'h1).toNat : Int) = 49 := by rw [hx]; rfl
          go_wp2_with fail
          exact ⟨⟨k + 1, h1, by go_num, HB, HI1⟩, by simp [intOf]; omega⟩
      · have HF : Hid (bitB s = false) := by
          show _ = _
          cases hb : bitB s with
          | false => rfl
          | true => exact absurd (bit_at h1 hb) hx
        have hn1 : ¬ (((s[k]'h1).toNat : Int) = 48) := fun h => hx (Or.inl (UInt8.toNat_inj.1 (by show _ = 48; omega)))
        have hn2 : ¬ (((s[k]'h1).toNat : Int) = 49) := fun h => hx (Or.inr (UInt8.toNat_inj.1 (by show _ = 49; omega)))
        have hm1 : (((s[k]'h1).toNat : Int) != 48) = true := by rw [bne_iff_ne]; exact hn1
        have hm2 : (((s[k]'h1).toNat : Int) != 49) = true := by rw [bne_iff_ne]; exact hn2
        clear hx hn1 hn2
        go_wp2_with fail
        go_ret
        exact ⟨ret_bool2 (by rw [HF.out] <;> rfl), HB.out⟩
    · obtain rfl : s.size = k := by omega
      have HT : Hid (bitB s = true) := bit_all fun i hi => HI.out i hi hi
      go_wp2_with fail
      go_ret
      exact ⟨ret_bool2 (by rw [HT.out] <;> rfl), HB.out⟩
set_option maxRecDepth 100000 in
set_option maxHeartbeats 4000000 in
theorem WordsError_any (ad : Option Addr) (cap n : Nat) (f : Nat → ByteArray) (w : World) (h : TxtAt w ad n f) (hn : n ≤ 1000000) (hs : ∀ i, i < n → (f i).size ≤ 9223372036854775807) :
    Calls Tryz.prog 8 #[.slice ad n cap] w fun e w' => e = .returned (.int .i64 (wdErr n f : Nat)) ∧ Below w.heap.size w w' := by
  have HTX := Hid.mk' (fun (W : World) (hb : Below w.heap.size w W) => h.later hb)
  have HS := Hid.mk' hs
  clear h hs
  have hcase : ((n : Int) = 0 ∨ ¬ ((n : Int) = 0)) ∧ ((16 : Int) < (n : Int) ∨ (n : Int) ≤ 16) := by omega
  have HLN : Hid (∀ L : Bool, (decide (16 < n) || anyB lgP f n) = L → ((16 < n ∨ anyB lgP f n = true) ↔ L = true)) := fun L hL => by rw [← hL]; simp
  have HEN : Hid (∀ E : Bool, (decide (n = 0) || anyB emP f n) = E → ((n = 0 ∨ anyB emP f n = true) ↔ E = true)) := fun E hE => by rw [← hE]; simp
  rcases hcase with ⟨hz | hz, h16 | h16⟩
  · omega
  all_goals
    have hzb : ((n : Int) == 0) = decide (n = 0) := by
      by_cases h0 : n = 0
      · simp [h0]
      · rw [decide_eq_false h0, beq_eq_false_iff_ne]; omega
    have HD16 : Hid (decide (16 < n) = decide ((16 : Int) < (n : Int))) := by
      show _ = _
      by_cases h0 : 16 < n
      · rw [decide_eq_true h0, decide_eq_true (by omega)]
      · rw [decide_eq_false h0, decide_eq_false (by omega)]
    have HD0 : Hid (decide (n = 0) = ((n : Int) == 0)) := hzb.symm
    clear hzb
    go_enter Tryz.func8, Tryz.ntmps8
    go_wp2_with fail
    go_loopw [3, 4, 5, 6] (fun lg ot em t wr => ∃ (k : Nat) (L O E : Bool), k ≤ n ∧ t = .int .i64 k ∧ lg = .bool L ∧ ot = .bool O ∧ em = .bool E ∧ Hid ((decide (16 < n) || anyB lgP f k) = L) ∧ Hid (anyB otP f k = O) ∧ Hid ((decide (n = 0) || anyB emP f k) = E) ∧ Hid (Below w.heap.size w wr)) (fun _ _ _ t _ => n - (intOf t).toNat)
    case atStart => exact ⟨0, _, _, _, Nat.zero_le _, rfl, rfl, rfl, rfl, by show _ = _; rw [HD16.out]; simp [anyB, h16], rfl, by show _ = _; rw [HD0.out]; simp [anyB, hz], Below.refl _ _⟩
    case round =>
      obtain ⟨k, L, O, E, hk, rfl, rfl, rfl, rfl, HL, HO, HM, HB⟩ := hrel
      have hk0 : (0 : Int) ≤ (k : Int) := by omega
      rcases Nat.lt_or_ge k n with h1 | h1
      · have hkI : (k : Int) < (n : Int) := by omega
        obtain ⟨b, o, rfl, y0⟩ := HTX.out _ HB.out k h1
        have HBT := Hid.mk' (fun (W : World) => Bits_any (f k) W (HS.out k h1))
        have HY : Hid (∀ W, Below wr.heap.size wr W → W.cell? ⟨b, o + k, none⟩ = some (.string (f k))) := fun W hb => by rw [hb.cell (cell_lt y0)]; exact y0
        have HL1 : Hid ((decide (16 < n) || anyB lgP f (k + 1)) = (L || decide ((64 : Int) < ((f k).size : Int)))) := by
          show _ = _
          rw [anyB, ← Bool.or_assoc, HL.out, lgP]
          congr 1
          by_cases h0 : 64 < (f k).size
          · rw [decide_eq_true h0, decide_eq_true (by omega)]
          · rw [decide_eq_false h0, decide_eq_false (by omega)]
        have HO1 : Hid (anyB otP f (k + 1) = (O || !bitB (f k))) := by show _ = _; rw [anyB, HO.out, otP]
        have HM1 : Hid ((decide (n = 0) || anyB emP f (k + 1)) = (E || (f k).toList.isEmpty)) := by show _ = _; rw [anyB, ← Bool.or_assoc, HM.out, emP]
        generalize bitB (f k) = bt at HBT HO1
        generalize f k = x at *
        clear HL HO HM
        cases L <;> cases O <;> cases E
        all_goals (try (exfalso; omega))
        all_goals
          go_wp2_with fail
          refine (HBT.out wr).mono ?_
          rintro e w1 ⟨rfl, hb1⟩
          have y1 := HY.out w1 hb1
          have HB1 := Hid.mk' (below_chain HB.out hb1)
          clear hb1
          go_wp2_with fail
          exact ⟨⟨k + 1, _, _, _, h1, by go_num, rfl, rfl, rfl, by show _ = _; rw [HL1.out]; simp, by show _ = _; rw [HO1.out]; simp, by show _ = _; rw [HM1.out]; simp, HB1⟩, by simp [intOf]; omega⟩
      · obtain rfl : n = k := by omega
        have hL := HLN.out L HL.out
        have hM := HEN.out E HM.out
        have HV : Hid (wdErr n f = if L = true then 2 else if O = true then 1 else if E = true then 3 else 0) := by
          show _ = _
          unfold wdErr
          rw [HO.out]
          simp only [hL, hM]
        clear hL hM HLN HEN HL HO HM
        cases L <;> cases O <;> cases E
        all_goals
          go_wp2_with fail
          go_ret
          exact ⟨ret_nat4 (by rw [HV.out]; rfl), HB.out⟩
def SomeAt (e : Ending) (n : Nat) : Prop := ∃ r : Bool, e = .returned (.bool r) ∧ (r = true → n ≤ 40)
theorem SomeAt.of {e : Ending} {n : Nat} (r : Bool) (h : e = .returned (.bool r)) (h2 : r = true → n ≤ 40) : SomeAt e n := by
  unfold SomeAt; exact ⟨r, h, h2⟩
set_option maxRecDepth 100000 in
theorem some_any (ad : Option Addr) (cap n : Nat) (f : Nat → ByteArray) (w : World) (h : TxtAt w ad n f) (hn : n ≤ maxLen) :
    Calls Tryz.prog 7 #[.slice ad n cap] w fun e w' => SomeAt e n ∧ w' = w := by
  have HTX := Hid.mk' h
  unfold maxLen at hn
  clear h
  go_enter Tryz.func7, Tryz.ntmps7
  go_wp2_with fail
  go_loopw [3, 4] (fun sm t wr => ∃ (k : Nat) (x : Int), k ≤ n ∧ t = .int .i64 k ∧ sm = .int .i64 x ∧ wr = w) (fun _ t _ => n - (intOf t).toNat)
  case atStart => exact ⟨0, 0, Nat.zero_le _, rfl, rfl, rfl⟩
  case round =>
    obtain ⟨k, x, hk, rfl, rfl, hwr⟩ := hrel
    rw [hwr]
    clear hwr
    have hk0 : (0 : Int) ≤ (k : Int) := by omega
    rcases Nat.lt_or_ge k n with h1 | h1
    · have hkI : (k : Int) < (n : Int) := by omega
      obtain ⟨b, o, rfl, y0⟩ := HTX.out k h1
      generalize f k = y at *
      go_wp2_with fail
      exact ⟨⟨k + 1, _, h1, by go_num, rfl, trivial⟩, by simp [intOf]; omega⟩
    · obtain rfl : n = k := by omega
      by_cases h40 : n ≤ 40
      · have h40I : (n : Int) ≤ 40 := by omega
        have HN : Hid (n ≤ 40) := h40
        go_wp2_with fail
        go_ret
        exact ⟨SomeAt.of _ rfl (fun _ => HN.out), rfl⟩
      · have h40I : 40 < (n : Int) := by omega
        go_wp2_with fail
        go_ret
        exact ⟨SomeAt.of false rfl (fun h => absurd h (by decide)), rfl⟩
/-- Texts as cells. -/
def txtCells (f : Nat → ByteArray) (n : Nat) : List Value := (List.range n).map fun i => .string (f i)
theorem txtCells_length (f : Nat → ByteArray) (n : Nat) : (txtCells f n).length = n := by simp [txtCells]
theorem txtCells_at (f : Nat → ByteArray) (n i : Nat) (h : i < n) : (txtCells f n)[i]? = some (.string (f i)) := by simp [txtCells, h]
theorem txtCells_news {w : World} {b o n : Nat} {f : Nat → ByteArray} (h : TextsAt w b o n f) (j : Nat) (u : Value) (hu : (txtCells f n)[j]? = some u) : w.cell? ((⟨b, o, none⟩ : Addr).add j) = some u := by
  have hl := txtCells_length f n
  have hj : j < n := by
    rcases Nat.lt_or_ge j n with h' | h'
    · exact h'
    · rw [List.getElem?_eq_none (by omega)] at hu; cases hu
  rw [txtCells_at f n j hj] at hu
  rw [← hu, add_plain]
  exact h j hj
theorem append_zeroS (w : World) (ty : TypeId) (ad : Option Addr) (cap : Nat) : (Builtin.append_ #[22, 22] ty #[.slice none 0 0, .slice ad 0 cap]).run Tryz.prog w = .ok (.slice none 0 0) w := by
  obtain ⟨i, hi, hi2⟩ := Option.map_eq_some_iff.1 Tryz.infoStr
  refine run_append_nothing w _ _ ty 9 i Tryz.underlying22 hi none 0 0 (Nat.le_refl _) _ ?_
  cases ad with
  | none => exact Src.ofNil w Tryz.underlying22 cap
  | some a => exact Src.ofSlice w Tryz.underlying22 a 0 cap [] (by simp) (fun j u h => by simp at h) (fun u h => by simp at h)
theorem wpList_append_zeroS {w : World} {ops : Array Oper} {rest : List Oper} {o : Oper} {a : Act} {Q : Exit → Act → World → Prop} (hgd : o.guard = none) (s x : Operand)
    (ho : o.op = .call { callee := .builtin .append, args := #[s, x], argTypes := #[22, 22] })
    (ad : Option Addr) (cap : Nat) (hs : a.eval s = .slice none 0 0) (hx : a.eval x = .slice ad 0 cap)
    (h : wpList Tryz.prog ops Q rest (a.put o.dst (.slice none 0 0)) w) : wpList Tryz.prog ops Q (o :: rest) a w := by
  refine wpList_plain hgd fun K hK => ?_
  have hrun := append_zeroS w o.type ad cap
  unfold Oper.wp
  simp [execOp, ho, resolve, invoke, builtin, hs, hx, hrun, Result.andThen]
  exact hK _ _ h
set_option maxRecDepth 100000 in
set_option maxHeartbeats 1000000 in
theorem strs_any (ad : Option Addr) (cap n : Nat) (f : Nat → ByteArray) (w : World) (h : TxtAt w ad n f) (hn : n ≤ 400) :
    Calls Tryz.prog 10 #[.slice ad n cap] w fun e w' => ∃ ad' cap', e = .returned (.slice ad' n cap') ∧ TxtAt w' ad' n f ∧ Below w.heap.size w w' := by
  rcases Nat.eq_zero_or_pos n with h0 | h0
  · subst h0
    go_enter Tryz.func10, Tryz.ntmps10
    go_wp2_with (at_builtin; go_must (refine wpList_append_zeroS rfl _ _ rfl ad cap rfl rfl ?_))
    go_ret
    exact ⟨none, 0, rfl, fun i hi => by omega, Below.refl _ _⟩
  · obtain ⟨b, o, rfl, -⟩ := h 0 h0
    have hr : TextsAt w b o n f := fun i hi => by
      obtain ⟨b', o', hbo', y1⟩ := h i hi
      simp only [Option.some.injEq, Addr.mk.injEq, and_true] at hbo'
      obtain ⟨rfl, rfl⟩ := hbo'
      exact y1
    obtain ⟨i, hi, hi2⟩ := Option.map_eq_some_iff.1 Tryz.infoStr
    obtain ⟨hz, hsz, hby⟩ : i.zero = some (.string ⟨#[]⟩) ∧ i.size = 1 ∧ i.bytes = 16 := by simpa using hi2
    have HR := Hid.mk' hr
    have HI : Hid (Tryz.prog.info? 9 = some i) := hi
    have HZ : Hid (i.zero = some (.string ⟨#[]⟩)) := hz
    have HS : Hid (i.size = 1) := hsz
    have HY : Hid (i.bytes = 16) := hby
    have HC : Hid (∀ u, u ∈ txtCells f n → u.oneCell' = true) := fun u hu => by
      unfold txtCells at hu
      obtain ⟨j, _, rfl⟩ := List.mem_map.1 hu
      rfl
    have HL : Hid ((txtCells f n).length = n * 1) := by show _ = _; rw [txtCells_length, Nat.mul_one]
    clear hr hi2 hi hz hsz hby h
    go_enter Tryz.func10, Tryz.ntmps10
    go_wp2_with (at_builtin; go_must (refine wpList_append_lies _ rfl _ _ _ rfl w.heap.size 9 i _ 1 16 Tryz.underlying22 HI.out HZ.out HS.out HY.out rfl (by omega) (.slice none 0 0) 0 [] rfl ⟨rfl, Or.inl ⟨rfl, rfl⟩⟩ ⟨b, o, none⟩ n cap (txtCells f n) rfl HL.out (fun j u hu => txtCells_news HR.out j u hu) HC.out h0 (by unfold maxLen; omega) (by omega) (by simp) _ rfl ?_; intro g cap' w1 hown hgrow hat hlt; have HOWN := Hid.mk' hown; have HG := Hid.mk' hgrow; clear hown hgrow hat))
    go_ret
    refine ⟨some ⟨g, 0, none⟩, cap', by simp, fun i hi => ⟨g, 0, rfl, ?_⟩, (Below.refl _ _).grown HG.out (Nat.le_refl _) (fun k hk => by cases hk)⟩
    obtain ⟨_, hr⟩ := HOWN.out
    rcases hr with ⟨hx, _⟩ | ⟨g', cap2, cur, hv, _, hh, _, _, hs, ht⟩
    · cases hx
    · obtain ⟨rfl, rfl⟩ : g = g' ∧ cap' = cap2 := by simpa using hv
      have e1 := txtCells_at f n i hi
      rw [show (txtCells f n) = cur.toList.take ((0 + n) * 1) by rw [ht]; simp, List.getElem?_take_of_lt (by omega)] at e1
      rw [← e1]
      simp [World.cell?, hh]
end Go.Proofs.YtcigmihfannmjaaGreatDoor
