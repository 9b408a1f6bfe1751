/- The program's checkCopies. -/
import Derived.Test.YtiocbnjdmceadaaDoorUnMath
import Derived.Test.YtiocbnjdmceadaaDoorErrZ
import Derived.Test.YtiocbnjdmceadaaDoorLzRow
import Derived.Deep.RegionHeld3
namespace Go.Proofs.YtiocbnjdmceadaaDoor
open Go.RowKit

/-- Copies in memory, whatever their numbers are. -/
def CpiAt (w : World) (v : Value) (l : List CpI) : Prop := ∃ ad cap, v = .slice ad l.length cap ∧ ∀ i c, l[i]? = some c → ∃ b o, ad = some ⟨b, o, none⟩ ∧ w.cell? ⟨b, o + i * 4, none⟩ = some (.int .i64 c.back) ∧ w.cell? ⟨b, o + i * 4 + 1, none⟩ = some (.int .i64 c.len) ∧ w.cell? ⟨b, o + i * 4 + 2, none⟩ = some (.int .u8 (c.next.toNat : Int)) ∧ w.cell? ⟨b, o + i * 4 + 3, none⟩ = some (.bool c.last)
theorem CpiAt.later {w w' : World} {v : Value} {l : List CpI} (h : CpiAt w v l) (hb : Below w.heap.size w w') : CpiAt w' v l := by
  obtain ⟨ad, cap, hv, hc⟩ := h
  refine ⟨ad, cap, hv, fun i c hi => ?_⟩
  obtain ⟨b, o, ha, h0, h1, h2, h3⟩ := hc i c hi
  refine ⟨b, o, ha, ?_, ?_, ?_, ?_⟩
  · rw [hb.cell (cell_lt h0)]; exact h0
  · rw [hb.cell (cell_lt h1)]; exact h1
  · rw [hb.cell (cell_lt h2)]; exact h2
  · rw [hb.cell (cell_lt h3)]; exact h3
theorem CpiAt.form {w : World} {v : Value} {l : List CpI} (h : CpiAt w v l) : ∃ ad cap, v = .slice ad l.length cap := let ⟨ad, cap, hv, _⟩ := h; ⟨ad, cap, hv⟩
theorem CpiAt.at {w : World} {ad : Option Addr} {n cap : Nat} {l : List CpI} (h : CpiAt w (.slice ad n cap) l) {i : Nat} {c : CpI} (hi : l[i]? = some c) : ∃ b o, ad = some ⟨b, o, none⟩ ∧ w.cell? ⟨b, o + i * 4, none⟩ = some (.int .i64 c.back) ∧ w.cell? ⟨b, o + i * 4 + 1, none⟩ = some (.int .i64 c.len) ∧ w.cell? ⟨b, o + i * 4 + 2, none⟩ = some (.int .u8 (c.next.toNat : Int)) ∧ w.cell? ⟨b, o + i * 4 + 3, none⟩ = some (.bool c.last) := by
  obtain ⟨ad', cap', hv, hc⟩ := h
  obtain ⟨rfl, _, rfl⟩ : ad = ad' ∧ n = l.length ∧ cap = cap' := by simpa using hv
  exact hc i c hi
/-- What checkCopies says. -/
def chkE (l : List CpI) : Nat × Int :=
  if 4000 < l.length then (2, -1) else if l.any (fun c => decide (4000 < c.len)) = true then (2, -1) else
    match scanC l.length l 0 0 with
    | .inl i => (3, (i : Int))
    | .inr _ => (0, -1)

set_option maxRecDepth 100000 in
set_option maxHeartbeats 4000000 in
theorem checkCopies_any (a : Nat → Addr) (v : Value) (l : List CpI) (w : World) (hE : Errs w a) (h : CpiAt w v l) (hn : l.length ≤ 1000000) :
    Calls Tryd.prog 27 #[v] w fun e w' => ∃ (m : Nat) (x : Value), e = .returned (.tuple #[.int .i64 (m : Int), x]) ∧ ErrIs a w' x (chkE l) ∧ ((chkE l).1 = 0 → scanC l.length l 0 0 = .inr m) ∧ Below w.heap.size w w' := by
  obtain ⟨ad, cap, rfl⟩ := h.form
  have HL := Hid.mk' (fun (W : World) (hb : Below w.heap.size w W) => h.later hb)
  have HE1 := Hid.mk' (fun (W : World) (hb : Below w.heap.size w W) => (hE.below hb).c1)
  have HE2 := Hid.mk' (fun (W : World) (hb : Below w.heap.size w W) => (hE.below hb).c2)
  clear h hE
  by_cases h4 : 4000 < l.length
  · have h4I : (4000 : Int) < (l.length : Int) := by omega
    have HC : Hid (chkE l = (2, -1)) := by show _ = _; unfold chkE; rw [if_pos h4]
    have e1 := HE1.out w (Below.refl _ _)
    go_enter Tryd.func27, Tryd.ntmps27
    go_wp2_with fail
    go_quiet (fail)
    go_wp2_with fail
    go_ret2
    exact ⟨0, _, rfl, by rw [HC.out]; exact Or.inl ⟨rfl, rfl, by decide⟩, (fun h => by rw [HC.out] at h; cases h), below_drewN (Below.refl _ _) _⟩
  · have h4I : ¬ (4000 : Int) < (l.length : Int) := by omega
    have HC : Hid (chkE l = if l.any (fun c => decide (4000 < c.len)) = true then (2, -1) else match scanC l.length l 0 0 with | .inl i => (3, (i : Int)) | .inr _ => (0, -1)) := by show _ = _; unfold chkE; rw [if_neg h4]
    go_enter Tryd.func27, Tryd.ntmps27
    go_wp2_with fail
    go_loopw [15] (fun t wr => ∃ k : Nat, k ≤ l.length ∧ t = .int .i64 (k : Int) ∧ Hid (Below w.heap.size w wr) ∧ Hid (∀ j c, j < k → l[j]? = some c → ¬ 4000 < c.len)) (fun t _ => l.length - (intOf t).toNat)
    case atStart => exact ⟨0, Nat.zero_le _, rfl, Below.refl _ _, fun j c h => by omega⟩
    case round =>
      obtain ⟨k, hk, rfl, HB, HK⟩ := hrel
      rcases Nat.lt_or_ge k l.length with h1 | h1
      · obtain ⟨c, hc⟩ : ∃ c, l[k]? = some c := ⟨_, List.getElem?_eq_getElem h1⟩
        obtain ⟨b, o, rfl, x0, x1, x2, x3⟩ := (HL.out wr HB.out).at hc
        have hle := HB.out.size
        have hkI : (k : Int) < (l.length : Int) := by omega
        have hk0 : (0 : Int) ≤ (k : Int) := by omega
        by_cases h2 : 4000 < c.len
        · have HF : Hid (chkE l = (2, -1)) := by show _ = _; rw [HC.out, if_pos (any_at hc h2)]
          have e1 := HE1.out (wr.alloc (.cells #[.int .i64 c.back, .int .i64 c.len, .int .u8 (c.next.toNat : Int), .bool c.last] 49)) (HB.out.alloc hle _)
          go_wp2_with fail
          go_quiet (fail)
          go_wp2_with fail
          go_ret2
          exact ⟨0, _, rfl, by rw [HF.out]; exact Or.inl ⟨rfl, rfl, by decide⟩, (fun h => by rw [HF.out] at h; cases h), below_drewN (HB.out.alloc hle _) _⟩
        · have HK2 : Hid (∀ j c, j < k + 1 → l[j]? = some c → ¬ 4000 < c.len) := fun j d hj hd => by
            rcases Nat.lt_or_ge j k with h3 | h3
            · exact HK.out j d h3 hd
            · obtain rfl : j = k := by omega
              rw [hc] at hd
              obtain rfl := Option.some.inj hd
              exact h2
          go_wp2_with fail
          exact ⟨⟨k + 1, h1, by go_num, HB.out.alloc hle _, HK2.out⟩, by simp [intOf]; omega⟩
      · obtain rfl : k = l.length := by omega
        have hkI : ¬ (l.length : Int) < (l.length : Int) := by omega
        have HA : Hid (l.any (fun c => decide (4000 < c.len)) = false) := any_none (fun i c hc => HK.out i c (by
          rcases Nat.lt_or_ge i l.length with h' | h'
          · exact h'
          · rw [List.getElem?_eq_none h'] at hc; cases hc) hc)
        have HC2 : Hid (chkE l = match scanC l.length l 0 0 with | .inl i => (3, (i : Int)) | .inr _ => (0, -1)) := by show _ = _; rw [HC.out, HA.out]; rfl
        have HLN : Hid (∀ (i : Nat) (c : CpI), l[i]? = some c → ¬ 4000 < c.len) := fun i c hc => HK.out i c (by
          rcases Nat.lt_or_ge i l.length with h' | h'
          · exact h'
          · rw [List.getElem?_eq_none h'] at hc; cases hc) hc
        clear HK HA HC
        go_wp2_with fail
        go_loopw [6, 26] (fun s t wr => ∃ k m : Nat, k ≤ l.length ∧ t = .int .i64 (k : Int) ∧ s = .int .i64 (m : Int) ∧ m ≤ k * 4001 ∧ Hid (Below w.heap.size w wr) ∧ Hid (scanC l.length l 0 0 = scanC l.length (l.drop k) k m)) (fun _ t _ => l.length - (intOf t).toNat)
        case atStart => exact ⟨0, 0, Nat.zero_le _, rfl, rfl, Nat.zero_le _, HB.out, rfl⟩
        case round =>
          clear HB
          obtain ⟨k, m, hk, rfl, rfl, hm, HB, HS⟩ := hrel
          rcases Nat.lt_or_ge k l.length with h1 | h1
          · obtain ⟨c, hc⟩ : ∃ c, l[k]? = some c := ⟨_, List.getElem?_eq_getElem h1⟩
            obtain ⟨b, o, rfl, x0, x1, x2, x3⟩ := (HL.out wr HB.out).at hc
            have hle := HB.out.size
            have hkI : (k : Int) < (l.length : Int) := by omega
            have hk0 : (0 : Int) ≤ (k : Int) := by omega
            have hl4 := HLN.out k c hc
            have HS2 : Hid (scanC l.length l 0 0 = scanC l.length (c :: l.drop (k + 1)) k m) := by show _ = _; rw [HS.out, drop_at hc]
            have hm2 : m ≤ 16004000 := by omega
            obtain ⟨cb, cl, cn, ct⟩ := c
            cases hb : badC l.length k m ⟨cb, cl, cn, ct⟩ with
            | true =>
              have HF : Hid (chkE l = (3, (k : Int))) := by show _ = _; rw [HC2.out, HS2.out, scanC_bad hb]
              have e2 := HE2.out (wr.alloc (.cells #[.int .i64 cb, .int .i64 cl, .int .u8 (cn.toNat : Int), .bool ct] 49)) (HB.out.alloc hle _)
              have hy := badC_yes hb
              clear hb hc
              simp only at x0 x1 x2 x3 hy hl4
              rcases hy with hy | ⟨hy, hz⟩ | ⟨hy, hz, hu⟩ | ⟨hy, hz, hu, ht, hs⟩ | ⟨hy, hz, hu, ht, hs⟩ | ⟨hy, hz, hu, ht, hs, hr⟩
              · go_wp2_with fail
                go_region
                all_goals
                  go_wp2_with fail
                  go_ret2
                  exact ⟨0, _, rfl, by rw [HF.out]; exact Or.inr ⟨_, rfl, by simp, by simp, by simp, by simp⟩, (fun h => by rw [HF.out] at h; cases h), by first | exact ((HB.out.alloc hle _).alloc (by simp; omega) _) | exact ((HB.out.alloc hle _).alloc (by simp; omega) _).drew⟩
              · go_wp2_with fail
                go_region
                all_goals
                  go_wp2_with fail
                  go_ret2
                  exact ⟨0, _, rfl, by rw [HF.out]; exact Or.inr ⟨_, rfl, by simp, by simp, by simp, by simp⟩, (fun h => by rw [HF.out] at h; cases h), by first | exact ((HB.out.alloc hle _).alloc (by simp; omega) _) | exact ((HB.out.alloc hle _).alloc (by simp; omega) _).drew⟩
              · go_wp2_with fail
                go_region
                all_goals
                  go_wp2_with fail
                  go_ret2
                  exact ⟨0, _, rfl, by rw [HF.out]; exact Or.inr ⟨_, rfl, by simp, by simp, by simp, by simp⟩, (fun h => by rw [HF.out] at h; cases h), by first | exact ((HB.out.alloc hle _).alloc (by simp; omega) _) | exact ((HB.out.alloc hle _).alloc (by simp; omega) _).drew⟩
              · have hv : (cl == 0) = false := by rw [beq_eq_false_iff_ne]; omega
                subst ht
                go_wp2_with fail
                go_region
                all_goals
                  go_wp2_with fail
                  go_ret2
                  exact ⟨0, _, rfl, by rw [HF.out]; exact Or.inr ⟨_, rfl, by simp, by simp, by simp, by simp⟩, (fun h => by rw [HF.out] at h; cases h), by first | exact ((HB.out.alloc hle _).alloc (by simp; omega) _) | exact ((HB.out.alloc hle _).alloc (by simp; omega) _).drew⟩
              · have hv : (cb == 0) = false := by rw [beq_eq_false_iff_ne]; omega
                subst hs
                go_wp2_with fail
                go_region
                all_goals
                  go_wp2_with fail
                  go_ret2
                  exact ⟨0, _, rfl, by rw [HF.out]; exact Or.inr ⟨_, rfl, by simp, by simp, by simp, by simp⟩, (fun h => by rw [HF.out] at h; cases h), by first | exact ((HB.out.alloc hle _).alloc (by simp; omega) _) | exact ((HB.out.alloc hle _).alloc (by simp; omega) _).drew⟩
              · subst hs
                have hq : ((cb == 0) = true ∧ (cl == 0) = true) ∨ ((cb == 0) = false ∧ (cl == 0) = false) := by
                  rcases ht with ⟨h1, h2⟩ | ⟨h1, h2⟩
                  · exact Or.inl ⟨by rw [beq_iff_eq]; exact h1, by rw [beq_iff_eq]; exact h2⟩
                  · exact Or.inr ⟨by rw [beq_eq_false_iff_ne]; omega, by rw [beq_eq_false_iff_ne]; omega⟩
                have hk1 : ((k : Int) < (l.length : Int) - 1) ∨ (¬ ((k : Int) < (l.length : Int) - 1) ∧ (cl == 0) = true) ∨ (¬ ((k : Int) < (l.length : Int) - 1) ∧ (cl == 0) = false ∧ ((cn.toNat : Int) != 0) = true) := by
                  rcases hr with h1 | ⟨h1, h2⟩ | ⟨h1, h2, h3⟩
                  · exact Or.inl (by omega)
                  · exact Or.inr (Or.inl ⟨by omega, by rw [beq_iff_eq]; exact h2⟩)
                  · exact Or.inr (Or.inr ⟨by omega, by rw [beq_eq_false_iff_ne]; omega, by rw [bne_iff_ne]; omega⟩)
                clear hr ht
                rcases hq with ⟨q1, q2⟩ | ⟨q1, q2⟩ <;> rcases hk1 with hk1 | ⟨hk1, hk2⟩ | ⟨hk1, hk2, hk3⟩
                all_goals (try (rw [q2] at hk2; cases hk2))
                all_goals
                  go_wp2_with fail
                  go_region
                  all_goals
                    go_wp2_with fail
                    go_ret2
                    exact ⟨0, _, rfl, by rw [HF.out]; exact Or.inr ⟨_, rfl, by simp, by simp, by simp, by simp⟩, (fun h => by rw [HF.out] at h; cases h), by first | exact ((HB.out.alloc hle _).alloc (by simp; omega) _) | exact ((HB.out.alloc hle _).alloc (by simp; omega) _).drew⟩
            | false =>
              have HS3 : Hid (scanC l.length l 0 0 = scanC l.length (l.drop (k + 1)) (k + 1) (stepC m ⟨cb, cl, cn, ct⟩)) := by show _ = _; rw [HS2.out, scanC_ok hb]
              obtain ⟨y1, y2, y3, y4, y5⟩ := badC_no hb
              clear hb hc
              simp only at x0 x1 x2 x3 y1 y2 y3 y4 y5 hl4
              have z1 : ¬ cb < 0 := by omega
              have z2 : ¬ (m : Int) < cb := by omega
              have z3 : ¬ cl < 0 := by omega
              have hq : ((cb == 0) = true ∧ (cl == 0) = true) ∨ ((cb == 0) = false ∧ (cl == 0) = false) := by
                rcases y4 with ⟨h1, h2⟩ | ⟨h1, h2⟩
                · exact Or.inl ⟨by rw [beq_iff_eq]; exact h1, by rw [beq_iff_eq]; exact h2⟩
                · exact Or.inr ⟨by rw [beq_eq_false_iff_ne]; omega, by rw [beq_eq_false_iff_ne]; omega⟩
              rcases y5 with rfl | ⟨rfl, y6, y7, y8⟩
              · have HS4 : Hid (scanC l.length l 0 0 = scanC l.length (l.drop (k + 1)) (k + 1) (m + cl.toNat + 1)) := HS3.out
                have hcl : (m : Int) + cl + 1 = ((m + cl.toNat + 1 : Nat) : Int) := by omega
                have HCL := Hid.mk' hcl
                clear y4 hcl
                rcases hq with ⟨q1, q2⟩ | ⟨q1, q2⟩
                all_goals
                  go_wp2_with fail
                  exact ⟨⟨k + 1, m + cl.toNat + 1, h1, by go_num, by rw [HCL.out], by omega, HB.out.alloc hle _, HS4.out⟩, by simp [intOf]; omega⟩
              · have HS4 : Hid (scanC l.length l 0 0 = scanC l.length (l.drop (k + 1)) (k + 1) (m + cl.toNat)) := HS3.out
                have hcl : (m : Int) + cl = ((m + cl.toNat : Nat) : Int) := by omega
                have HCL := Hid.mk' hcl
                have hk1 : ¬ ((k : Int) < (l.length : Int) - 1) := by omega
                have hcn : ((cn.toNat : Int) != 0) = false := by rw [y8]; rfl
                clear y4 hcl y8
                rcases hq with ⟨q1, q2⟩ | ⟨q1, q2⟩
                · rw [beq_iff_eq] at q2; omega
                · go_wp2_with fail
                  exact ⟨⟨k + 1, m + cl.toNat, h1, by go_num, by rw [HCL.out], by omega, HB.out.alloc hle _, HS4.out⟩, by simp [intOf]; omega⟩
          · obtain rfl : k = l.length := by omega
            have hkI : ¬ (l.length : Int) < (l.length : Int) := by omega
            have HS2 : Hid (scanC l.length l 0 0 = .inr m) := by show _ = _; rw [HS.out, List.drop_length]; rfl
            have HF : Hid (chkE l = (0, -1)) := by show _ = _; rw [HC2.out, HS2.out]
            go_wp2_with fail
            go_ret2
            exact ⟨m, _, rfl, by rw [HF.out]; exact Or.inl ⟨rfl, rfl, by decide⟩, fun _ => HS2.out, HB.out⟩
end Go.Proofs.YtiocbnjdmceadaaDoor
