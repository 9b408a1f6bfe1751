/- The law LempelUnslide. -/
import Derived.Test.YtiocbnjdmceadaaDoorUnF
import Derived.Test.YtiocbnjdmceadaaDoorAbP
import Derived.Test.YtiocbnjdmceadaaDoorSlideQ
namespace Go.Proofs.YtiocbnjdmceadaaDoor
open Go.RowKit

/-- The cells of copies. -/
def cpiC (c : CpI) : List Value := [.int .i64 c.back, .int .i64 c.len, .int .u8 (c.next.toNat : Int), .bool c.last]
def cpisC : List CpI → List Value
  | [] => []
  | c :: r => cpiC c ++ cpisC r
theorem cpisC_append : ∀ a b, cpisC (a ++ b) = cpisC a ++ cpisC b
  | [], b => rfl
  | c :: a, b => by simp [cpisC, cpisC_append a b]
theorem cpisC_snoc (a : List CpI) (c : CpI) : cpisC (a ++ [c]) = cpisC a ++ [.int .i64 c.back, .int .i64 c.len, .int .u8 (c.next.toNat : Int), .bool c.last] := by
  rw [cpisC_append]; rfl
theorem cpisC_at : ∀ (l : List CpI) (i : Nat) (c : CpI), l[i]? = some c → (cpisC l)[i * 4]? = some (.int .i64 c.back) ∧ (cpisC l)[i * 4 + 1]? = some (.int .i64 c.len) ∧ (cpisC l)[i * 4 + 2]? = some (.int .u8 (c.next.toNat : Int)) ∧ (cpisC l)[i * 4 + 3]? = some (.bool c.last)
  | [], i, c, h => by simp at h
  | d :: r, 0, c, h => by
    obtain rfl : d = c := by simpa using h
    exact ⟨rfl, rfl, rfl, rfl⟩
  | d :: r, i + 1, c, h => by
    obtain ⟨h0, h1, h2, h3⟩ := cpisC_at r i c (by simpa using h)
    have e : ∀ k, (cpisC (d :: r))[(i + 1) * 4 + k]? = (cpisC r)[i * 4 + k]? := fun k => by
      show (cpiC d ++ cpisC r)[(i + 1) * 4 + k]? = _
      rw [List.getElem?_append_right (by show 4 ≤ _; omega)]
      congr 1
      show (i + 1) * 4 + k - 4 = _
      omega
    exact ⟨by have := e 0; simp only [Nat.add_zero] at this; rw [this]; exact h0, by rw [e 1]; exact h1, by rw [e 2]; exact h2, by rw [e 3]; exact h3⟩
theorem cpiAt_row {w : World} {base : Nat} {t : TypeId} {v : Value} {l : List CpI} (h : w.ownsRow base t 4 v l.length (cpisC l)) : CpiAt w v l := by
  rcases h.2 with ⟨rfl, hn⟩ | ⟨g, cap, cur, rfl, _⟩
  · obtain rfl : l = [] := List.eq_nil_of_length_eq_zero hn
    exact ⟨_, _, rfl, fun i c hc => by simp at hc⟩
  · refine ⟨_, _, rfl, fun i c hc => ⟨g, 0, rfl, ?_⟩⟩
    have hi : i < l.length := by
      rcases Nat.lt_or_ge i l.length with h' | h'
      · exact h'
      · rw [List.getElem?_eq_none h'] at hc; cases hc
    obtain ⟨h0, h1, h2, h3⟩ := cpisC_at l i c hc
    have e : ∀ j, j < l.length * 4 → w.cell? ⟨g, j, none⟩ = (cpisC l)[j]? := fun j hj => h.cellAt j hj
    rw [Nat.zero_add]
    refine ⟨?_, ?_, ?_, ?_⟩
    · rw [e _ (by omega)]; exact h0
    · rw [e _ (by omega)]; exact h1
    · rw [e _ (by omega)]; exact h2
    · rw [e _ (by omega)]; exact h3
theorem cpE_none {l : List CpI} (h : (cpE l).1 = 0) : cpE l = (0, -1) := by
  unfold cpE at h ⊢
  by_cases h1 : 4000 < l.length
  · rw [if_pos h1] at h; cases h
  · rw [if_neg h1] at h ⊢
    by_cases h2 : (l.any fun c => decide (4000 < c.len)) = true
    · rw [if_pos h2] at h; cases h
    · rw [if_neg h2] at h ⊢
      cases hs : scanC l.length l 0 0 with
      | inl i => rw [hs] at h; cases h
      | inr s =>
        rw [hs] at h
        by_cases h3 : 4000 < s
        · simp only [if_pos h3] at h; cases h
        · simp only [if_neg h3]

set_option maxRecDepth 100000 in
set_option maxHeartbeats 8000000 in
theorem LempelUnslide_all (a : Nat → Addr) (ad : Option Addr) (cap : Nat) (l : List CpI) (w : World) (hE : Errs w a) (h : CpiAt w (.slice ad l.length cap) l) (hT : l.length ≤ maxLen) :
    Calls Tryd.prog 7 #[.slice ad l.length cap] w fun e w' => e = .returned (.bool true) ∧ Below w.heap.size w w' := by
  have hA := abab_any w
  unfold maxLen at hT
  by_cases hb : (200 < l.length ∧ l.length ≤ 4000) ∨ 6000 < l.length
  · have hd : ((200 : Int) < (l.length : Int) ∧ (l.length : Int) ≤ 4000) ∨ ((200 : Int) < (l.length : Int) ∧ ¬ (l.length : Int) ≤ 4000 ∧ (6000 : Int) < (l.length : Int)) := by omega
    clear hb hE h
    rcases hd with ⟨h1, h2⟩ | ⟨h1, h2, h3⟩
    all_goals
      go_enter Tryd.func7, Tryd.ntmps7
      go_wp2_with fail
      refine hA.mono ?_
      rintro e w1 ⟨rfl, hb1⟩
      have HB1 := Hid.mk' hb1
      clear hb1 hA
      go_wp2_with fail
      go_ret
      exact ⟨rfl, HB1.out⟩
  · have hl6 : l.length ≤ 6000 := by omega
    have hd : (¬ (200 : Int) < (l.length : Int) ∧ ¬ (6000 : Int) < (l.length : Int)) ∨ ((200 : Int) < (l.length : Int) ∧ ¬ (l.length : Int) ≤ 4000 ∧ ¬ (6000 : Int) < (l.length : Int)) := by omega
    have HL := Hid.mk' (fun (W : World) (hb : Below w.heap.size w W) => h.later hb)
    have HCF := Hid.mk' (fun (W : World) (hb : Below w.heap.size w W) => CopiesFault_any _ l W (h.later hb) (by omega))
    have HCT := Hid.mk' (fun (W : World) (hb : Below w.heap.size w W) (hok : (cpE l).1 = 0) => CopiesText_any _ l W (h.later hb) hok)
    have HUO := Hid.mk' (fun (W : World) (v : Value) (hb : Below w.heap.size w W) (hv : CpiAt W v l) (hok : (cpE l).1 = 0) => Unslide_ok a v l W (hE.below hb) hv hok)
    have HUB := Hid.mk' (fun (W : World) (v : Value) (hb : Below w.heap.size w W) (hv : CpiAt W v l) (hok : (cpE l).1 ≠ 0) => Unslide_bad a v l W (hE.below hb) hv (by omega) hok)
    have HFT := Hid.mk' (fun (W : World) (v : Value) (hb : Below w.heap.size w W) (hv : ErrIs a W v (cpE l)) => faulted_is a v (cpE l) W (hE.below hb) hv)
    obtain ⟨i, hi, hi2⟩ := Option.map_eq_some_iff.1 Tryd.infoCpy
    obtain ⟨hz, hsz, hby⟩ : i.zero = some (.agg #[.int .i64 0, .int .i64 0, .int .u8 0, .bool false]) ∧ i.size = 4 ∧ i.bytes = 24 := by simpa using hi2
    have HINF := Hid.mk' (And.intro hi (And.intro hz (And.intro hsz hby)))
    clear hi hi2 hz hsz hby hb hE h
    rcases hd with ⟨h1, h2⟩ | ⟨h1, h2, h3⟩
    all_goals
      go_enter Tryd.func7, Tryd.ntmps7
      go_wp2_with fail
      refine hA.mono ?_
      rintro e w1 ⟨rfl, hb1⟩
      have HB1 := Hid.mk' hb1
      clear hb1 hA
      go_wp2_with fail
      go_loopw [4, 5] (fun s t wr => ∃ k : Nat, k ≤ l.length ∧ t = .int .i64 (k : Int) ∧ Hid (wr.ownsRow w.heap.size 49 4 s k (cpisC (l.take k))) ∧ Hid (Below w.heap.size w wr)) (fun _ t _ => l.length - (intOf t).toNat)
      case atStart => exact ⟨0, Nat.zero_le _, rfl, World.ownsRow_nil _ _ _ _, HB1.out⟩
      case round =>
        obtain ⟨k, hk, rfl, HO, HB⟩ := hrel
        have hle := HB.out.size
        rcases Nat.lt_or_ge k l.length with h5 | h5
        · obtain ⟨c, hc⟩ : ∃ c, l[k]? = some c := ⟨_, List.getElem?_eq_getElem h5⟩
          obtain ⟨b, o, rfl, x0, x1, x2, x3⟩ := (HL.out wr HB.out).at hc
          have HTK : Hid (l.take (k + 1) = l.take k ++ [c]) := by
            show _ = _
            obtain ⟨hi, rfl⟩ := List.getElem?_eq_some_iff.1 hc
            exact List.take_succ_eq_append_getElem hi
          have HKK : Hid (∀ W, Below w.heap.size w W → W.cell? ⟨b, o + k * 4, none⟩ = some (.int .i64 c.back) ∧ W.cell? ⟨b, o + k * 4 + 1, none⟩ = some (.int .i64 c.len) ∧ W.cell? ⟨b, o + k * 4 + 2, none⟩ = some (.int .u8 (c.next.toNat : Int)) ∧ W.cell? ⟨b, o + k * 4 + 3, none⟩ = some (.bool c.last)) := fun W hb => by
            obtain ⟨b', o', e, y⟩ := (HL.out W hb).at hc
            obtain ⟨rfl, rfl⟩ : b = b' ∧ o = o' := by simpa using e
            exact y
          have hkI : (k : Int) < (l.length : Int) := by omega
          have hk0 : (0 : Int) ≤ (k : Int) := by omega
          have HRR := Hid.mk' (HO.out.alloc (.cells #[.int .i64 c.back, .int .i64 c.len, .int .u8 (c.next.toNat : Int), .bool c.last] 49))
          have HBB : Hid (Below w.heap.size w (wr.alloc (.cells #[.int .i64 c.back, .int .i64 c.len, .int .u8 (c.next.toNat : Int), .bool c.last] 49))) := HB.out.alloc hle _
          have HPU : Hid (∀ w3, World.grownBy (wr.alloc (.cells #[.int .i64 c.back, .int .i64 c.len, .int .u8 (c.next.toNat : Int), .bool c.last] 49)).drew w3 u4.ownBlock → Below w.heap.size w w3) := fun w3 hg => lz_push HBB.out.drew (by show w.heap.size ≤ (wr.alloc (.cells #[.int .i64 c.back, .int .i64 c.len, .int .u8 (c.next.toNat : Int), .bool c.last] 49)).heap.size; simp; omega) (HRR.out.drew) hg
          go_wp2_with fail
          go_region_held3 (fun W => W.cell? ⟨b, o + k * 4, none⟩ = some (.int .i64 c.back) ∧ W.cell? ⟨b, o + k * 4 + 1, none⟩ = some (.int .i64 c.len) ∧ W.cell? ⟨b, o + k * 4 + 2, none⟩ = some (.int .u8 (c.next.toNat : Int)) ∧ W.cell? ⟨b, o + k * 4 + 3, none⟩ = some (.bool c.last))
            (first | exact HKK.out _ (HPU.out _ (by assumption)) | go_keep)
            ((refine step_append_lies _ (by rfl) _ _ _ (by rfl) w.heap.size 49 i _ 4 24 Tryd.underlying43 HINF.out.1 HINF.out.2.1 HINF.out.2.2.1 HINF.out.2.2.2 rfl (by omega) u4 k (cpisC (l.take k)) (by rfl) HRR.out ⟨wr.heap.size, 0, none⟩ 1 1 [.int .i64 c.back, .int .i64 c.len, .int .u8 (c.next.toNat : Int), .bool c.last] (by rfl) rfl (four_new wr _ _ _ _ _) (by simp [Value.oneCell']) (by omega) (by unfold maxLen; omega) (by omega) (by simp; omega) _ rfl ?_; intro g' cap' w3 hown3 hgrow3 hat3 hlt3))
          have HW3 := Hid.mk' hown3
          have HB3 := Hid.mk' (HPU.out _ hgrow3)
          clear hown3 hgrow3 hat3
          go_wp2_with fail
          exact ⟨⟨k + 1, h5, by go_num, by show World.ownsRow _ _ _ _ _ _ _; rw [HTK.out, cpisC_snoc]; exact HW3.out, HB3.out⟩, by simp [intOf]; omega⟩
        · obtain rfl : k = l.length := by omega
          have hkI : ¬ (l.length : Int) < (l.length : Int) := by omega
          rw [List.take_length] at HO
          have HV := Hid.mk' (cpiAt_row HO.out)
          obtain ⟨ad4, cap4, rfl⟩ := lzrow_form HO.out
          clear HO
          go_wp2_with fail
          refine (HCF.out wr HB.out).mono ?_
          rintro e w2 ⟨rfl, hb2⟩
          have HB2 := Hid.mk' (below_chain HB.out hb2)
          have HV2 := Hid.mk' (HV.out.later hb2)
          have hle2 := HB2.out.size
          clear hb2 HV HB
          have HBF := Hid.mk' (HB2.out.alloc hle2 (.cells #[.int .i64 ((cpE l).1 : Int), .int .i64 (cpE l).2] 36))
          have hbF : Below w2.heap.size w2 (w2.alloc (.cells #[.int .i64 ((cpE l).1 : Int), .int .i64 (cpE l).2] 36)) := (Below.refl _ _).alloc (Nat.le_refl _) _
          have HTF := Hid.mk' (Two2.fresh w2 ((cpE l).1 : Int) (cpE l).2 36)
          have HVF := Hid.mk' (HV2.out.later hbF)
          clear hbF HV2 HB2
          generalize hWF : w2.alloc (.cells #[.int .i64 ((cpE l).1 : Int), .int .i64 (cpE l).2] 36) = WF at *
          go_wp2_with fail
          clear hWF
          by_cases hok : (cpE l).1 = 0
          · have HCE := Hid.mk' (cpE_none hok)
            refine (HUO.out _ _ HBF.out HVF.out hok).mono ?_
            rintro e w4 ⟨rfl, hb4⟩
            have HB4 := Hid.mk' (below_chain HBF.out hb4)
            have HT4 := Hid.mk' (HTF.out.later hb4)
            have y0 := HT4.out.c0
            rw [HCE.out] at y0
            have HCTX := Hid.mk' (fun W hb => HCT.out W hb hok)
            clear hb4 hok
            generalize (⟨(cpT l).toArray⟩ : ByteArray) = T at *
            go_wp2_with fail
            refine (HCTX.out _ HB4.out).mono ?_
            rintro e w5 ⟨rfl, hb5⟩
            have HB5 := Hid.mk' (below_chain HB4.out hb5)
            clear hb5
            go_wp2_with fail
            go_ret
            exact ⟨rfl, HB5.out⟩
          · refine (HUB.out _ _ HBF.out HVF.out hok).mono ?_
            rintro e w4 ⟨x, rfl, hx, hb4⟩
            have HB4 := Hid.mk' (below_chain HBF.out hb4)
            have HT4 := Hid.mk' (HTF.out.later hb4)
            have HX := Hid.mk' hx
            have y0 := HT4.out.c0
            have y1 := HT4.out.c1
            have hpos : (0 : Int) < ((cpE l).1 : Int) := by omega
            clear hb4 hx hok
            go_wp2_with fail
            refine (HFT.out _ _ HB4.out HX.out).mono ?_
            rintro e w5 ⟨rfl, hb5⟩
            have HB5 := Hid.mk' (below_chain HB4.out hb5)
            clear hb5
            go_wp2_with fail
            go_ret
            exact ⟨rfl, HB5.out⟩
end Go.Proofs.YtiocbnjdmceadaaDoor
