/- The law LempelText. -/
import Derived.Test.YtiocbnjdmceadaaDoorTxF
import Derived.Test.YtiocbnjdmceadaaDoorAbP
namespace Go.Proofs.YtiocbnjdmceadaaDoor
open Go.RowKit

/-- The cells of phrases. -/
def phiC (c : PhI) : List Value := [.int .i64 c.of, .int .u8 (c.next.toNat : Int), .bool c.last]
def phisC : List PhI → List Value
  | [] => []
  | c :: r => phiC c ++ phisC r
theorem phisC_append : ∀ a b, phisC (a ++ b) = phisC a ++ phisC b
  | [], b => rfl
  | c :: a, b => by simp [phisC, phisC_append a b]
theorem phisC_snoc (a : List PhI) (c : PhI) : phisC (a ++ [c]) = phisC a ++ [.int .i64 c.of, .int .u8 (c.next.toNat : Int), .bool c.last] := by
  rw [phisC_append]; rfl
theorem phisC_at : ∀ (l : List PhI) (i : Nat) (c : PhI), l[i]? = some c → (phisC l)[i * 3]? = some (.int .i64 c.of) ∧ (phisC l)[i * 3 + 1]? = some (.int .u8 (c.next.toNat : Int)) ∧ (phisC l)[i * 3 + 2]? = some (.bool c.last)
  | [], i, c, h => by simp at h
  | d :: r, 0, c, h => by
    obtain rfl : d = c := by simpa using h
    exact ⟨rfl, rfl, rfl⟩
  | d :: r, i + 1, c, h => by
    obtain ⟨h0, h1, h2⟩ := phisC_at r i c (by simpa using h)
    have e : ∀ k, (phisC (d :: r))[(i + 1) * 3 + k]? = (phisC r)[i * 3 + k]? := fun k => by
      show (phiC d ++ phisC r)[(i + 1) * 3 + k]? = _
      rw [List.getElem?_append_right (by show 3 ≤ _; omega)]
      congr 1
      show (i + 1) * 3 + k - 3 = _
      omega
    exact ⟨by have := e 0; simp only [Nat.add_zero] at this; rw [this]; exact h0, by rw [e 1]; exact h1, by rw [e 2]; exact h2⟩
theorem phiAt_row {w : World} {base : Nat} {t : TypeId} {v : Value} {l : List PhI} (h : w.ownsRow base t 3 v l.length (phisC l)) : PhiAt w v l := by
  rcases h.2 with ⟨rfl, hn⟩ | ⟨g, cap, cur, rfl, _⟩
  · obtain rfl : l = [] := List.eq_nil_of_length_eq_zero hn
    exact ⟨_, _, rfl, fun i c hc => by simp at hc⟩
  · refine ⟨_, _, rfl, fun i c hc => ⟨g, 0, rfl, ?_⟩⟩
    have hi : i < l.length := by
      rcases Nat.lt_or_ge i l.length with h' | h'
      · exact h'
      · rw [List.getElem?_eq_none h'] at hc; cases hc
    obtain ⟨h0, h1, h2⟩ := phisC_at l i c hc
    have e : ∀ j, j < l.length * 3 → w.cell? ⟨g, j, none⟩ = (phisC l)[j]? := fun j hj => h.cellAt j hj
    rw [Nat.zero_add]
    refine ⟨?_, ?_, ?_⟩
    · rw [e _ (by omega)]; exact h0
    · rw [e _ (by omega)]; exact h1
    · rw [e _ (by omega)]; exact h2

set_option maxRecDepth 100000 in
set_option maxHeartbeats 8000000 in
theorem LempelText_all (a : Nat → Addr) (ad : Option Addr) (cap : Nat) (l : List PhI) (w : World) (hE : Errs w a) (h : PhiAt w (.slice ad l.length cap) l) (hT : l.length ≤ maxLen) :
    Calls Tryd.prog 4 #[.slice ad l.length cap] w fun e w' => e = .returned (.bool true) ∧ Below w.heap.size w w' := by
  have hA := abab_any w
  unfold maxLen at hT
  by_cases hb : (200 < l.length ∧ l.length ≤ 4000) ∨ 6000 < l.length
  · have hd : ((200 : Int) < (l.length : Int) ∧ (l.length : Int) ≤ 4000) ∨ ((200 : Int) < (l.length : Int) ∧ ¬ (l.length : Int) ≤ 4000 ∧ (6000 : Int) < (l.length : Int)) := by omega
    clear hb hE h
    rcases hd with ⟨h1, h2⟩ | ⟨h1, h2, h3⟩
    all_goals
      go_enter Tryd.func4, Tryd.ntmps4
      go_wp2_with fail
      refine hA.mono ?_
      rintro e w1 ⟨rfl, hb1⟩
      have HB1 := Hid.mk' hb1
      clear hb1 hA
      go_wp2_with fail
      go_ret
      exact ⟨rfl, HB1.out⟩
  · have hl6 : l.length ≤ 6000 := by omega
    have hd : (¬ (200 : Int) < (l.length : Int) ∧ ¬ (6000 : Int) < (l.length : Int)) ∨ ((200 : Int) < (l.length : Int) ∧ ¬ (l.length : Int) ≤ 4000 ∧ ¬ (6000 : Int) < (l.length : Int)) := by omega
    have HL := Hid.mk' (fun (W : World) (hb : Below w.heap.size w W) => h.later hb)
    have HCF := Hid.mk' (fun (W : World) (hb : Below w.heap.size w W) => PhrasesFault_any _ l W (h.later hb) (by omega))
    have HCT := Hid.mk' (fun (W : World) (hb : Below w.heap.size w W) (hok : (phE l).1 = 0) => PhrasesText_any _ l W (h.later hb) hok)
    have HUO := Hid.mk' (fun (W : World) (v : Value) (hb : Below w.heap.size w W) (hv : PhiAt W v l) => Text_any a v l W (hE.below hb) hv (by omega))
    have HFT := Hid.mk' (fun (W : World) (v : Value) (hb : Below w.heap.size w W) (hv : ErrIs a W v (phE l)) => faulted_is a v (phE l) W (hE.below hb) hv)
    obtain ⟨i, hi, hi2⟩ := Option.map_eq_some_iff.1 Tryd.infoPhr
    obtain ⟨hz, hsz, hby⟩ : i.zero = some (.agg #[.int .i64 0, .int .u8 0, .bool false]) ∧ i.size = 3 ∧ i.bytes = 16 := by simpa using hi2
    have HINF := Hid.mk' (And.intro hi (And.intro hz (And.intro hsz hby)))
    clear hi hi2 hz hsz hby hb hE h
    rcases hd with ⟨h1, h2⟩ | ⟨h1, h2, h3⟩
    all_goals
      go_enter Tryd.func4, Tryd.ntmps4
      go_wp2_with fail
      refine hA.mono ?_
      rintro e w1 ⟨rfl, hb1⟩
      have HB1 := Hid.mk' hb1
      clear hb1 hA
      go_wp2_with fail
      go_loopw [4, 5] (fun s t wr => ∃ k : Nat, k ≤ l.length ∧ t = .int .i64 (k : Int) ∧ Hid (wr.ownsRow w.heap.size 32 3 s k (phisC (l.take k))) ∧ Hid (Below w.heap.size w wr)) (fun _ t _ => l.length - (intOf t).toNat)
      case atStart => exact ⟨0, Nat.zero_le _, rfl, World.ownsRow_nil _ _ _ _, HB1.out⟩
      case round =>
        obtain ⟨k, hk, rfl, HO, HB⟩ := hrel
        have hle := HB.out.size
        rcases Nat.lt_or_ge k l.length with h5 | h5
        · obtain ⟨c, hc⟩ : ∃ c, l[k]? = some c := ⟨_, List.getElem?_eq_getElem h5⟩
          obtain ⟨b, o, rfl, x0, x1, x2⟩ := (HL.out wr HB.out).at hc
          have HTK : Hid (l.take (k + 1) = l.take k ++ [c]) := by
            show _ = _
            obtain ⟨hi, rfl⟩ := List.getElem?_eq_some_iff.1 hc
            exact List.take_succ_eq_append_getElem hi
          have HKK : Hid (∀ W, Below w.heap.size w W → W.cell? ⟨b, o + k * 3, none⟩ = some (.int .i64 c.of) ∧ W.cell? ⟨b, o + k * 3 + 1, none⟩ = some (.int .u8 (c.next.toNat : Int)) ∧ W.cell? ⟨b, o + k * 3 + 2, none⟩ = some (.bool c.last)) := fun W hb => by
            obtain ⟨b', o', e, y⟩ := (HL.out W hb).at hc
            obtain ⟨rfl, rfl⟩ : b = b' ∧ o = o' := by simpa using e
            exact y
          have hkI : (k : Int) < (l.length : Int) := by omega
          have hk0 : (0 : Int) ≤ (k : Int) := by omega
          have HRR := Hid.mk' (HO.out.alloc (.cells #[.int .i64 c.of, .int .u8 (c.next.toNat : Int), .bool c.last] 32))
          have HBB : Hid (Below w.heap.size w (wr.alloc (.cells #[.int .i64 c.of, .int .u8 (c.next.toNat : Int), .bool c.last] 32))) := HB.out.alloc hle _
          have HPU : Hid (∀ w3, World.grownBy (wr.alloc (.cells #[.int .i64 c.of, .int .u8 (c.next.toNat : Int), .bool c.last] 32)).drew w3 u4.ownBlock → Below w.heap.size w w3) := fun w3 hg => lz_push HBB.out.drew (by show w.heap.size ≤ (wr.alloc (.cells #[.int .i64 c.of, .int .u8 (c.next.toNat : Int), .bool c.last] 32)).heap.size; simp; omega) (HRR.out.drew) hg
          go_wp2_with fail
          go_region_held3 (fun W => W.cell? ⟨b, o + k * 3, none⟩ = some (.int .i64 c.of) ∧ W.cell? ⟨b, o + k * 3 + 1, none⟩ = some (.int .u8 (c.next.toNat : Int)) ∧ W.cell? ⟨b, o + k * 3 + 2, none⟩ = some (.bool c.last))
            (first | exact HKK.out _ (HPU.out _ (by assumption)) | go_keep)
            ((refine step_append_lies _ (by rfl) _ _ _ (by rfl) w.heap.size 32 i _ 3 16 Tryd.underlying23 HINF.out.1 HINF.out.2.1 HINF.out.2.2.1 HINF.out.2.2.2 rfl (by omega) u4 k (phisC (l.take k)) (by rfl) HRR.out ⟨wr.heap.size, 0, none⟩ 1 1 [.int .i64 c.of, .int .u8 (c.next.toNat : Int), .bool c.last] (by rfl) rfl (three_new wr _ _ _ _) (by simp [Value.oneCell']) (by omega) (by unfold maxLen; omega) (by omega) (by simp; omega) _ rfl ?_; intro g' cap' w3 hown3 hgrow3 hat3 hlt3))
          have HW3 := Hid.mk' hown3
          have HB3 := Hid.mk' (HPU.out _ hgrow3)
          clear hown3 hgrow3 hat3
          go_wp2_with fail
          exact ⟨⟨k + 1, h5, by go_num, by show World.ownsRow _ _ _ _ _ _ _; rw [HTK.out, phisC_snoc]; exact HW3.out, HB3.out⟩, by simp [intOf]; omega⟩
        · obtain rfl : k = l.length := by omega
          have hkI : ¬ (l.length : Int) < (l.length : Int) := by omega
          rw [List.take_length] at HO
          have HV := Hid.mk' (phiAt_row HO.out)
          obtain ⟨ad4, cap4, rfl⟩ := lzrow_form HO.out
          clear HO
          go_wp2_with fail
          refine (HCF.out wr HB.out).mono ?_
          rintro e w2 ⟨rfl, hb2⟩
          have HB2 := Hid.mk' (below_chain HB.out hb2)
          have HV2 := Hid.mk' (HV.out.later hb2)
          have hle2 := HB2.out.size
          clear hb2 HV HB
          have HBF := Hid.mk' (HB2.out.alloc hle2 (.cells #[.int .i64 ((phE l).1 : Int), .int .i64 (phE l).2] 36))
          have hbF : Below w2.heap.size w2 (w2.alloc (.cells #[.int .i64 ((phE l).1 : Int), .int .i64 (phE l).2] 36)) := (Below.refl _ _).alloc (Nat.le_refl _) _
          have HTF := Hid.mk' (Two2.fresh w2 ((phE l).1 : Int) (phE l).2 36)
          have HVF := Hid.mk' (HV2.out.later hbF)
          clear hbF HV2 HB2
          generalize hWF : w2.alloc (.cells #[.int .i64 ((phE l).1 : Int), .int .i64 (phE l).2] 36) = WF at *
          go_wp2_with fail
          clear hWF
          by_cases hok : (phE l).1 = 0
          · have HCE := Hid.mk' ((phE_ok hok).1)
            refine (HUO.out _ _ HBF.out HVF.out).mono ?_
            rintro e w4 ⟨st, xv, rfl, hx, hs1, _, hb4⟩
            obtain rfl := hx.nil0 hok
            obtain rfl := hs1 hok
            clear hx hs1
            have HB4 := Hid.mk' (below_chain HBF.out hb4)
            have HT4 := Hid.mk' (HTF.out.later hb4)
            have y0 := HT4.out.c0
            rw [HCE.out] at y0
            have HCTX := Hid.mk' (fun W hb => HCT.out W hb hok)
            clear hb4 hok
            generalize (⟨(phT l).toArray⟩ : ByteArray) = T at *
            go_wp2_with fail
            refine (HCTX.out _ HB4.out).mono ?_
            rintro e w5 ⟨rfl, hb5⟩
            have HB5 := Hid.mk' (below_chain HB4.out hb5)
            clear hb5
            go_wp2_with fail
            go_ret
            exact ⟨rfl, HB5.out⟩
          · refine (HUO.out _ _ HBF.out HVF.out).mono ?_
            rintro e w4 ⟨st, x, rfl, hx, _, hs2, hb4⟩
            obtain rfl := hs2 hok
            clear hs2
            have HB4 := Hid.mk' (below_chain HBF.out hb4)
            have HT4 := Hid.mk' (HTF.out.later hb4)
            have HX := Hid.mk' hx
            have y0 := HT4.out.c0
            have y1 := HT4.out.c1
            have hpos : (0 : Int) < ((phE l).1 : Int) := by omega
            clear hb4 hx hok
            go_wp2_with fail
            refine (HFT.out _ _ HB4.out HX.out).mono ?_
            rintro e w5 ⟨rfl, hb5⟩
            have HB5 := Hid.mk' (below_chain HB4.out hb5)
            clear hb5
            go_wp2_with fail
            go_ret
            exact ⟨rfl, HB5.out⟩
end Go.Proofs.YtiocbnjdmceadaaDoor
