/- The document's PhrasesText. -/
import Derived.Test.YtiocbnjdmceadaaDoorTxP
namespace Go.Proofs.YtiocbnjdmceadaaDoor
open Go.RowKit

theorem phE_ok {l : List PhI} (h : (phE l).1 = 0) : phE l = (0, -1) ∧ l.length ≤ 4000 ∧ scanP l.length l 0 = none ∧ (phT l).length ≤ 4000 := by
  unfold phE at h ⊢
  by_cases h1 : 4000 < l.length
  · rw [if_pos h1] at h; cases h
  · rw [if_neg h1] at h ⊢
    cases hs : scanP l.length l 0 with
    | some i => rw [hs] at h; cases h
    | none =>
      rw [hs] at h
      by_cases h3 : 4000 < (phT l).length
      · simp only [if_pos h3] at h; cases h
      · exact ⟨by simp only [if_neg h3], by omega, rfl, by omega⟩
theorem ba_join (a b : List UInt8) : (⟨a.toArray⟩ : ByteArray) ++ ⟨b.toArray⟩ = ⟨(a ++ b).toArray⟩ := by
  refine ba_same ?_
  rw [ByteArray.data_append]
  simp

set_option maxRecDepth 100000 in
set_option maxHeartbeats 4000000 in
theorem PhrasesText_any (v : Value) (l : List PhI) (w : World) (h : PhiAt w v l) (hok : (phE l).1 = 0) :
    Calls Tryd.prog 15 #[v] w fun e w' => e = .returned (.string ⟨(phT l).toArray⟩) ∧ Below w.heap.size w w' := by
  obtain ⟨_, hln, hsc, htl⟩ := phE_ok hok
  obtain ⟨i, hi, hi2⟩ := Option.map_eq_some_iff.1 Tryd.infoStz
  obtain ⟨hz, hsz, hby⟩ : i.zero = some (.string ⟨#[]⟩) ∧ i.size = 1 ∧ i.bytes = 16 := by simpa using hi2
  have HINS := Hid.mk' (And.intro hi (And.intro hz (And.intro hsz hby)))
  clear hi hi2 hz hsz hby
  obtain ⟨ad, cap, rfl⟩ := h.form
  have HL := Hid.mk' (fun (W : World) (hb : Below w.heap.size w W) => h.later hb)
  have HOK := Hid.mk' (fun (k : Nat) (p : PhI) (hp : l[k]? = some p) => scanP_at l 0 hsc k p hp)
  have HTL := Hid.mk' htl
  clear h hok hsc htl
  have HR0 : Hid ((w.alloc (.cells #[.string ⟨#[]⟩] 9)).ownsRow w.heap.size 9 1 (.slice (some ⟨w.heap.size, 0, none⟩) 1 1) 1 (strL [[]])) := World.ownsRow_lit w #[.string ⟨#[]⟩] 1 (Nat.le_refl _) (by unfold maxLen; omega) rfl
  have HB0 : Hid (Below w.heap.size w (w.alloc (.cells #[.string ⟨#[]⟩] 9))) := (Below.refl _ _).alloc (Nat.le_refl _) _
  go_enter Tryd.func15, Tryd.ntmps15
  go_wp2_with fail
  go_loopw [3, 4, 5] (fun sv ov x wr => ∃ (k : Nat) (K : List (List UInt8)) (out : List UInt8), k ≤ l.length ∧ x = .int .i64 (k : Int) ∧ ov = .string ⟨out.toArray⟩ ∧ out.length ≤ 4000 ∧ Hid (K.length = k + 1) ∧ Hid (∀ (i : Nat) (a : List UInt8), K[i]? = some a → a.length ≤ 4000) ∧ Hid (wr.ownsRow w.heap.size 9 1 sv (k + 1) (strL K)) ∧ Hid (Below w.heap.size w wr) ∧ Hid (runP (l.drop k) (K, out) = phT l)) (fun _ _ x _ => l.length - (intOf x).toNat)
  case atStart => exact ⟨0, [[]], [], Nat.zero_le _, rfl, rfl, Nat.zero_le _, rfl, short_nil, HR0.out, HB0.out, rfl⟩
  case round =>
    clear HR0 HB0
    obtain ⟨k, K, out, hk, rfl, rfl, hout, HKL, HKS, HR, HB, HF⟩ := hrel
    have hle := HB.out.size
    rcases Nat.lt_or_ge k l.length with h1 | h1
    · obtain ⟨c, hc⟩ : ∃ c, l[k]? = some c := ⟨_, List.getElem?_eq_getElem h1⟩
      obtain ⟨b, o, rfl, x0, x1, x2⟩ := (HL.out wr HB.out).at hc
      have hkI : (k : Int) < (l.length : Int) := by omega
      have hk0 : (0 : Int) ≤ (k : Int) := by omega
      have hbad := HOK.out k c hc
      rw [Nat.zero_add] at hbad
      obtain ⟨y1, y2, y3⟩ := badP_no hbad
      have HFX : Hid (runP (l.drop (k + 1)) (K ++ [txtP K c], out ++ txtP K c) = phT l) := by show _ = _; rw [← HF.out, dropP hc]; rfl
      have HLE : Hid ((out ++ txtP K c).length ≤ (phT l).length) := by show _ ≤ _; rw [← HFX.out]; exact runP_le (l.drop (k + 1)) (K ++ [txtP K c], out ++ txtP K c)
      obtain ⟨f, hf⟩ : ∃ f : Nat, c.of = (f : Int) := ⟨c.of.toNat, by omega⟩
      have hfk : f ≤ k := by omega
      have HTX : Hid (txtP K c = if c.last = true then K.getD f [] else K.getD f [] ++ [c.next]) := by show txtP K c = _; unfold txtP; rw [hf, Int.toNat_natCast]
      rw [hf] at x0
      obtain ⟨g, cp, rfl, hg1, hg2⟩ := HR.out.form (by omega)
      have hKf : K[f]? = some (K.getD f []) := by rw [List.getD_eq_getElem?_getD, List.getElem?_eq_getElem (by rw [HKL.out]; omega)]; rfl
      have xt : wr.cell? ⟨g, f, none⟩ = some (.string ⟨(K.getD f []).toArray⟩) := by
        rw [HR.out.cellAt f (by omega)]
        exact strL_at hKf
      have htl := HKS.out _ _ hKf
      have hfI : (f : Int) < (k : Int) + 1 := by omega
      have hf0 : (0 : Int) ≤ (f : Int) := by omega
      clear hbad y1 y2 y3 hc hf hKf
      generalize K.getD f [] = t0 at *
      have hz0 : (⟨t0.toArray⟩ : ByteArray).size ≤ 4000 := by rw [ba_size]; exact htl
      have hz1 : (⟨out.toArray⟩ : ByteArray).size ≤ 4000 := by rw [ba_size]; exact hout
      cases hla : c.last with
      | true =>
        rw [hla] at HTX x2
        have HTX : Hid (txtP K c = t0) := HTX.out
        rw [HTX.out] at HFX HLE
        clear hla
        have hj := ba_join out t0
        have HR3 := Hid.mk' (HR.out.alloc (.cells #[.string ⟨t0.toArray⟩] 9))
        have HBA := Hid.mk' (HB.out.alloc hle (.cells #[.string ⟨t0.toArray⟩] 9))
        go_wp2_with (at_builtin; go_must (refine wpList_append_lies _ rfl _ _ _ rfl w.heap.size 9 i _ 1 16 Tryd.underlying59 HINS.out.1 HINS.out.2.1 HINS.out.2.2.1 HINS.out.2.2.2 rfl (by omega) (.slice (some ⟨g, 0, none⟩) (k + 1) cp) (k + 1) (strL K) rfl HR3.out ⟨wr.heap.size, 0, none⟩ 1 1 [.string ⟨t0.toArray⟩] rfl rfl (one_new wr _ _) (by simp [Value.oneCell']) (by omega) (by unfold maxLen; omega) (by omega) (by simp; omega) _ rfl ?_; intro g' cap' w4 hown4 hgrow4 hat4 hlt4; have HW4 := Hid.mk' hown4; have HB4 := Hid.mk' (lz_push HBA.out (by simp; omega) HR3.out hgrow4); clear hown4 hgrow4 hat4))
        exact ⟨⟨k + 1, K ++ [t0], out ++ t0, h1, by go_num, by first | rfl | rw [hj], by have := HLE.out; have := HTL.out; omega, by show _ = _; rw [List.length_append, HKL.out]; rfl, short_more HKS.out (by omega), by show World.ownsRow _ _ _ _ _ _ _; rw [strL_snoc]; exact HW4.out, HB4.out, HFX.out⟩, by simp [intOf]; omega⟩
      | false =>
        rw [hla] at HTX x2
        have HTX : Hid (txtP K c = t0 ++ [c.next]) := HTX.out
        rw [HTX.out] at HFX HLE
        clear hla
        have hcv := conv_one wr c.next
        have hadd := ba_add t0 c.next
        have hj := ba_join out (t0 ++ [c.next])
        have htb : (t0 ++ [c.next]).length ≤ 4000 := by have q1 : (out ++ (t0 ++ [c.next])).length ≤ (phT l).length := HLE.out; have q2 := HTL.out; rw [List.length_append] at q1; omega
        have hz2 : (⟨(t0 ++ [c.next]).toArray⟩ : ByteArray).size ≤ 4000 := by rw [ba_size]; exact htb
        have HR3 := Hid.mk' ((HR.out.alloc (.cells #[.int .u8 (c.next.toNat : Int)] 5)).alloc (.cells #[.string ⟨(t0 ++ [c.next]).toArray⟩] 9))
        have HBA : Hid (Below w.heap.size w ((wr.alloc (.cells #[.int .u8 (c.next.toNat : Int)] 5)).alloc (.cells #[.string ⟨(t0 ++ [c.next]).toArray⟩] 9))) := (HB.out.alloc hle _).alloc (by simp; omega) _
        go_wp2_with (at_builtin; go_must (refine wpList_append_lies _ rfl _ _ _ rfl w.heap.size 9 i _ 1 16 Tryd.underlying59 HINS.out.1 HINS.out.2.1 HINS.out.2.2.1 HINS.out.2.2.2 rfl (by omega) (.slice (some ⟨g, 0, none⟩) (k + 1) cp) (k + 1) (strL K) rfl HR3.out ⟨wr.heap.size + 1, 0, none⟩ 1 1 [.string ⟨(t0 ++ [c.next]).toArray⟩] rfl rfl (fun j u hu => by have := one_new (wr.alloc (.cells #[.int .u8 (c.next.toNat : Int)] 5)) (.string ⟨(t0 ++ [c.next]).toArray⟩) 9 j u hu; simpa using this) (by simp [Value.oneCell']) (by omega) (by unfold maxLen; omega) (by omega) (by simp; omega) _ rfl ?_; intro g' cap' w4 hown4 hgrow4 hat4 hlt4; have HW4 := Hid.mk' hown4; have HB4 := Hid.mk' (lz_push HBA.out (by simp; omega) HR3.out hgrow4); clear hown4 hgrow4 hat4))
        exact ⟨⟨k + 1, K ++ [t0 ++ [c.next]], out ++ (t0 ++ [c.next]), h1, by go_num, by first | rfl | rw [hj], by have := HLE.out; have := HTL.out; omega, by show _ = _; rw [List.length_append, HKL.out]; rfl, short_more HKS.out htb, by show World.ownsRow _ _ _ _ _ _ _; rw [strL_snoc]; exact HW4.out, HB4.out, HFX.out⟩, by simp [intOf]; omega⟩
    · obtain rfl : k = l.length := by omega
      have hkI : ¬ (l.length : Int) < (l.length : Int) := by omega
      have HE : Hid (out = phT l) := by have := HF.out; rw [List.drop_length] at this; exact this
      go_wp2_with fail
      go_ret
      exact ⟨by rw [HE.out]; rfl, HB.out⟩
end Go.Proofs.YtiocbnjdmceadaaDoor
