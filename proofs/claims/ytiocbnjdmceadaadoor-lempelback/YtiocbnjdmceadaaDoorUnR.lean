/- The program's Unslide: the text. -/
import Derived.Test.YtiocbnjdmceadaaDoorUnQ
namespace Go.Proofs.YtiocbnjdmceadaaDoor
open Go.RowKit

theorem cpE_ok {l : List CpI} (h : (cpE l).1 = 0) : l.length ≤ 4000 ∧ (chkE l).1 = 0 ∧ ∃ t, scanC l.length l 0 0 = .inr t ∧ t ≤ 4000 := by
  unfold cpE at h
  unfold chkE
  split at h
  · cases h
  · rename_i h1
    rw [if_neg h1]
    split at h
    · cases h
    · rename_i h2
      rw [if_neg h2]
      split at h
      · cases h
      · rename_i s hs
        rw [hs]
        split at h
        · cases h
        · exact ⟨by omega, rfl, s, rfl, by omega⟩
theorem cpE_bad {l : List CpI} (h : (cpE l).1 ≠ 0) : ((chkE l).1 ≠ 0 ∧ chkE l = cpE l) ∨ ((chkE l).1 = 0 ∧ cpE l = (2, -1) ∧ ∃ t, scanC l.length l 0 0 = .inr t ∧ 4000 < t) := by
  unfold cpE at h ⊢
  unfold chkE
  by_cases h1 : 4000 < l.length
  · rw [if_pos h1, if_pos h1]; exact Or.inl ⟨by decide, rfl⟩
  · rw [if_neg h1] at h ⊢
    rw [if_neg h1]
    by_cases h2 : (l.any fun c => decide (4000 < c.len)) = true
    · rw [if_pos h2, if_pos h2]; exact Or.inl ⟨by decide, rfl⟩
    · rw [if_neg h2] at h ⊢
      rw [if_neg h2]
      cases hs : scanC l.length l 0 0 with
      | inl i => exact Or.inl ⟨by simp, rfl⟩
      | inr s =>
        rw [hs] at h
        by_cases h3 : 4000 < s
        · exact Or.inr ⟨rfl, by simp only [if_pos h3], s, rfl, h3⟩
        · simp only [if_neg h3] at h
          exact absurd rfl h
theorem scan_here {n : Nat} {l : List CpI} {k s t : Nat} {c : CpI} (hc : l[k]? = some c) (h : scanC n (l.drop k) k s = .inr t) : badC n k s c = false ∧ scanC n (l.drop (k + 1)) (k + 1) (stepC s c) = .inr t := by
  rw [drop_at hc] at h
  cases hb : badC n k s c with
  | true => rw [scanC_bad hb] at h; cases h
  | false => rw [scanC_ok hb] at h; exact ⟨rfl, h⟩

set_option maxRecDepth 100000 in
set_option maxHeartbeats 4000000 in
theorem Unslide_ok (a : Nat → Addr) (v : Value) (l : List CpI) (w : World) (hE : Errs w a) (h : CpiAt w v l) (hok : (cpE l).1 = 0) :
    Calls Tryd.prog 18 #[v] w fun e w' => e = .returned (.tuple #[.string ⟨(cpT l).toArray⟩, .nilIface]) ∧ Below w.heap.size w w' := by
  obtain ⟨hln, hck, t, hsc, ht⟩ := cpE_ok hok
  have hC := checkCopies_any a v l w hE h (by omega)
  obtain ⟨ad, cap, rfl⟩ := h.form
  have HL := Hid.mk' (fun (W : World) (hb : Below w.heap.size w W) => h.later hb)
  obtain ⟨i, hi, hi2⟩ := Option.map_eq_some_iff.1 Tryd.infoU8
  obtain ⟨hz, hsz, hby⟩ : i.zero = some (.int .u8 0) ∧ i.size = 1 ∧ i.bytes = 1 := by simpa using hi2
  have HINF := Hid.mk' (And.intro hi (And.intro hz (And.intro hsz hby)))
  have HSC := Hid.mk' hsc
  clear hi hi2 hz hsz hby h hE hok hsc
  go_enter Tryd.func18, Tryd.ntmps18
  go_wp2_with fail
  refine hC.mono ?_
  clear hC
  rintro e w1 ⟨m, x, rfl, hx, hm, hb1⟩
  obtain rfl := hx.nil0 hck
  obtain rfl : m = t := by have := hm hck; rw [HSC.out] at this; exact (Sum.inr.inj this).symm
  have HB1 := Hid.mk' hb1
  have hle1 := hb1.size
  have hmI : ¬ (4000 : Int) < (m : Int) := by omega
  clear hx hm hb1 hck
  go_wp2_with (at_make; go_must (refine wpList_make_own _ rfl _ _ _ rfl w.heap.size 5 i _ 1 Tryd.underlying66 HINF.out.1 HINF.out.2.1 HINF.out.2.2.1 .i64 .i64 _ m rfl rfl rfl (by rw [HINF.out.2.2.2]; omega) (by unfold maxLen; omega) hle1 ?_; intro w2 hr2 hg2; have HR2 := Hid.mk' hr2; have HB2 := Hid.mk' (HB1.out.trans ((Below.refl _ _).grown hg2 hle1 (fun k e => by cases e))); clear hr2 hg2))
  go_loopw [6, 24] (fun s x wr => ∃ (k : Nat) (b : List UInt8), k ≤ l.length ∧ x = .int .i64 (k : Int) ∧ b.length ≤ 4000 ∧ Hid (wr.ownsRow w.heap.size 5 1 s b.length (bytC b)) ∧ Hid (Below w.heap.size w wr) ∧ Hid (scanC l.length (l.drop k) k b.length = .inr m) ∧ Hid ((l.drop k).foldl stepT b = cpT l)) (fun _ x _ => l.length - (intOf x).toNat)
  case atStart => exact ⟨0, [], Nat.zero_le _, rfl, Nat.zero_le _, HR2.out, HB2.out, HSC.out, rfl⟩
  case round =>
    obtain ⟨k, b, hk, rfl, hbl, HR, HB, HS, HF⟩ := hrel
    rcases Nat.lt_or_ge k l.length with h1 | h1
    · obtain ⟨c, hc⟩ : ∃ c, l[k]? = some c := ⟨_, List.getElem?_eq_getElem h1⟩
      obtain ⟨pb, po, rfl, x0, x1, x2, x3⟩ := (HL.out wr HB.out).at hc
      obtain ⟨hbad, hnx⟩ := scan_here hc HS.out
      have hmore := scan_more _ _ _ _ _ hnx
      have HNX : Hid (scanC l.length (l.drop (k + 1)) (k + 1) (stepT b c).length = .inr m) := by show _ = _; rw [stepT_length]; exact hnx
      have HFX : Hid ((l.drop (k + 1)).foldl stepT (stepT b c) = cpT l) := by show _ = _; rw [← HF.out, drop_at hc]; rfl
      obtain ⟨y1, y2, y3, y4, y5⟩ := badC_no hbad
      have HI := Hid.mk' (InUn.start c (t := 49) HR.out HB.out)
      have HSL := Hid.mk' (stepT_length b c)
      have hst : stepC b.length c ≤ 4000 := by omega
      have HBL : Hid ((stepT b c).length ≤ 4000) := by show _ ≤ _; rw [HSL.out]; exact hst
      have hstv : stepC b.length c = b.length + c.len.toNat + (if c.last = true then 0 else 1) := rfl
      have HST : Hid (stepT b c = if c.last = true then cpyN c.len.toNat c.back.toNat b else cpyN c.len.toNat c.back.toNat b ++ [c.next]) := rfl
      obtain ⟨n, hn⟩ : ∃ n : Nat, c.len = (n : Int) := ⟨c.len.toNat, by omega⟩
      obtain ⟨q, hq⟩ : ∃ q : Nat, c.back = (q : Int) := ⟨c.back.toNat, by omega⟩
      have hnb : b.length + n ≤ 4000 := by rw [hn] at hstv; simp only [Int.toNat_natCast] at hstv; split at hstv <;> omega
      have hqn : q ≤ b.length ∧ (n = 0 ∨ 0 < q) := by omega
      rw [hn, hq, Int.toNat_natCast, Int.toNat_natCast] at HST
      have hle := HB.out.size
      have hkI : (k : Int) < (l.length : Int) := by omega
      have hk0 : (0 : Int) ≤ (k : Int) := by omega
      have HCQ := Hid.mk' (And.intro hn hq)
      clear hbad hnx hmore y1 y2 y3 y4 y5 hst hstv hc
      obtain ⟨W0, hW0⟩ : ∃ W0, W0 = wr := ⟨_, rfl⟩
      rw [← hW0] at HI HR HB hle x0 x1 x2 x3 ⊢
      clear hW0
      rw [hn] at x1
      rw [hq] at x0
      clear hn hq
      go_wp2_with fail
      go_loopw [6, 30] (fun s x wr => ∃ j : Nat, j ≤ n ∧ x = .int .i64 (j : Int) ∧ Hid (InUn w wr s (cpyN j q b) W0.heap.size c)) (fun _ x _ => n - (intOf x).toNat)
      case atStart => exact ⟨0, Nat.zero_le _, rfl, by have := HI.out; rw [HCQ.out.1, HCQ.out.2] at this; exact this⟩
      case round =>
        obtain ⟨j, hj, rfl, HJ⟩ := hrel
        rcases Nat.lt_or_ge j n with h2 | h2
        · have hq0 : 0 < q := by omega
          have HLE := Hid.mk' (cpyN_length j q b)
          have HSU := Hid.mk' (cpyN_succ j q b)
          have hlen : (cpyN j q b).length = b.length + j := HLE.out
          generalize cpyN j q b = b' at *
          obtain ⟨g, cp, rfl, hg1, hg2⟩ := HJ.out.row.form (by omega)
          have z0 := HJ.out.c0
          rw [HCQ.out.2] at z0
          have hzl := HJ.out.lt
          have hx : wr.cell? ⟨g, b'.length - q, none⟩ = some (.int .u8 ((b'.getD (b'.length - q) 0).toNat : Int)) := by rw [HJ.out.row.cellAt _ (by omega)]; exact bytC_at (by omega)
          generalize b'.getD (b'.length - q) 0 = y at *
          have hleJ := HJ.out.below.size
          have hjI : (j : Int) < (n : Int) := by omega
          have hi1 : (0 : Int) ≤ (b'.length : Int) - (q : Int) := by omega
          have hi2 : (b'.length : Int) - (q : Int) < (b'.length : Int) := by omega
          have hlb : b'.length ≤ 4000 := by omega
          have HLN := Hid.mk' hlen
          clear hlen
          go_wp2_with (at_builtin; go_must (refine wpList_append_lies _ rfl _ _ _ rfl w.heap.size 5 i _ 1 1 Tryd.underlying66 HINF.out.1 HINF.out.2.1 HINF.out.2.2.1 HINF.out.2.2.2 rfl (by omega) (.slice (some ⟨g, 0, none⟩) b'.length cp) b'.length (bytC b') rfl (HJ.out.row.alloc _) ⟨wr.heap.size, 0, none⟩ 1 1 [.int .u8 (y.toNat : Int)] rfl rfl (new_one wr _ _) (by simp [Value.oneCell']) (by omega) (by unfold maxLen; omega) (by omega) (by simp; omega) _ rfl ?_; intro g' cap' w3 hown3 hgrow3 hat3 hlt3; have HJ3 := Hid.mk' (HJ.out.push hown3 hgrow3 (by simpa using hat3)); clear hown3 hgrow3 hat3))
          exact ⟨⟨j + 1, h2, by go_num, by show InUn _ _ _ _ _ _; rw [HSU.out]; exact HJ3.out⟩, by simp [intOf]; omega⟩
        · obtain rfl : j = n := by omega
          have hjI : ¬ (j : Int) < (j : Int) := by omega
          have z2 := HJ.out.c2
          have z3 := HJ.out.c3
          have hzl := HJ.out.lt
          have hleJ := HJ.out.below.size
          have HLE := Hid.mk' (cpyN_length j q b)
          have hlb : (cpyN j q b).length ≤ 4000 := by rw [HLE.out]; omega
          cases hla : c.last with
          | true =>
            rw [hla, if_pos rfl] at HST
            rw [hla] at z3
            clear hla
            go_wp2_with fail
            exact ⟨⟨k + 1, stepT b c, h1, by go_num, HBL.out, by show World.ownsRow _ _ _ _ _ _ _; rw [HST.out]; exact HJ.out.row, HJ.out.below, HNX.out, HFX.out⟩, by simp [intOf]; omega⟩
          | false =>
            rw [hla, if_neg (by decide)] at HST
            rw [hla] at z3
            clear hla
            generalize cpyN j q b = b' at *
            go_wp2_with (at_builtin; go_must (refine wpList_append_lies _ rfl _ _ _ rfl w.heap.size 5 i _ 1 1 Tryd.underlying66 HINF.out.1 HINF.out.2.1 HINF.out.2.2.1 HINF.out.2.2.2 rfl (by omega) u6 b'.length (bytC b') rfl (HJ.out.row.alloc _) ⟨wr.heap.size, 0, none⟩ 1 1 [.int .u8 (c.next.toNat : Int)] rfl rfl (new_one wr _ _) (by simp [Value.oneCell']) (by omega) (by unfold maxLen; omega) (by omega) (by simp; omega) _ rfl ?_; intro g' cap' w3 hown3 hgrow3 hat3 hlt3; have HJ3 := Hid.mk' (HJ.out.push hown3 hgrow3 (by simpa using hat3)); clear hown3 hgrow3 hat3))
            exact ⟨⟨k + 1, stepT b c, h1, by go_num, HBL.out, by show World.ownsRow _ _ _ _ _ _ _; rw [HST.out]; have := HJ3.out.row; simpa using this, HJ3.out.below, HNX.out, HFX.out⟩, by simp [intOf]; omega⟩
    · obtain rfl : k = l.length := by omega
      have hkI : ¬ (l.length : Int) < (l.length : Int) := by omega
      have HE : Hid (b = cpT l) := by have := HF.out; rw [List.drop_length] at this; exact this
      have hcv := row_bytes HR.out
      go_wp2_with fail
      go_ret2
      exact ⟨by rw [HE.out]; rfl, HB.out⟩
end Go.Proofs.YtiocbnjdmceadaaDoor
