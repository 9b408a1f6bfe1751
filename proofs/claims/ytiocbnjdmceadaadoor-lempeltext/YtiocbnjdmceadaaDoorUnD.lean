/- Unslide of copies that are not in form; the document's CopiesText. -/
import Derived.Test.YtiocbnjdmceadaaDoorUnR
namespace Go.Proofs.YtiocbnjdmceadaaDoor
open Go.RowKit

set_option maxRecDepth 100000 in
theorem Unslide_bad (a : Nat → Addr) (v : Value) (l : List CpI) (w : World) (hE : Errs w a) (h : CpiAt w v l) (hn : l.length ≤ 1000000) (hbad : (cpE l).1 ≠ 0) :
    Calls Tryd.prog 18 #[v] w fun e w' => ∃ x, e = .returned (.tuple #[.string ⟨#[]⟩, x]) ∧ ErrIs a w' x (cpE l) ∧ Below w.heap.size w w' := by
  have hC := checkCopies_any a v l w hE h hn
  obtain ⟨ad, cap, rfl⟩ := h.form
  have HE1 := Hid.mk' (fun (W : World) (hb : Below w.heap.size w W) => (hE.below hb).c1)
  have HBD := Hid.mk' (cpE_bad hbad)
  clear h hE hbad
  go_enter Tryd.func18, Tryd.ntmps18
  go_wp2_with fail
  refine hC.mono ?_
  clear hC
  rintro e w1 ⟨m, x, rfl, hx, hm, hb1⟩
  have HB1 := Hid.mk' hb1
  rcases HBD.out with ⟨h1, h2⟩ | ⟨h1, h2, t, h3, h4⟩
  · rw [h2] at hx h1
    obtain ⟨tt, y, rfl⟩ := hx.iface h1
    have HX := Hid.mk' hx
    clear hx hm hb1 h1 h2
    go_wp2_with fail
    go_ret2
    exact ⟨_, rfl, HX.out, HB1.out⟩
  · obtain rfl := hx.nil0 h1
    obtain rfl : m = t := by have := hm h1; rw [h3] at this; exact (Sum.inr.inj this).symm
    have hmI : (4000 : Int) < (m : Int) := by omega
    have e1 := HE1.out w1 hb1
    have H2 := Hid.mk' h2
    clear hx hm hb1 h1 h2 h3
    go_wp2_with fail
    go_quiet (fail)
    go_wp2_with fail
    go_ret2
    exact ⟨_, rfl, by rw [H2.out]; exact Or.inl ⟨rfl, rfl, by decide⟩, below_drewN HB1.out _⟩

set_option maxRecDepth 100000 in
set_option maxHeartbeats 4000000 in
theorem CopiesText_any (v : Value) (l : List CpI) (w : World) (h : CpiAt w v l) (hok : (cpE l).1 = 0) :
    Calls Tryd.prog 20 #[v] w fun e w' => e = .returned (.string ⟨(cpT l).toArray⟩) ∧ Below w.heap.size w w' := by
  obtain ⟨hln, hck, m, hsc, ht⟩ := cpE_ok hok
  obtain ⟨ad, cap, rfl⟩ := h.form
  have HL := Hid.mk' (fun (W : World) (hb : Below w.heap.size w W) => h.later hb)
  obtain ⟨i, hi, hi2⟩ := Option.map_eq_some_iff.1 Tryd.infoU8
  obtain ⟨hz, hsz, hby⟩ : i.zero = some (.int .u8 0) ∧ i.size = 1 ∧ i.bytes = 1 := by simpa using hi2
  have HINF := Hid.mk' (And.intro hi (And.intro hz (And.intro hsz hby)))
  have HSC := Hid.mk' hsc
  clear hi hi2 hz hsz hby h hok hsc hck
  go_enter Tryd.func20, Tryd.ntmps20
  go_wp2_with fail
  go_loopw [3, 4] (fun s x wr => ∃ (k : Nat) (b : List UInt8), k ≤ l.length ∧ x = .int .i64 (k : Int) ∧ b.length ≤ 4000 ∧ Hid (wr.ownsRow w.heap.size 5 1 s b.length (bytC b)) ∧ Hid (Below w.heap.size w wr) ∧ Hid (scanC l.length (l.drop k) k b.length = .inr m) ∧ Hid ((l.drop k).foldl stepT b = cpT l)) (fun _ x _ => l.length - (intOf x).toNat)
  case atStart => exact ⟨0, [], Nat.zero_le _, rfl, Nat.zero_le _, World.ownsRow_nil _ _ _ _, Below.refl _ _, HSC.out, rfl⟩
  case round =>
    obtain ⟨k, b, hk, rfl, hbl, HR, HB, HS, HF⟩ := hrel
    rcases Nat.lt_or_ge k l.length with h1 | h1
    · obtain ⟨c, hc⟩ : ∃ c, l[k]? = some c := ⟨_, List.getElem?_eq_getElem h1⟩
      obtain ⟨pb, po, rfl, _⟩ := (HL.out wr HB.out).at hc
      have HCL := Hid.mk' (fun (W : World) (hb : Below w.heap.size w W) => (HL.out W hb).at hc)
      obtain ⟨hbad, hnx⟩ := scan_here hc HS.out
      have hmore := scan_more _ _ _ _ _ hnx
      have HNX : Hid (scanC l.length (l.drop (k + 1)) (k + 1) (stepT b c).length = .inr m) := by show _ = _; rw [stepT_length]; exact hnx
      have HFX : Hid ((l.drop (k + 1)).foldl stepT (stepT b c) = cpT l) := by show _ = _; rw [← HF.out, drop_at hc]; rfl
      obtain ⟨y1, y2, y3, y4, y5⟩ := badC_no hbad
      have HSL := Hid.mk' (stepT_length b c)
      have hst : stepC b.length c ≤ 4000 := by omega
      have HBL : Hid ((stepT b c).length ≤ 4000) := by show _ ≤ _; rw [HSL.out]; exact hst
      have hstv : stepC b.length c = b.length + c.len.toNat + (if c.last = true then 0 else 1) := rfl
      have HST : Hid (stepT b c = if c.last = true then cpyN c.len.toNat c.back.toNat b else cpyN c.len.toNat c.back.toNat b ++ [c.next]) := rfl
      obtain ⟨n, hn⟩ : ∃ n : Nat, c.len = (n : Int) := ⟨c.len.toNat, by omega⟩
      obtain ⟨q, hq⟩ : ∃ q : Nat, c.back = (q : Int) := ⟨c.back.toNat, by omega⟩
      have hnb : b.length + n ≤ 4000 := by rw [hn] at hstv; simp only [Int.toNat_natCast] at hstv; split at hstv <;> omega
      have hqn : q ≤ b.length ∧ (n = 0 ∨ 0 < q) := by omega
      rw [hn, hq, Int.toNat_natCast, Int.toNat_natCast] at HST
      rw [hn, hq] at HCL
      have hkI : (k : Int) < (l.length : Int) := by omega
      have hk0 : (0 : Int) ≤ (k : Int) := by omega
      clear hbad hnx hmore y1 y2 y3 y4 y5 hst hstv hc hn hq
      go_wp2_with fail
      go_loopw [3, 5] (fun s x wr => ∃ j : Nat, j ≤ n ∧ x = .int .i64 (j : Int) ∧ Hid (wr.ownsRow w.heap.size 5 1 s (cpyN j q b).length (bytC (cpyN j q b))) ∧ Hid (Below w.heap.size w wr)) (fun _ x _ => n - (intOf x).toNat)
      case atStart => exact ⟨0, Nat.zero_le _, rfl, HR.out, HB.out⟩
      case round =>
        clear HR HB
        obtain ⟨j, hj, rfl, HR, HB⟩ := hrel
        obtain ⟨pb', po', hpo, x0, x1, x2, x3⟩ := HCL.out wr HB.out
        obtain ⟨rfl, rfl⟩ : pb = pb' ∧ po = po' := by simpa using hpo
        have hle := HB.out.size
        clear hpo
        rcases Nat.lt_or_ge j n with h2 | h2
        · have hq0 : 0 < q := by omega
          have HLE := Hid.mk' (cpyN_length j q b)
          have HSU := Hid.mk' (cpyN_succ j q b)
          have hlen : (cpyN j q b).length = b.length + j := HLE.out
          generalize cpyN j q b = b' at *
          obtain ⟨g, cp, rfl, hg1, hg2⟩ := HR.out.form (by omega)
          have hx : wr.cell? ⟨g, b'.length - q, none⟩ = some (.int .u8 ((b'.getD (b'.length - q) 0).toNat : Int)) := by rw [HR.out.cellAt _ (by omega)]; exact bytC_at (by omega)
          generalize b'.getD (b'.length - q) 0 = y at *
          have hjI : (j : Int) < (n : Int) := by omega
          have hi1 : (0 : Int) ≤ (b'.length : Int) - (q : Int) := by omega
          have hi2 : (b'.length : Int) - (q : Int) < (b'.length : Int) := by omega
          have hlb : b'.length ≤ 4000 := by omega
          have HLN := Hid.mk' hlen
          clear hlen
          go_wp2_with (at_builtin; go_must (refine wpList_append_lies _ rfl _ _ _ rfl w.heap.size 5 i _ 1 1 Tryd.underlying66 HINF.out.1 HINF.out.2.1 HINF.out.2.2.1 HINF.out.2.2.2 rfl (by omega) (.slice (some ⟨g, 0, none⟩) b'.length cp) b'.length (bytC b') rfl (HR.out.alloc _) ⟨wr.heap.size, 0, none⟩ 1 1 [.int .u8 (y.toNat : Int)] rfl rfl (new_one wr _ _) (by simp [Value.oneCell']) (by omega) (by unfold maxLen; omega) (by omega) (by simp; omega) _ rfl ?_; intro g' cap' w3 hown3 hgrow3 hat3 hlt3; have HW3 := Hid.mk' hown3; have HB3 := Hid.mk' (lz_push (HB.out.alloc hle _) (by simp; omega) (HR.out.alloc _) hgrow3); clear hown3 hgrow3 hat3))
          exact ⟨⟨j + 1, h2, by go_num, by show World.ownsRow _ _ _ _ _ _ _; rw [HSU.out, bytC_snoc, List.length_append]; exact HW3.out, HB3.out⟩, by simp [intOf]; omega⟩
        · obtain rfl : j = n := by omega
          have hjI : ¬ (j : Int) < (j : Int) := by omega
          have HLE := Hid.mk' (cpyN_length j q b)
          have hlb : (cpyN j q b).length ≤ 4000 := by rw [HLE.out]; omega
          cases hla : c.last with
          | true =>
            rw [hla, if_pos rfl] at HST
            rw [hla] at x3
            clear hla
            go_wp2_with fail
            exact ⟨⟨k + 1, stepT b c, h1, by go_num, HBL.out, by show World.ownsRow _ _ _ _ _ _ _; rw [HST.out]; exact HR.out, HB.out, HNX.out, HFX.out⟩, by simp [intOf]; omega⟩
          | false =>
            rw [hla, if_neg (by decide)] at HST
            rw [hla] at x3
            clear hla
            generalize cpyN j q b = b' at *
            go_wp2_with (at_builtin; go_must (refine wpList_append_lies _ rfl _ _ _ rfl w.heap.size 5 i _ 1 1 Tryd.underlying66 HINF.out.1 HINF.out.2.1 HINF.out.2.2.1 HINF.out.2.2.2 rfl (by omega) u3 b'.length (bytC b') rfl (HR.out.alloc _) ⟨wr.heap.size, 0, none⟩ 1 1 [.int .u8 (c.next.toNat : Int)] rfl rfl (new_one wr _ _) (by simp [Value.oneCell']) (by omega) (by unfold maxLen; omega) (by omega) (by simp; omega) _ rfl ?_; intro g' cap' w3 hown3 hgrow3 hat3 hlt3; have HW3 := Hid.mk' hown3; have HB3 := Hid.mk' (lz_push (HB.out.alloc hle _) (by simp; omega) (HR.out.alloc _) hgrow3); clear hown3 hgrow3 hat3))
            exact ⟨⟨k + 1, stepT b c, h1, by go_num, HBL.out, by show World.ownsRow _ _ _ _ _ _ _; rw [HST.out, bytC_snoc, List.length_append]; exact HW3.out, HB3.out, HNX.out, HFX.out⟩, by simp [intOf]; omega⟩
    · obtain rfl : k = l.length := by omega
      have hkI : ¬ (l.length : Int) < (l.length : Int) := by omega
      have HE : Hid (b = cpT l) := by have := HF.out; rw [List.drop_length] at this; exact this
      have hcv := row_bytes HR.out
      go_wp2_with fail
      go_ret
      exact ⟨by rw [HE.out]; rfl, HB.out⟩
end Go.Proofs.YtiocbnjdmceadaaDoor
