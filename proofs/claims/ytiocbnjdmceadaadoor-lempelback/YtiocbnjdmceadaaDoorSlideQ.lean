/- The program's Slide. -/
import Derived.Test.YtiocbnjdmceadaaDoorLzRow
import Derived.Test.YtiocbnjdmceadaaDoorWeights
import Derived.Deep.AppendLies
import Derived.OwnWalk
namespace Go.Proofs.YtiocbnjdmceadaaDoor
open Go.RowKit

theorem Tryd.infoCpy : (Tryd.prog.info? 49).map (fun i => (i.zero, i.size, i.bytes)) = some (some (.agg #[.int .i64 0, .int .i64 0, .int .u8 0, .bool false]), 4, 24) := by kernel_rfl
theorem min_nat (a b : Nat) : min (a : Int) (b : Int) = ((min a b : Nat) : Int) := by omega

set_option maxRecDepth 100000 in
set_option maxHeartbeats 2000000 in
theorem Slide_ok (T : ByteArray) (win : Nat) (w : World) (hs : T.size ≤ 4000) (h1 : 1 ≤ win) (h4 : win ≤ 4000) :
    Calls Tryd.prog 16 #[.string T, .int .i64 win] w fun e w' => ∃ v, e = .returned (.tuple #[v, .nilIface]) ∧ w'.ownsRow w.heap.size 49 4 v (slL T.data.toList win (T.size + 1) 0).length (cpysC (slL T.data.toList win (T.size + 1) 0)) ∧ Below w.heap.size w w' := by
  obtain ⟨i, hi, hi2⟩ := Option.map_eq_some_iff.1 Tryd.infoCpy
  obtain ⟨hz, hsz, hby⟩ : i.zero = some (.agg #[.int .i64 0, .int .i64 0, .int .u8 0, .bool false]) ∧ i.size = 4 ∧ i.bytes = 24 := by simpa using hi2
  have HINF := Hid.mk' (And.intro hi (And.intro hz (And.intro hsz hby)))
  clear hi hi2 hz hsz hby
  have HLO : Hid (∀ p W, p ≤ T.size → Calls Tryd.prog 26 #[.string T, .int .i64 p, .int .i64 (min win p : Nat)] W fun e w' => e = .returned (.agg #[.int .i64 ((bst T.data.toList p (min win p)).1 : Nat), .int .i64 ((bst T.data.toList p (min win p)).2 : Nat), .int .u8 0, .bool false]) ∧ Below W.heap.size W w') := fun p W hp => longest_any T p (min win p) W hp (by omega) (by omega)
  have HLL : Hid (T.data.toList.length = T.size) := size_lst T
  have h1I : ¬ (win : Int) < 1 := by omega
  have h4I : ¬ (4000 : Int) < (win : Int) := by omega
  have hsI : ¬ (4000 : Int) < (T.size : Int) := by omega
  go_enter Tryd.func16, Tryd.ntmps16
  go_wp2_with fail
  go_loopw [6, 7] (fun s t wr => ∃ (out : List Cpy) (p f : Nat), t = .int .i64 (p : Int) ∧ out.length ≤ p ∧ p ≤ T.size + 1 ∧ T.size + 1 ≤ f + p ∧ Hid (wr.ownsRow w.heap.size 49 4 s out.length (cpysC out)) ∧ Hid (Below w.heap.size w wr) ∧ Hid (slL T.data.toList win (T.size + 1) 0 = out ++ slL T.data.toList win f p)) (fun _ t _ => T.size + 1 - (intOf t).toNat)
  case atStart => exact ⟨[], 0, T.size + 1, rfl, Nat.le_refl _, Nat.zero_le _, Nat.le_refl _, World.ownsRow_nil _ _ _ _, Below.refl _ _, rfl⟩
  case round =>
    obtain ⟨out, p, f, rfl, ho, hp, hf, HO, HB, HS⟩ := hrel
    rcases Nat.lt_or_ge p T.size with h2 | h2
    · have hpI : (p : Int) < (T.size : Int) := by omega
      have hle := HB.out.size
      obtain ⟨f, rfl⟩ : ∃ f', f = f' + 1 := ⟨f - 1, by omega⟩
      have HLP := HLO.out p wr (by omega)
      have hb2 := (bst_le T.data.toList p (min win p)).2
      rw [HLL.out] at hb2
      have HST : Hid (p + (bst T.data.toList p (min win p)).2 < T.size → slL T.data.toList win (f + 1) p = ⟨(bst T.data.toList p (min win p)).1, (bst T.data.toList p (min win p)).2, (T.data.toList.getD (p + (bst T.data.toList p (min win p)).2) 0).toNat, false⟩ :: slL T.data.toList win f (p + (bst T.data.toList p (min win p)).2 + 1)) := fun h3 => slL_step T.data.toList win f p (by rw [HLL.out]; exact h2) (by rw [HLL.out]; exact h3)
      have HLA : Hid (T.size ≤ p + (bst T.data.toList p (min win p)).2 → slL T.data.toList win (f + 1) p = [⟨(bst T.data.toList p (min win p)).1, (bst T.data.toList p (min win p)).2, 0, true⟩]) := fun h3 => slL_last T.data.toList win f p (by rw [HLL.out]; exact h2) (by rw [HLL.out]; exact h3)
      have HGT : Hid (∀ q (h3 : q < T.size), (T.data.toList.getD q 0).toNat = (T[q]'h3).toNat) := fun q h3 => by
        rw [List.getD_eq_getElem?_getD, List.getElem?_eq_getElem (by rw [HLL.out]; exact h3), Option.getD_some, byte_list T _ h3 (by rw [HLL.out]; exact h3)]
      generalize bst T.data.toList p (min win p) = r at *
      obtain ⟨M, hM, hMc⟩ : ∃ M, min win p = M ∧ (M = p ∧ ((p : Int) < (win : Int) ∧ ¬ (win : Int) ≤ (p : Int)) ∨ M = win ∧ (¬ (p : Int) < (win : Int) ∧ (win : Int) ≤ (p : Int))) := ⟨_, rfl, by omega⟩
      rw [hM] at HLP
      clear hM
      rcases hMc with ⟨hMe, hMc, hMd⟩ | ⟨hMe, hMc, hMd⟩ <;> rw [hMe] at HLP <;> clear hMe M
      all_goals
        rcases Nat.lt_or_ge (p + r.2) T.size with h3 | h3
        · have HST := Hid.mk' (HST.out h3)
          rw [HGT.out _ h3] at HST
          have h3I : (p : Int) + (r.2 : Int) < (T.size : Int) := by omega
          go_wp2_with fail
          refine HLP.mono ?_
          clear HLP
          rintro e w1 ⟨rfl, hb1⟩
          have HB1 := Hid.mk' hb1
          have hle1 := hb1.size
          clear hb1
          have HR0 := Hid.mk' ((((lzrow_later HO.out HB1.out).alloc (.cells #[.int .i64 (r.1 : Int), .int .i64 (r.2 : Int), .int .u8 ((T[p + r.2]'h3).toNat : Int), .bool false] 49)).alloc (.cells #[.int .i64 (r.1 : Int), .int .i64 (r.2 : Int), .int .u8 ((T[p + r.2]'h3).toNat : Int), .bool false] 49)))
          have HN0 : Hid (∀ j u, [Value.int .i64 (r.1 : Int), .int .i64 (r.2 : Int), .int .u8 ((T[p + r.2]'h3).toNat : Int), .bool false][j]? = some u → ((w1.alloc (.cells #[.int .i64 (r.1 : Int), .int .i64 (r.2 : Int), .int .u8 ((T[p + r.2]'h3).toNat : Int), .bool false] 49)).alloc (.cells #[.int .i64 (r.1 : Int), .int .i64 (r.2 : Int), .int .u8 ((T[p + r.2]'h3).toNat : Int), .bool false] 49)).cell? ((⟨w1.heap.size + 1, 0, none⟩ : Addr).add j) = some u) := fun j u hu => by
            have := four_new (w1.alloc (.cells #[.int .i64 (r.1 : Int), .int .i64 (r.2 : Int), .int .u8 ((T[p + r.2]'h3).toNat : Int), .bool false] 49)) (.int .i64 (r.1 : Int)) (.int .i64 (r.2 : Int)) (.int .u8 ((T[p + r.2]'h3).toNat : Int)) (.bool false) 49 j u hu
            simpa using this
          have HBB : Hid (Below w.heap.size w ((w1.alloc (.cells #[.int .i64 (r.1 : Int), .int .i64 (r.2 : Int), .int .u8 ((T[p + r.2]'h3).toNat : Int), .bool false] 49)).alloc (.cells #[.int .i64 (r.1 : Int), .int .i64 (r.2 : Int), .int .u8 ((T[p + r.2]'h3).toNat : Int), .bool false] 49))) := ((below_chain HB.out HB1.out).alloc (by omega) _).alloc (by simp; omega) _
          go_wp2_with (at_builtin; go_must (refine wpList_append_lies _ rfl _ _ _ rfl w.heap.size 49 i _ 4 24 Tryd.underlying43 HINF.out.1 HINF.out.2.1 HINF.out.2.2.1 HINF.out.2.2.2 rfl (by omega) u6 out.length (cpysC out) rfl HR0.out ⟨w1.heap.size + 1, 0, none⟩ 1 1 [.int .i64 (r.1 : Int), .int .i64 (r.2 : Int), .int .u8 ((T[p + r.2]'h3).toNat : Int), .bool false] rfl rfl HN0.out (by simp [Value.oneCell']) (by omega) (by unfold maxLen; omega) (by omega) (by simp; omega) _ rfl ?_; intro g' cap' w3 hown3 hgrow3 hat3 hlt3; have HW3 := Hid.mk' hown3; have HB3 := Hid.mk' (lz_push HBB.out (by simp; omega) HR0.out hgrow3); clear hown3 hgrow3 hat3))
          exact ⟨⟨out ++ [⟨r.1, r.2, (T[p + r.2]'h3).toNat, false⟩], p + r.2 + 1, f, by go_num, by simp; omega, by omega, by omega, by show World.ownsRow _ _ _ _ _ _ _; have := HW3.out; rw [cpysC_snoc, List.length_append]; simpa using this, HB3.out, by show _ = _; rw [HS.out, HST.out]; simp⟩, by simp [intOf]; omega⟩
        · have HST := Hid.mk' (HLA.out h3)
          have h3I : ¬ (p : Int) + (r.2 : Int) < (T.size : Int) := by omega
          have HEN : Hid (slL T.data.toList win f (p + r.2 + 1) = []) := slL_end _ _ _ _ (by rw [HLL.out]; omega)
          go_wp2_with fail
          refine HLP.mono ?_
          clear HLP
          rintro e w1 ⟨rfl, hb1⟩
          have HB1 := Hid.mk' hb1
          have hle1 := hb1.size
          clear hb1
          have HR0 := Hid.mk' ((((lzrow_later HO.out HB1.out).alloc (.cells #[.int .i64 (r.1 : Int), .int .i64 (r.2 : Int), .int .u8 0, .bool true] 49)).alloc (.cells #[.int .i64 (r.1 : Int), .int .i64 (r.2 : Int), .int .u8 0, .bool true] 49)))
          have HN0 : Hid (∀ j u, [Value.int .i64 (r.1 : Int), .int .i64 (r.2 : Int), .int .u8 0, .bool true][j]? = some u → ((w1.alloc (.cells #[.int .i64 (r.1 : Int), .int .i64 (r.2 : Int), .int .u8 0, .bool true] 49)).alloc (.cells #[.int .i64 (r.1 : Int), .int .i64 (r.2 : Int), .int .u8 0, .bool true] 49)).cell? ((⟨w1.heap.size + 1, 0, none⟩ : Addr).add j) = some u) := fun j u hu => by
            have := four_new (w1.alloc (.cells #[.int .i64 (r.1 : Int), .int .i64 (r.2 : Int), .int .u8 0, .bool true] 49)) (.int .i64 (r.1 : Int)) (.int .i64 (r.2 : Int)) (.int .u8 0) (.bool true) 49 j u hu
            simpa using this
          have HBB : Hid (Below w.heap.size w ((w1.alloc (.cells #[.int .i64 (r.1 : Int), .int .i64 (r.2 : Int), .int .u8 0, .bool true] 49)).alloc (.cells #[.int .i64 (r.1 : Int), .int .i64 (r.2 : Int), .int .u8 0, .bool true] 49))) := ((below_chain HB.out HB1.out).alloc (by omega) _).alloc (by simp; omega) _
          go_wp2_with (at_builtin; go_must (refine wpList_append_lies _ rfl _ _ _ rfl w.heap.size 49 i _ 4 24 Tryd.underlying43 HINF.out.1 HINF.out.2.1 HINF.out.2.2.1 HINF.out.2.2.2 rfl (by omega) u6 out.length (cpysC out) rfl HR0.out ⟨w1.heap.size + 1, 0, none⟩ 1 1 [.int .i64 (r.1 : Int), .int .i64 (r.2 : Int), .int .u8 0, .bool true] rfl rfl HN0.out (by simp [Value.oneCell']) (by omega) (by unfold maxLen; omega) (by omega) (by simp; omega) _ rfl ?_; intro g' cap' w3 hown3 hgrow3 hat3 hlt3; have HW3 := Hid.mk' hown3; have HB3 := Hid.mk' (lz_push HBB.out (by simp; omega) HR0.out hgrow3); clear hown3 hgrow3 hat3))
          exact ⟨⟨out ++ [⟨r.1, r.2, 0, true⟩], p + r.2 + 1, f, by go_num, by simp; omega, by omega, by omega, by show World.ownsRow _ _ _ _ _ _ _; have := HW3.out; rw [cpysC_snoc, List.length_append]; simpa using this, HB3.out, by show _ = _; rw [HS.out, HST.out]; simp [HEN.out]⟩, by simp [intOf]; omega⟩
    · have hpI : ¬ (p : Int) < (T.size : Int) := by omega
      have HF : Hid (slL T.data.toList win (T.size + 1) 0 = out) := by show _ = _; rw [HS.out, slL_end _ _ _ _ (by rw [HLL.out]; exact h2), List.append_nil]
      go_wp2_with fail
      go_ret2
      exact ⟨_, rfl, by rw [HF.out]; exact HO.out, HB.out⟩
end Go.Proofs.YtiocbnjdmceadaaDoor
