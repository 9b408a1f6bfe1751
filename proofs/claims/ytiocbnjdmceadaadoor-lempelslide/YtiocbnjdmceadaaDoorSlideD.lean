/- The document's SlideOf. -/
import Derived.Test.YtiocbnjdmceadaaDoorSlideQ
namespace Go.Proofs.YtiocbnjdmceadaaDoor
open Go.RowKit

theorem Tryd.infoCpd : (Tryd.prog.info? 50).map (fun i => (i.zero, i.size, i.bytes)) = some (some (.agg #[.int .i64 0, .int .i64 0, .int .u8 0, .bool false]), 4, 24) := by kernel_rfl
theorem wrap_two {p n : Nat} (h : p + n ≤ 1000000) : IntKind.i64.wrap ((p : Int) + (n : Int)) = (p : Int) + (n : Int) := by
  simp only [IntKind.wrap_i64]
  omega
theorem BoxC.set2 {w : World} {b : Nat} {r : Nat × Nat} (h : BoxC w b r) (x y : Nat) : BoxC ((w.setCell ⟨b, 1, none⟩ (.int .i64 (y : Int))).setCell ⟨b, 0, none⟩ (.int .i64 (x : Int))) b (x, y) := by
  refine ⟨?_, ?_, ?_, ?_, fun i => by rw [World.frozen?_setCell, World.frozen?_setCell]; exact h.fz i⟩
  · exact World.cell?_setCell_same _ _ _ (by rw [World.cell?_setCell_other _ _ _ _ (by simp)]; exact h.c0)
  · rw [World.cell?_setCell_other _ _ _ _ (by simp)]; exact World.cell?_setCell_same _ _ _ h.c1
  · rw [World.cell?_setCell_other _ _ _ _ (by simp), World.cell?_setCell_other _ _ _ _ (by simp)]; exact h.c2
  · rw [World.cell?_setCell_other _ _ _ _ (by simp), World.cell?_setCell_other _ _ _ _ (by simp)]; exact h.c3
theorem lzrow_not {w : World} {base : Nat} {t : TypeId} {sz : Nat} {v : Value} {n B : Nat} {xs : List Value} (h : w.ownsRow base t sz v n xs) (hB : w.heap.size ≤ B) : v.ownBlock ≠ some B := fun e => by
  have := (h.lt B e).2
  omega

set_option maxRecDepth 100000 in
set_option maxHeartbeats 4000000 in
theorem SlideOf_any (T : ByteArray) (win : Nat) (w : World) (hs : T.size ≤ 4000) (h1 : 1 ≤ win) (h4 : win ≤ 4000) :
    Calls Tryd.prog 17 #[.string T, .int .i64 win] w fun e w' => ∃ v, e = .returned v ∧ w'.ownsRow w.heap.size 50 4 v (slL T.data.toList win (T.size + 1) 0).length (cpysC (slL T.data.toList win (T.size + 1) 0)) ∧ Below w.heap.size w w' := by
  obtain ⟨i, hi, hi2⟩ := Option.map_eq_some_iff.1 Tryd.infoCpd
  obtain ⟨hz, hsz, hby⟩ : i.zero = some (.agg #[.int .i64 0, .int .i64 0, .int .u8 0, .bool false]) ∧ i.size = 4 ∧ i.bytes = 24 := by simpa using hi2
  have HINF := Hid.mk' (And.intro hi (And.intro hz (And.intro hsz hby)))
  clear hi hi2 hz hsz hby
  have HLL : Hid (T.data.toList.length = T.size) := size_lst T
  go_enter Tryd.func17, Tryd.ntmps17
  go_wp2_with fail
  go_loopw [5, 6] (fun s t wr => ∃ (out : List Cpy) (p f : Nat), t = .int .i64 (p : Int) ∧ out.length ≤ p ∧ p ≤ T.size ∧ T.size ≤ f + p ∧ Hid (wr.ownsRow w.heap.size 50 4 s out.length (cpysC out)) ∧ Hid (Below w.heap.size w wr) ∧ Hid (slL T.data.toList win (T.size + 1) 0 = out ++ slL T.data.toList win f p)) (fun _ t _ => T.size - (intOf t).toNat)
  case atStart => exact ⟨[], 0, T.size + 1, rfl, Nat.le_refl _, Nat.zero_le _, by omega, World.ownsRow_nil _ _ _ _, Below.refl _ _, rfl⟩
  case round =>
    obtain ⟨out, p, f, rfl, ho, hp, hf, HO, HB, HS⟩ := hrel
    rcases Nat.lt_or_ge p T.size with h2 | h2
    · have hpI : (p : Int) < (T.size : Int) := by omega
      have hle := HB.out.size
      obtain ⟨f, rfl⟩ : ∃ f', f = f' + 1 := ⟨f - 1, by omega⟩
      obtain ⟨W0, hW0⟩ : ∃ W0, W0 = wr := ⟨_, rfl⟩
      rw [← hW0] at HO HB hle ⊢
      clear hW0
      go_wp2_with fail
      go_loopw [8] (fun t wr => ∃ k : Nat, k ≤ min win p ∧ t = .int .i64 ((p : Int) - 1 - (k : Int)) ∧ Hid (BoxC wr W0.heap.size (bst T.data.toList p k)) ∧ Hid (Below W0.heap.size W0 wr)) (fun t _ => ((intOf t) + 1).toNat)
      case atStart => exact ⟨0, Nat.zero_le _, by go_num, BoxC.made W0 _, (Below.refl _ _).alloc (Nat.le_refl _) _⟩
      case round =>
        obtain ⟨k, hk, rfl, HX, HBW⟩ := hrel
        rcases Nat.lt_or_ge k (min win p) with h3 | h3
        · obtain ⟨W1, hW1⟩ : ∃ W1, W1 = wr := ⟨_, rfl⟩
          rw [← hW1] at HX HBW ⊢
          clear hW1
          have c0 := HX.out.c0
          have c1 := HX.out.c1
          have c2 := HX.out.c2
          have c3 := HX.out.c3
          have f0 := HX.out.fz 0
          have f1 := HX.out.fz 1
          obtain ⟨q, hq⟩ : ∃ q, q = p - (k + 1) := ⟨_, rfl⟩
          have hqI : (p : Int) - 1 - (k : Int) = (q : Int) := by omega
          have hqp : q + (k + 1) = p := by omega
          rw [hqI]
          have hq0 : (0 : Int) ≤ (q : Int) := by omega
          have hqw : (p : Int) - (win : Int) ≤ (q : Int) := by omega
          have HSM : Hid (∀ c, cpL (T.data.toList.drop q) (T.data.toList.drop p) = c → (bst T.data.toList p k).2 < c → bst T.data.toList p (k + 1) = (k + 1, c)) := fun c hc hlt => by
            subst hc
            rw [hq] at hlt ⊢
            exact bst_more hlt
          have HSS : Hid (∀ c, cpL (T.data.toList.drop q) (T.data.toList.drop p) = c → ¬ (bst T.data.toList p k).2 < c → bst T.data.toList p (k + 1) = bst T.data.toList p k) := fun c hc hlt => by
            subst hc
            rw [hq] at hlt
            exact bst_same hlt
          clear hq hqI
          generalize bst T.data.toList p k = r at *
          go_wp2_with fail
          go_loopw [9] (fun t wr => ∃ n m : Nat, n + p ≤ T.size ∧ t = .int .i64 (n : Int) ∧ wr = W1.drewN m ∧ Hid (cpL (T.data.toList.drop q) (T.data.toList.drop p) = n + cpL (T.data.toList.drop (q + n)) (T.data.toList.drop (p + n)))) (fun t _ => T.size - (intOf t).toNat)
          case atStart => exact ⟨0, 0, by omega, rfl, rfl, by show _ = _; simp⟩
          case round =>
            obtain ⟨n, m, hn, rfl, rfl, HC⟩ := hrel
            have hn0 : (0 : Int) ≤ (n : Int) := by omega
            have hw1 := wrap_two (p := p) (n := n) (by omega)
            have hw2 := wrap_two (p := q) (n := n) (by omega)
            have hz1 : (0 : Int) ≤ (p : Int) + (n : Int) := by omega
            have hz2 : (0 : Int) ≤ (q : Int) + (n : Int) := by omega
            have ht1 : ((p : Int) + (n : Int)).toNat = p + n := by omega
            have ht2 : ((q : Int) + (n : Int)).toNat = q + n := by omega
            rcases Nat.lt_or_ge (p + n) T.size with h5 | h5
            · have h6 : q + n < T.size := by omega
              have h5I : (p : Int) + (n : Int) < (T.size : Int) := by omega
              have h6I : (q : Int) + (n : Int) < (T.size : Int) := by omega
              have HST : Hid (cpL (T.data.toList.drop (q + n)) (T.data.toList.drop (p + n)) = if (T[q + n]'h6) = (T[p + n]'h5) then cpL (T.data.toList.drop (q + (n + 1))) (T.data.toList.drop (p + (n + 1))) + 1 else 0) := by
                show _ = _
                rw [cpL_step _ _ _ _ (by rw [HLL.out]; exact h5) (by rw [HLL.out]; exact h6), byte_list T _ h6 (by rw [HLL.out]; exact h6), byte_list T _ h5 (by rw [HLL.out]; exact h5)]
              by_cases hx : (T[q + n]'h6) = (T[p + n]'h5)
              · have HN : Hid (cpL (T.data.toList.drop q) (T.data.toList.drop p) = (n + 1) + cpL (T.data.toList.drop (q + (n + 1))) (T.data.toList.drop (p + (n + 1)))) := by
                  show _ = _; rw [HC.out, HST.out, if_pos hx]; omega
                have hd : (((T[q + n]'h6).toNat : Int) == ((T[p + n]'h5).toNat : Int)) = true := by rw [hx]; simp
                clear hx HST HC
                go_wp2_with fail
                go_quiet (fail)
                go_wp2_with fail
                exact ⟨⟨n + 1, _, by omega, by go_num, rfl, HN⟩, by simp [intOf]; omega⟩
              · have HN : Hid (cpL (T.data.toList.drop q) (T.data.toList.drop p) = n) := by
                  show _ = _; rw [HC.out, HST.out, if_neg hx]; omega
                have hd : (((T[q + n]'h6).toNat : Int) == ((T[p + n]'h5).toNat : Int)) = false := by
                  rw [beq_eq_false_iff_ne]; intro h; exact hx (UInt8.toNat_inj.1 (by omega))
                clear hx HST HC
                rcases Nat.lt_or_ge r.2 n with h7 | h7
                · have HM := Hid.mk' (HSM.out n HN.out h7)
                  have h7I : (r.2 : Int) < (n : Int) := by omega
                  have hke : (p : Int) - (q : Int) = ((k + 1 : Nat) : Int) := by omega
                  go_wp2_with fail
                  go_quiet (fail)
                  go_wp2_with fail
                  exact ⟨⟨k + 1, h3, by go_num, by rw [HM.out]; exact (HX.out.drewN _).set2 (k + 1) n, ((below_drewN HBW.out _).setCell (Nat.le_refl _) _).setCell (Nat.le_refl _) _⟩, by simp [intOf]⟩
                · have HM := Hid.mk' (HSS.out n HN.out (by omega))
                  have h7I : ¬ (r.2 : Int) < (n : Int) := by omega
                  go_wp2_with fail
                  go_quiet (fail)
                  go_wp2_with fail
                  exact ⟨⟨k + 1, h3, by go_num, by rw [HM.out]; exact HX.out.drewN _, below_drewN HBW.out _⟩, by simp [intOf]⟩
            · obtain hpe : p + n = T.size := by omega
              have HN : Hid (cpL (T.data.toList.drop q) (T.data.toList.drop p) = n) := by
                show _ = _; rw [HC.out, cpL_end _ _ _ _ (by rw [HLL.out]; omega)]; omega
              clear HC
              have hlt : decide ((p : Int) + (n : Int) < (T.size : Int)) = false := by rw [decide_eq_false_iff_not]; omega
              clear hpe
              rcases Nat.lt_or_ge r.2 n with h7 | h7
              · have HM := Hid.mk' (HSM.out n HN.out h7)
                have h7I : (r.2 : Int) < (n : Int) := by omega
                have hke : (p : Int) - (q : Int) = ((k + 1 : Nat) : Int) := by omega
                go_wp2_with fail
                go_quiet (fail)
                go_wp2_with fail
                exact ⟨⟨k + 1, h3, by go_num, by rw [HM.out]; exact (HX.out.drewN _).set2 (k + 1) n, ((below_drewN HBW.out _).setCell (Nat.le_refl _) _).setCell (Nat.le_refl _) _⟩, by simp [intOf]⟩
              · have HM := Hid.mk' (HSS.out n HN.out (by omega))
                have h7I : ¬ (r.2 : Int) < (n : Int) := by omega
                go_wp2_with fail
                go_quiet (fail)
                go_wp2_with fail
                exact ⟨⟨k + 1, h3, by go_num, by rw [HM.out]; exact HX.out.drewN _, below_drewN HBW.out _⟩, by simp [intOf]⟩
        · obtain rfl : k = min win p := by omega
          obtain ⟨W1, hW1⟩ : ∃ W1, W1 = wr := ⟨_, rfl⟩
          rw [← hW1] at HX HBW ⊢
          clear hW1
          have c0 := HX.out.c0
          have c1 := HX.out.c1
          have c2 := HX.out.c2
          have c3 := HX.out.c3
          have f2 := HX.out.fz 2
          have f3 := HX.out.fz 3
          have hle1 := HBW.out.size
          have hb2 := (bst_le T.data.toList p (min win p)).2
          rw [HLL.out] at hb2
          have HST : Hid (p + (bst T.data.toList p (min win p)).2 < T.size → slL T.data.toList win (f + 1) p = ⟨(bst T.data.toList p (min win p)).1, (bst T.data.toList p (min win p)).2, (T.data.toList.getD (p + (bst T.data.toList p (min win p)).2) 0).toNat, false⟩ :: slL T.data.toList win f (p + (bst T.data.toList p (min win p)).2 + 1)) := fun h3 => slL_step T.data.toList win f p (by rw [HLL.out]; exact h2) (by rw [HLL.out]; exact h3)
          have HLA : Hid (T.size ≤ p + (bst T.data.toList p (min win p)).2 → slL T.data.toList win (f + 1) p = [⟨(bst T.data.toList p (min win p)).1, (bst T.data.toList p (min win p)).2, 0, true⟩]) := fun h3 => slL_last T.data.toList win f p (by rw [HLL.out]; exact h2) (by rw [HLL.out]; exact h3)
          have HGT : Hid (∀ q (h3 : q < T.size), (T.data.toList.getD q 0).toNat = (T[q]'h3).toNat) := fun q h3 => by
            rw [List.getD_eq_getElem?_getD, List.getElem?_eq_getElem (by rw [HLL.out]; exact h3), Option.getD_some, byte_list T _ h3 (by rw [HLL.out]; exact h3)]
          generalize bst T.data.toList p (min win p) = r at *
          have hend : ((p : Int) - 1 - (min win p : Nat) = -1) ∨ ((p : Int) - 1 - (min win p : Nat) = (p : Int) - 1 - (win : Int) ∧ 0 ≤ (p : Int) - 1 - (win : Int)) := by omega
          clear h3 hk
          rcases Nat.lt_or_ge (p + r.2) T.size with h3 | h3
          · have HST := Hid.mk' (HST.out h3)
            rw [HGT.out _ h3] at HST
            have h3I : (p : Int) + (r.2 : Int) < (T.size : Int) := by omega
            have h3b : ((p : Int) + (r.2 : Int) == (T.size : Int)) = false := by rw [beq_eq_false_iff_ne]; omega
            have HR0 := Hid.mk' ((lzrow_set (lzrow_set (lzrow_later HO.out HBW.out) ⟨W0.heap.size, 3, none⟩ (.bool false) (lzrow_not HO.out (Nat.le_refl _))) ⟨W0.heap.size, 2, none⟩ (.int .u8 ((T[p + r.2]'h3).toNat : Int)) (lzrow_not HO.out (Nat.le_refl _))).alloc (.cells #[.int .i64 (r.1 : Int), .int .i64 (r.2 : Int), .int .u8 ((T[p + r.2]'h3).toNat : Int), .bool false] 50))
            have HN0 : Hid (∀ j u, [Value.int .i64 (r.1 : Int), .int .i64 (r.2 : Int), .int .u8 ((T[p + r.2]'h3).toNat : Int), .bool false][j]? = some u → (((W1.setCell ⟨W0.heap.size, 3, none⟩ (.bool false)).setCell ⟨W0.heap.size, 2, none⟩ (.int .u8 ((T[p + r.2]'h3).toNat : Int))).alloc (.cells #[.int .i64 (r.1 : Int), .int .i64 (r.2 : Int), .int .u8 ((T[p + r.2]'h3).toNat : Int), .bool false] 50)).cell? ((⟨W1.heap.size, 0, none⟩ : Addr).add j) = some u) := fun j u hu => by
              have := four_new ((W1.setCell ⟨W0.heap.size, 3, none⟩ (.bool false)).setCell ⟨W0.heap.size, 2, none⟩ (.int .u8 ((T[p + r.2]'h3).toNat : Int))) (.int .i64 (r.1 : Int)) (.int .i64 (r.2 : Int)) (.int .u8 ((T[p + r.2]'h3).toNat : Int)) (.bool false) 50 j u hu
              simpa using this
            have HBB : Hid (Below w.heap.size w (((W1.setCell ⟨W0.heap.size, 3, none⟩ (.bool false)).setCell ⟨W0.heap.size, 2, none⟩ (.int .u8 ((T[p + r.2]'h3).toNat : Int))).alloc (.cells #[.int .i64 (r.1 : Int), .int .i64 (r.2 : Int), .int .u8 ((T[p + r.2]'h3).toNat : Int), .bool false] 50))) := (((below_chain HB.out HBW.out).setCell hle _).setCell hle _).alloc (by simp; omega) _
            rcases hend with hend | ⟨hend, hend0⟩ <;> rw [hend] <;> (have hendw : ¬ ((p : Int) - (win : Int) ≤ (p : Int) - 1 - (win : Int)) := by omega) <;> go_wp2_with (at_builtin; go_must (refine wpList_append_lies _ rfl _ _ _ rfl w.heap.size 50 i _ 4 24 Tryd.underlying46 HINF.out.1 HINF.out.2.1 HINF.out.2.2.1 HINF.out.2.2.2 rfl (by omega) u5 out.length (cpysC out) rfl HR0.out ⟨W1.heap.size, 0, none⟩ 1 1 [.int .i64 (r.1 : Int), .int .i64 (r.2 : Int), .int .u8 ((T[p + r.2]'h3).toNat : Int), .bool false] rfl rfl HN0.out (by simp [Value.oneCell']) (by omega) (by unfold maxLen; omega) (by omega) (by simp; omega) _ rfl ?_; intro g' cap' w3 hown3 hgrow3 hat3 hlt3; have HW3 := Hid.mk' hown3; have HB3 := Hid.mk' (lz_push HBB.out (by simp; omega) HR0.out hgrow3); clear hown3 hgrow3 hat3))
            all_goals exact ⟨⟨out ++ [⟨r.1, r.2, (T[p + r.2]'h3).toNat, false⟩], p + r.2 + 1, f, by go_num, by simp; omega, by omega, by omega, by show World.ownsRow _ _ _ _ _ _ _; have := HW3.out; rw [cpysC_snoc, List.length_append]; simpa using this, HB3.out, by show _ = _; rw [HS.out, HST.out]; simp⟩, by simp [intOf]; omega⟩
          · have HST := Hid.mk' (HLA.out h3)
            have hpe : (p : Int) + (r.2 : Int) = (T.size : Int) := by omega
            have HPE := Hid.mk' hpe
            have h3b : ((p : Int) + (r.2 : Int) == (T.size : Int)) = true := by rw [beq_iff_eq]; omega
            have HEN : Hid (slL T.data.toList win f (p + r.2) = []) := slL_end _ _ _ _ (by rw [HLL.out]; omega)
            clear hpe
            have HR0 := Hid.mk' ((lzrow_set (lzrow_later HO.out HBW.out) ⟨W0.heap.size, 3, none⟩ (.bool true) (lzrow_not HO.out (Nat.le_refl _))).alloc (.cells #[.int .i64 (r.1 : Int), .int .i64 (r.2 : Int), .int .u8 0, .bool true] 50))
            have HN0 : Hid (∀ j u, [Value.int .i64 (r.1 : Int), .int .i64 (r.2 : Int), .int .u8 0, .bool true][j]? = some u → ((W1.setCell ⟨W0.heap.size, 3, none⟩ (.bool true)).alloc (.cells #[.int .i64 (r.1 : Int), .int .i64 (r.2 : Int), .int .u8 0, .bool true] 50)).cell? ((⟨W1.heap.size, 0, none⟩ : Addr).add j) = some u) := fun j u hu => by
              have := four_new (W1.setCell ⟨W0.heap.size, 3, none⟩ (.bool true)) (.int .i64 (r.1 : Int)) (.int .i64 (r.2 : Int)) (.int .u8 0) (.bool true) 50 j u hu
              simpa using this
            have HBB : Hid (Below w.heap.size w ((W1.setCell ⟨W0.heap.size, 3, none⟩ (.bool true)).alloc (.cells #[.int .i64 (r.1 : Int), .int .i64 (r.2 : Int), .int .u8 0, .bool true] 50))) := ((below_chain HB.out HBW.out).setCell hle _).alloc (by simp; omega) _
            rcases hend with hend | ⟨hend, hend0⟩ <;> rw [hend] <;> (have hendw : ¬ ((p : Int) - (win : Int) ≤ (p : Int) - 1 - (win : Int)) := by omega) <;> go_wp2_with (at_builtin; go_must (refine wpList_append_lies _ rfl _ _ _ rfl w.heap.size 50 i _ 4 24 Tryd.underlying46 HINF.out.1 HINF.out.2.1 HINF.out.2.2.1 HINF.out.2.2.2 rfl (by omega) u5 out.length (cpysC out) rfl HR0.out ⟨W1.heap.size, 0, none⟩ 1 1 [.int .i64 (r.1 : Int), .int .i64 (r.2 : Int), .int .u8 0, .bool true] rfl rfl HN0.out (by simp [Value.oneCell']) (by omega) (by unfold maxLen; omega) (by omega) (by simp; omega) _ rfl ?_; intro g' cap' w3 hown3 hgrow3 hat3 hlt3; have HW3 := Hid.mk' hown3; have HB3 := Hid.mk' (lz_push HBB.out (by simp; omega) HR0.out hgrow3); clear hown3 hgrow3 hat3))
            all_goals exact ⟨⟨out ++ [⟨r.1, r.2, 0, true⟩], p + r.2, f, by go_num, by simp; omega, by omega, by omega, by show World.ownsRow _ _ _ _ _ _ _; have := HW3.out; rw [cpysC_snoc, List.length_append]; simpa using this, HB3.out, by show _ = _; rw [HS.out, HST.out]; simp [HEN.out]⟩, by simp [intOf]; omega⟩
    · have hpI : ¬ (p : Int) < (T.size : Int) := by omega
      have HF : Hid (slL T.data.toList win (T.size + 1) 0 = out) := by show _ = _; rw [HS.out, slL_end _ _ _ _ (by rw [HLL.out]; exact h2), List.append_nil]
      go_wp2_with fail
      go_ret
      exact ⟨_, rfl, by rw [HF.out]; exact HO.out, HB.out⟩
end Go.Proofs.YtiocbnjdmceadaaDoor
