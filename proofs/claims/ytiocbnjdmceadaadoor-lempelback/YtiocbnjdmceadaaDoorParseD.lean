/- The document's ParseOf. -/
import Derived.Test.YtiocbnjdmceadaaDoorParseP
import Derived.Test.YtiocbnjdmceadaaDoorPzBest
namespace Go.Proofs.YtiocbnjdmceadaaDoor
open Go.RowKit

theorem Tryd.infoPhd : (Tryd.prog.info? 33).map (fun i => (i.zero, i.size, i.bytes)) = some (some (.agg #[.int .i64 0, .int .u8 0, .bool false]), 3, 16) := by kernel_rfl
theorem Tryd.infoStz : (Tryd.prog.info? 9).map (fun i => (i.zero, i.size, i.bytes)) = some (some (.string ⟨#[]⟩), 1, 16) := by kernel_rfl
/-- Does a text begin another one? -/
def bgB (a b : ByteArray) : Bool := decide (a.data.toList <+: b.data.toList)
theorem bg_extract (a b : ByteArray) : ((b.extract 0 a.size).toList == a.toList) = bgB a b := by
  unfold bgB
  have e : (b.extract 0 a.size).data.toList = b.data.toList.take a.data.toList.length := by
    rw [ByteArray.data_extract, Array.toList_extract, List.extract_eq_take_drop, size_lst]
    simp only [List.drop_zero, Nat.sub_zero]
  rw [ByteArray.toList_eq, ByteArray.toList_eq, e]
  by_cases hp : a.data.toList <+: b.data.toList
  · rw [decide_eq_true hp, beq_iff_eq, ← List.prefix_iff_eq_take.1 hp]
  · rw [decide_eq_false hp, beq_eq_false_iff_ne]
    exact fun he => hp (List.prefix_iff_eq_take.2 he.symm)
theorem bg_long (a b : ByteArray) (h : b.size < a.size) : bgB a b = false := by
  unfold bgB
  rw [decide_eq_false]
  intro hp
  have := hp.length_le
  rw [size_lst, size_lst] at this
  omega
theorem ret_boolz {a b : Bool} (h : a = b) : Ending.returned (.bool a) = .returned (.bool b) := by rw [h]
set_option maxRecDepth 100000 in
theorem Begins_z (a b : ByteArray) (w : World) : Calls Tryd.prog 22 #[.string a, .string b] w fun e w' => e = .returned (.bool (bgB a b)) ∧ w' = w := by
  by_cases h : a.size ≤ b.size
  · have hI : (a.size : Int) ≤ (b.size : Int) := by omega
    have HE := Hid.mk' (bg_extract a b)
    go_enter Tryd.func22, Tryd.ntmps22
    go_wp2_with fail
    go_ret
    exact ⟨ret_boolz HE.out, rfl⟩
  · have hI : (b.size : Int) < (a.size : Int) := by omega
    rw [bg_long a b (by omega)]
    go_enter Tryd.func22, Tryd.ntmps22
    go_wp2_with fail
    go_ret
    exact ⟨rfl, rfl⟩
/-- The cells of texts. -/
def strL (K : List (List UInt8)) : List Value := K.map fun a => .string ⟨a.toArray⟩
theorem strL_snoc (K : List (List UInt8)) (a : List UInt8) : strL (K ++ [a]) = strL K ++ [.string ⟨a.toArray⟩] := by simp [strL]
theorem strL_length (K : List (List UInt8)) : (strL K).length = K.length := by simp [strL]
theorem strL_at {K : List (List UInt8)} {k : Nat} {a : List UInt8} (h : K[k]? = some a) : (strL K)[k]? = some (.string ⟨a.toArray⟩) := by simp [strL, h]
theorem one_new (w : World) (x0 : Value) (t : TypeId) (j : Nat) (u : Value) (h : [x0][j]? = some u) : (w.alloc (.cells #[x0] t)).cell? ((⟨w.heap.size, 0, none⟩ : Addr).add j) = some u := by
  rw [add_plain, World.cell?_alloc_at _ _ _ _ rfl, Nat.zero_add]
  rcases j with _ | j
  · simpa using h
  · simp at h
theorem lzrow_beside {w w' : World} {b1 b2 : Nat} {t1 t2 : TypeId} {v u : Value} {n m s1 s2 : Nat} {xs ys : List Value} (h : w.ownsRow b1 t1 s1 v n xs) (k : w.ownsRow b2 t2 s2 u m ys) (ht : t1 ≠ t2) (hg : w.grownBy w' u.ownBlock) : w'.ownsRow b1 t1 s1 v n xs := by
  refine h.kept hg ?_
  rcases h.2 with ⟨rfl, _⟩ | ⟨g, cap, cur, rfl, _, hh, _⟩
  · exact Or.inl rfl
  · refine Or.inr fun e => ?_
    rcases k.2 with ⟨rfl, _⟩ | ⟨g', cap', cur', rfl, _, hh', _⟩
    · cases e
    · have e2 : g = g' := by simpa [Value.ownBlock] using e
      subst e2
      rw [hh] at hh'
      simp at hh'
      exact ht hh'.2
theorem ba_list (a : List UInt8) : (⟨a.toArray⟩ : ByteArray).data.toList = a := by simp
theorem ba_size (a : List UInt8) : (⟨a.toArray⟩ : ByteArray).size = a.length := by rw [← size_lst, ba_list]
theorem ba_same {a : ByteArray} {l : List UInt8} (h : a.data.toList = l) : a = ⟨l.toArray⟩ := by
  subst h
  cases a
  simp

set_option maxRecDepth 100000 in
set_option maxHeartbeats 4000000 in
theorem ParseOf_any (T : ByteArray) (w : World) (hs : T.size ≤ 4000) :
    Calls Tryd.prog 11 #[.string T] w fun e w' => ∃ v, e = .returned v ∧ w'.ownsRow w.heap.size 33 3 v (pzL T.data.toList).length (phrsC (pzL T.data.toList)) ∧ Below w.heap.size w w' := by
  obtain ⟨i, hi, hi2⟩ := Option.map_eq_some_iff.1 Tryd.infoPhd
  obtain ⟨hz, hsz, hby⟩ : i.zero = some (.agg #[.int .i64 0, .int .u8 0, .bool false]) ∧ i.size = 3 ∧ i.bytes = 16 := by simpa using hi2
  have HINF := Hid.mk' (And.intro hi (And.intro hz (And.intro hsz hby)))
  clear hi hi2 hz hsz hby
  obtain ⟨i2, hi, hi2⟩ := Option.map_eq_some_iff.1 Tryd.infoStz
  obtain ⟨hz, hsz, hby⟩ : i2.zero = some (.string ⟨#[]⟩) ∧ i2.size = 1 ∧ i2.bytes = 16 := by simpa using hi2
  have HINS := Hid.mk' (And.intro hi (And.intro hz (And.intro hsz hby)))
  clear hi hi2 hz hsz hby
  have HLL : Hid (T.data.toList.length = T.size) := size_lst T
  go_enter Tryd.func11, Tryd.ntmps11
  go_wp2_with fail
  go_loopw [3, 4, 5] (fun s kv t wr => ∃ (p : Nat) (D : List (Nat × UInt8)) (K : List (List UInt8)), t = .int .i64 (p : Int) ∧ p ≤ T.size ∧ D.length ≤ p ∧ Hid (wr.ownsRow w.heap.size 33 3 s D.length (phrsC (phrs D))) ∧ Hid (wr.ownsRow w.heap.size 9 1 kv K.length (strL K)) ∧ Hid (Below w.heap.size w wr) ∧ Hid (Trie D K) ∧ Hid (pz ([], 0) (T.data.toList.take p) = (D, 0))) (fun _ _ t _ => T.size - (intOf t).toNat)
  case atStart => exact ⟨0, [], [], rfl, Nat.zero_le _, Nat.le_refl _, World.ownsRow_nil _ _ _ _, World.ownsRow_nil _ _ _ _, Below.refl _ _, Trie.nil, by show _ = _; simp [pz]⟩
  case round =>
    obtain ⟨p, D, K, rfl, hp, hD, HO, HK, HB, HT, HP⟩ := hrel
    have HKD : Hid (K.length = D.length) := HT.out.len
    have hKs : K.length ≤ T.size := by rw [HKD.out]; omega
    rcases Nat.lt_or_ge p T.size with h1 | h1
    · have hpI : (p : Int) < (T.size : Int) := by omega
      have hle := HB.out.size
      obtain ⟨adk, capk, rfl⟩ := lzrow_form HK.out
      obtain ⟨W0, hW0⟩ : ∃ W0, W0 = wr := ⟨_, rfl⟩
      rw [← hW0] at HO HK HB hle ⊢
      clear hW0
      go_wp2_with fail
      go_loopw [6, 7, 8] (fun x y t wr => ∃ k best long m : Nat, t = .int .i64 (k : Int) ∧ x = .int .i64 (best : Int) ∧ y = .int .i64 (long : Int) ∧ k ≤ K.length ∧ best ≤ k ∧ long ≤ T.size ∧ Hid (wr = W0.drewN m) ∧ Hid (Best K (T.data.toList.drop p) k best long)) (fun _ _ t _ => K.length - (intOf t).toNat)
      case atStart => exact ⟨0, 0, 0, 0, rfl, rfl, rfl, Nat.zero_le _, Nat.le_refl _, Nat.zero_le _, rfl, Best.start _ _⟩
      case round =>
        obtain ⟨k, best, long, m, rfl, rfl, rfl, hk, hbk, hlT, HWR, HBE⟩ := hrel
        rcases Nat.lt_or_ge k K.length with h2 | h2
        · obtain ⟨a, ha⟩ : ∃ a, K[k]? = some a := ⟨_, List.getElem?_eq_getElem h2⟩
          obtain ⟨g, rfl⟩ : ∃ g, adk = some ⟨g, 0, none⟩ := by
            rcases HK.out.2 with ⟨_, h0⟩ | ⟨g, cap, cur, hv, _⟩
            · omega
            · simp at hv; exact ⟨g, hv.1⟩
          have x0 : wr.cell? ⟨g, k, none⟩ = some (.string ⟨a.toArray⟩) := by rw [HWR.out]; show W0.cell? _ = _; rw [HK.out.cellAt k (by omega)]; exact strL_at ha
          have hkI : (k : Int) < (K.length : Int) := by omega
          have hk0 : (0 : Int) ≤ (k : Int) := by omega
          have hpT : (p : Int) ≤ (T.size : Int) := by omega
          have HBG := Hid.mk' (fun (W : World) => Begins_z ⟨a.toArray⟩ (T.extract p T.size) W)
          have HBI : Hid (bgB ⟨a.toArray⟩ (T.extract p T.size) = decide (a <+: T.data.toList.drop p)) := by
            show _ = _; unfold bgB; rw [ba_list, ext_list]
          have HAS := Hid.mk' (ba_size a)
          have HMO := Hid.mk' (fun (h3 : long < a.length) (h4 : a <+: T.data.toList.drop p) => HBE.out.more ha h3 h4)
          have HSA := Hid.mk' (fun (h3 : ¬ (long < a.length ∧ a <+: T.data.toList.drop p)) => HBE.out.same ha h3)
          have HLE : Hid (a <+: T.data.toList.drop p → a.length ≤ T.size) := fun h => by
            have := h.length_le
            rw [List.length_drop, HLL.out] at this
            omega
          generalize (⟨a.toArray⟩ : ByteArray) = A at *
          by_cases h3 : long < a.length
          · have h3I : (long : Int) < (A.size : Int) := by rw [HAS.out]; omega
            by_cases h4 : a <+: T.data.toList.drop p
            · rw [HBI.out, decide_eq_true h4] at HBG
              have HNX := Hid.mk' (HMO.out h3 h4)
              rw [← HAS.out] at HNX
              have hAT : A.size ≤ T.size := by rw [HAS.out]; exact HLE.out h4
              clear h3 h4 HMO HSA HBI HLE ha
              go_wp2_with fail
              go_quiet ((go_at_call 22; exact Calls.quiet_of_same (HBG.out _)))
              go_wp2_with fail
              exact ⟨⟨k + 1, k + 1, A.size, _, by go_num, by go_num, rfl, h2, Nat.le_refl _, hAT, by show _ = _; rw [HWR.out, World.drewN_drewN], HNX⟩, by simp [intOf]; omega⟩
            · rw [HBI.out, decide_eq_false h4] at HBG
              have HNX := Hid.mk' (HSA.out (fun h => h4 h.2))
              clear h3 h4 HMO HSA HBI HLE ha
              go_wp2_with fail
              go_quiet ((go_at_call 22; exact Calls.quiet_of_same (HBG.out _)))
              go_wp2_with fail
              exact ⟨⟨k + 1, best, long, _, by go_num, rfl, rfl, h2, by omega, hlT, by show _ = _; rw [HWR.out, World.drewN_drewN], HNX⟩, by simp [intOf]; omega⟩
          · have h3I : decide ((long : Int) < (A.size : Int)) = false := by rw [HAS.out, decide_eq_false_iff_not]; omega
            have h3N : decide (long < A.size) = false := by rw [HAS.out, decide_eq_false_iff_not]; omega
            have HNX := Hid.mk' (HSA.out (fun h => h3 h.1))
            clear h3 HMO HSA HBI HLE ha HBG
            go_wp2_with fail
            go_quiet (fail)
            go_wp2_with fail
            exact ⟨⟨k + 1, best, long, _, by go_num, rfl, rfl, h2, by omega, hlT, by show _ = _; rw [HWR.out, World.drewN_drewN], HNX⟩, by simp [intOf]; omega⟩
        · obtain rfl : k = K.length := by omega
          have hkI : ¬ (K.length : Int) < (K.length : Int) := by omega
          have hWR := HWR.out
          subst hWR
          obtain ⟨t1, t2, t3, t4⟩ := HBE.out.text
          rw [List.length_drop, HLL.out] at t2
          have HWK := Hid.mk' (HBE.out.walk HT.out)
          by_cases h3 : p + long = T.size
          · have h3b : ((p : Int) + (long : Int) == (T.size : Int)) = true := by rw [beq_iff_eq]; omega
            have hb0 : best ≠ 0 := t4 (by omega)
            have HE : Hid (pzL T.data.toList = phrs D ++ [⟨best, 0, true⟩]) := by
              show pzO (pz _ _) = _
              have e : T.data.toList = T.data.toList.take p ++ (T.data.toList.drop p).take long := by
                conv => lhs; rw [← List.take_append_drop p T.data.toList]
                congr 1
                exact (List.take_of_length_le (by rw [List.length_drop, HLL.out]; omega)).symm
              rw [e, pz_append, HP.out, HWK.out, pzO, if_neg hb0]
            clear h3 t1 t2 t3 t4
            have HRR := Hid.mk' ((show (W0.drewN m).ownsRow w.heap.size 33 3 u3 D.length (phrsC (phrs D)) from lzrow_later HO.out (below_drewN (Below.refl _ _) _)).alloc (.cells #[.int .i64 (best : Int), .int .u8 0, .bool true] 33))
            have HBB : Hid (Below w.heap.size w ((W0.drewN m).alloc (.cells #[.int .i64 (best : Int), .int .u8 0, .bool true] 33))) := (below_drewN HB.out _).alloc (by have := HB.out.size; simp; omega) _
            go_wp2_with (at_builtin; go_must (refine wpList_append_lies _ rfl _ _ _ rfl w.heap.size 33 i _ 3 16 Tryd.underlying29 HINF.out.1 HINF.out.2.1 HINF.out.2.2.1 HINF.out.2.2.2 rfl (by omega) u3 D.length (phrsC (phrs D)) rfl HRR.out ⟨W0.heap.size, 0, none⟩ 1 1 [.int .i64 (best : Int), .int .u8 0, .bool true] rfl rfl (fun j u hu => by have := three_new (W0.drewN m) _ _ _ 33 j u hu; simpa using this) (by simp [Value.oneCell']) (by omega) (by unfold maxLen; omega) (by omega) (by simp; omega) _ rfl ?_; intro g' cap' w3 hown3 hgrow3 hat3 hlt3; have HW3 := Hid.mk' hown3; have HB3 := Hid.mk' (lz_push HBB.out (by simp; omega) HRR.out hgrow3); clear hown3 hgrow3 hat3))
            go_ret
            exact ⟨_, rfl, by rw [HE.out, phrsC_snoc, List.length_append, phrs_length]; exact HW3.out, HB3.out⟩
          · have h3b : ((p : Int) + (long : Int) == (T.size : Int)) = false := by rw [beq_eq_false_iff_ne]; omega
            have h4 : p + long < T.size := by omega
            have h4I : (p : Int) + (long : Int) < (T.size : Int) := by omega
            have h5I : (p : Int) + (long : Int) + 1 ≤ (T.size : Int) := by omega
            have hRl : long < (T.data.toList.drop p).length := by rw [List.length_drop, HLL.out]; omega
            obtain ⟨n1, n2⟩ := HBE.out.next HT.out hRl
            have hc : (T.data.toList.drop p)[long]'hRl = T[p + long]'h4 := by
              rw [List.getElem_drop, byte_list T _ h4]
            rw [hc] at n1 n2
            have HTR := Hid.mk' (HT.out.push (c := T[p + long]'h4) t1 n1)
            have HPN : Hid (pz ([], 0) (T.data.toList.take (p + long + 1)) = (D ++ [(best, T[p + long]'h4)], 0)) := by
              show _ = _
              rw [show p + long + 1 = p + (long + 1) by omega, List.take_add, pz_append, HP.out, ← n2, t3, pz_snoc, HWK.out, pzS_new n1]
            have HEX : Hid (T.extract p (p + long + 1) = ⟨(txA K best ++ [T[p + long]'h4]).toArray⟩) := by
              refine ba_same ?_
              rw [n2, ByteArray.data_extract, Array.toList_extract, List.extract_eq_take_drop, show p + long + 1 - p = long + 1 by omega]
            clear h3 t2 t3 t4 n1 n2 hc hRl
            have HRR := Hid.mk' ((show (W0.drewN m).ownsRow w.heap.size 33 3 u3 D.length (phrsC (phrs D)) from lzrow_later HO.out (below_drewN (Below.refl _ _) _)).alloc (.cells #[.int .i64 (best : Int), .int .u8 ((T[p + long]'h4).toNat : Int), .bool false] 33))
            have HKR := Hid.mk' ((show (W0.drewN m).ownsRow w.heap.size 9 1 (.slice adk K.length capk) K.length (strL K) from lzrow_later HK.out (below_drewN (Below.refl _ _) _)).alloc (.cells #[.int .i64 (best : Int), .int .u8 ((T[p + long]'h4).toNat : Int), .bool false] 33))
            have HBB : Hid (Below w.heap.size w ((W0.drewN m).alloc (.cells #[.int .i64 (best : Int), .int .u8 ((T[p + long]'h4).toNat : Int), .bool false] 33))) := (below_drewN HB.out _).alloc (by have := HB.out.size; simp; omega) _
            go_wp2_with (first
              | (at_builtin; (refine wpList_append_lies _ rfl _ _ _ rfl w.heap.size 33 i _ 3 16 Tryd.underlying29 HINF.out.1 HINF.out.2.1 HINF.out.2.2.1 HINF.out.2.2.2 rfl (by omega) u3 D.length (phrsC (phrs D)) rfl HRR.out ⟨W0.heap.size, 0, none⟩ 1 1 [.int .i64 (best : Int), .int .u8 ((T[p + long]'h4).toNat : Int), .bool false] rfl rfl (fun j u hu => by have := three_new (W0.drewN m) _ _ _ 33 j u hu; simpa using this) (by simp [Value.oneCell']) (by omega) (by unfold maxLen; omega) (by omega) (by simp; omega) _ rfl ?_; intro g' cap' w3 hown3 hgrow3 hat3 hlt3; have HW3 := Hid.mk' hown3; have HB3 := Hid.mk' (lz_push HBB.out (by simp; omega) HRR.out hgrow3); have HK3 := Hid.mk' ((lzrow_beside HKR.out HRR.out (by decide) hgrow3).alloc (.cells #[.string (T.extract p (p + long + 1))] 9)); have hle3 := HB3.out.size; have HB3a := Hid.mk' (HB3.out.alloc hle3 (.cells #[.string (T.extract p (p + long + 1))] 9)); clear hown3 hgrow3 hat3))
              | (at_builtin; go_must (refine wpList_append_lies _ rfl _ _ _ rfl w.heap.size 9 i2 _ 1 16 Tryd.underlying59 HINS.out.1 HINS.out.2.1 HINS.out.2.2.1 HINS.out.2.2.2 rfl (by omega) (.slice adk K.length capk) K.length (strL K) rfl HK3.out ⟨w3.heap.size, 0, none⟩ 1 1 [.string (T.extract p (p + long + 1))] rfl rfl (one_new w3 _ _) (by simp [Value.oneCell']) (by omega) (by unfold maxLen; omega) (by omega) (by simp; omega) _ rfl ?_; intro g'' cap'' w4 hown4 hgrow4 hat4 hlt4; have HW4 := Hid.mk' hown4; have HB4 := Hid.mk' (lz_push HB3a.out (by simp; omega) HK3.out hgrow4); have HO4 := Hid.mk' (lzrow_beside (HW3.out.alloc (.cells #[.string (T.extract p (p + long + 1))] 9)) HK3.out (by decide) hgrow4); clear hown4 hgrow4 hat4)))
            exact ⟨⟨p + long + 1, D ++ [(best, T[p + long]'h4)], K ++ [txA K best ++ [T[p + long]'h4]], by go_num, by omega, by simp; omega, by show World.ownsRow _ _ _ _ _ _ _; rw [phrs_snoc, phrsC_snoc, List.length_append]; exact HO4.out, by show World.ownsRow _ _ _ _ _ _ _; rw [strL_snoc, List.length_append, ← HEX.out]; exact HW4.out, HB4.out, HTR.out, HPN.out⟩, by simp [intOf]; omega⟩
    · have hpI : ¬ (p : Int) < (T.size : Int) := by omega
      have HE : Hid (pzL T.data.toList = phrs D) := by
        show pzO _ = _
        have := HP.out
        rw [List.take_of_length_le (by rw [HLL.out]; exact h1)] at this
        rw [this]
        rfl
      go_wp2_with fail
      go_ret
      exact ⟨_, rfl, by rw [HE.out, phrs_length]; exact HO.out, HB.out⟩
end Go.Proofs.YtiocbnjdmceadaaDoor
