/- The document's DrawOf. -/
import Derived.Test.YtobmngkaoahmiaaDoorSmDoc
namespace Go.Proofs.YtobmngkaoahmiaaDoor
open Go.RowKit

theorem lvs_root_nil {x : Nat → Nat} {n D : Nat} (h : sumX x (n + 1) = 2 ^ D) (h0 : 0 < x n) (hn : x n < 2 ^ D) : (lvs x D (n + 1)).length = 0 := by
  rcases Nat.eq_zero_or_pos (lvs x D (n + 1)).length with h1 | h1
  · exact h1
  · have h2 := root_leaf h h1
    have h3 := (lvs_at h1).1
    generalize (lvs x D (n + 1)).getD 0 0 = i at *
    rcases Nat.lt_or_ge i n with h4 | h4
    · have h5 := sumX_ge (x := x) h4
      rw [sumX] at h
      omega
    · obtain rfl : i = n := by omega
      omega
/-- What DrawOf gives. -/
def docV : Option (Nat × Nat) → Value
  | some (k, u) => .tuple #[.int .i64 (k : Int), .int .i64 (u : Int), .bool true]
  | none => .tuple #[.int .i64 0, .int .i64 0, .bool false]
set_option maxRecDepth 100000 in
set_option maxHeartbeats 8000000 in
theorem DrawOf_any (b o cap n S : Nat) (z : Nat → Int) (t : ByteArray) (w : World) (h : RowAt w b o n z) (hok : OkW z n) (hS : sumN z n = (S : Int)) (hn : n ≤ 16) (ht : t.size ≤ 4000) (hbt : ∀ i (hi : i < t.size), (t[i]'hi) = 48 ∨ (t[i]'hi) = 49) :
    Calls Tryd.prog 12 #[.slice (some ⟨b, o, none⟩) n cap, .string t] w fun e w' => (∃ r, e = .returned (docV r) ∧ Comes (xT z n S) n (dpT S) t.size (bitN t) 0 0 0 r) ∧ Below w.heap.size w w' := by
  have hp := hok.pos
  have hl := hok.le
  have HLV := Hid.mk' (fun (W : World) (d : Nat) (hb : Below w.heap.size w W) (hd : d ≤ dpT S) => LeavesAt_any b o cap n S d z W (h.later hb) hok hS hn hd)
  have HSX := Hid.mk' (xT_sum hok.nn hS)
  have HXN : Hid (xT z n S n < 2 ^ dpT S) := by
    show _ < _
    unfold xT
    rw [if_neg (by omega)]
    have := Nat.two_pow_pos (dpT S)
    omega
  have HPD := Hid.mk' (dpT_pow (S := S) (by omega) (by omega))
  have HD := Hid.mk' (dpT_le (S := S) (by omega) (by omega))
  have HBT := Hid.mk' hbt
  clear h hok hS hp hl hbt
  generalize xT z n S = x at *
  generalize dpT S = D at *
  have hD12 := HD.out
  have HR0 : Hid (0 < x n → (lvs x D (n + 1)).length = 0) := fun h0 => lvs_root_nil HSX.out h0 HXN.out
  go_enter Tryd.func12, Tryd.ntmps12
  go_wp2_with fail
  go_loopw [7, 8, 9] (fun qv qd qu wr => ∃ d v u : Nat, d ≤ D ∧ u ≤ t.size ∧ qv = .int .i64 v ∧ qd = .int .i64 d ∧ qu = .int .i64 u ∧ Hid (inT x (D - d) (n + 1) v) ∧ Hid (∀ r, Comes x n D t.size (bitN t) d v u r → Comes x n D t.size (bitN t) 0 0 0 r) ∧ Hid (Below w.heap.size w wr)) (fun _ _ qu _ => t.size - (intOf qu).toNat)
  case atStart => exact ⟨0, 0, 0, Nat.zero_le _, Nat.zero_le _, rfl, rfl, rfl, inT_root HSX.out, fun r h => h, Below.refl _ _⟩
  case round =>
    obtain ⟨d, v, u, hd, hu, rfl, rfl, rfl, HI, HC, HB⟩ := hrel
    have hd0 : (0 : Int) ≤ (d : Int) := by omega
    have hu0 : (0 : Int) ≤ (u : Int) := by omega
    have huI : (u : Int) ≤ 4000 := by omega
    have hv0 : (0 : Int) ≤ (v : Int) := by omega
    have hv4 : v < 4096 := by have h1 := inT_lt HI.out HSX.out; have := HPD.out; omega
    have HL := Hid.mk' (HLV.out wr d HB.out hd)
    have hll := lvs_length (x := x) (k := D - d) (n + 1)
    go_wp2_with fail
    refine HL.out.mono ?_
    rintro e w2 ⟨l2, rfl, hl2, hb2⟩
    obtain ⟨a2, c2, rfl⟩ := hl2.form
    have HB2 := Hid.mk' (below_chain HB.out hb2)
    clear hb2 HL
    rcases Nat.lt_or_ge v (lvs x (D - d) (n + 1)).length with h1 | h1
    · obtain ⟨rb, ro, rfl, hcv⟩ : ∃ rb ro, a2 = some ⟨rb, ro, none⟩ ∧ w2.cell? ⟨rb, ro + v, none⟩ = some (.int .i64 (((lvs x (D - d) (n + 1)).getD v 0 : Nat) : Int)) := by
        rcases hl2 with ⟨_, _, _, h0⟩ | ⟨rb, ro, c, h2, _, h3⟩
        · omega
        · simp only [Value.slice.injEq, true_and] at h2
          exact ⟨rb, ro, h2.1, h3 v h1⟩
      have hI : (v : Int) < ((lvs x (D - d) (n + 1)).length : Int) := by omega
      obtain ⟨hle, hdg⟩ := lvs_at h1
      clear hl2
      rcases Nat.lt_or_ge ((lvs x (D - d) (n + 1)).getD v 0) n with h5 | h5
      · have HN := Hid.mk' (HC.out _ (comes_leaf h1 h5))
        have h5I : (((lvs x (D - d) (n + 1)).getD v 0 : Nat) : Int) < (n : Int) := by omega
        clear hle hdg h5
        generalize (lvs x (D - d) (n + 1)).getD v 0 = lf at *
        generalize (lvs x (D - d) (n + 1)).length = ll at *
        go_wp2_with fail
        go_ret3
        exact ⟨⟨some (lf, u), rfl, HN.out⟩, HB2.out⟩
      · have hx0 : 0 < x n := by
          rw [show (lvs x (D - d) (n + 1)).getD v 0 = n by omega] at hdg
          rcases Nat.eq_zero_or_pos (x n) with e | e
          · rw [e] at hdg; simp at hdg
          · exact e
        have HC0 : Hid (∀ r, Comes x n D t.size (bitN t) 0 0 u r → Comes x n D t.size (bitN t) 0 0 0 r) := fun r hr => HC.out r (comes_again h1 (by omega) hr)
        have h5I : ¬ (((lvs x (D - d) (n + 1)).getD v 0 : Nat) : Int) < (n : Int) := by omega
        have HL := Hid.mk' (HLV.out w2 0 HB2.out (Nat.zero_le _))
        have HRN := Hid.mk' (HR0.out hx0)
        rw [Nat.sub_zero] at HL
        clear hle hdg h5 hx0 HC HI
        generalize (lvs x (D - d) (n + 1)).getD v 0 = lf at *
        generalize (lvs x (D - d) (n + 1)).length = ll at *
        go_wp2_with fail
        refine HL.out.mono ?_
        rintro e w3 ⟨l3, rfl, hl3, hb3⟩
        obtain ⟨a3, c3, rfl⟩ := hl3.form
        have HB3 := Hid.mk' (below_chain HB2.out hb3)
        have hD1 : 1 ≤ D := by
          rcases Nat.eq_zero_or_pos D with e | e
          · subst e
            have h6 := inT_root HSX.out
            have := inT_end h6
            rw [HRN.out] at this
            omega
          · exact e
        have HNO : Hid (¬ 0 < (lvs x (D - 0) (n + 1)).length) := by show ¬ _; rw [Nat.sub_zero, HRN.out]; omega
        have HRZ := HRN.out
        rw [HRZ] at hl3 ⊢
        clear hl3 hb3 HL HRZ
        have HCE : Hid (u ≠ t.size → ∀ bt, bt = bitN t u → inT x (D - (0 + 1)) (n + 1) (2 * 0 + bt) ∧ ∀ r, Comes x n D t.size (bitN t) (0 + 1) (2 * 0 + bt) (u + 1) r → Comes x n D t.size (bitN t) 0 0 0 r) := fun hne bt hbt => by
          rw [hbt]
          refine ⟨?_, fun r hr => HC0.out r (comes_step HNO.out hne (by rw [Nat.sub_zero, HRN.out]; exact hr))⟩
          have h7 := inT_root HSX.out
          obtain ⟨k, hk⟩ : ∃ k, D = k + 1 := ⟨D - 1, by omega⟩
          rw [show D - (0 + 1) = k by omega]
          have h9 := HRN.out
          rw [hk] at h7 h9
          have h10 := inT_next HSX.out (b := bitN t u) (by omega) h7 (by omega) (bitN_le _ _)
          rw [h9] at h10
          exact h10
        have HCN : Hid (u = t.size → Comes x n D t.size (bitN t) 0 0 0 none) := fun e => HC0.out _ (by rw [e]; exact comes_none HNO.out)
        clear HC0 HNO HRN
        by_cases he : u = t.size
        · have hse : ((u : Int) == (t.size : Int)) = true := by rw [beq_iff_eq]; omega
          have HN := Hid.mk' (HCN.out he)
          clear HCN HCE he
          go_wp2_with fail
          go_ret3
          exact ⟨⟨none, rfl, HN.out⟩, HB3.out⟩
        · have hse : ((u : Int) == (t.size : Int)) = false := by rw [beq_eq_false_iff_ne]; omega
          have h4 : u < t.size := by omega
          have h4I : (u : Int) < (t.size : Int) := by omega
          have hby := bitN_byte h4 (HBT.out _ h4)
          have HX := Hid.mk' (HCE.out he)
          have hbl := bitN_le t u
          rcases (show bitN t u = 0 ∨ bitN t u = 1 by omega) with hb0 | hb0
          · obtain ⟨hx1, hx2⟩ := HX.out 0 hb0.symm
            have HX1 := Hid.mk' hx1
            have HX2 := Hid.mk' hx2
            rw [hb0] at hby
            have hby0 : ((t[u]'h4).toNat : Int) = 48 := by omega
            clear hby HX HCE HCN hx1 hx2 hbl hb0 he
            go_wp2_with fail
            exact ⟨⟨0 + 1, 2 * 0 + 0, u + 1, by omega, by omega, by go_num, by go_num, by go_num, HX1.out, HX2.out, HB3.out⟩, by simp [intOf] <;> omega⟩
          · obtain ⟨hx1, hx2⟩ := HX.out 1 hb0.symm
            have HX1 := Hid.mk' hx1
            have HX2 := Hid.mk' hx2
            rw [hb0] at hby
            have hby1 : ((t[u]'h4).toNat : Int) = 49 := by omega
            clear hby HX HCE HCN hx1 hx2 hbl hb0 he
            go_wp2_with fail
            exact ⟨⟨0 + 1, 2 * 0 + 1, u + 1, by omega, by omega, by go_num, by go_num, by go_num, HX1.out, HX2.out, HB3.out⟩, by simp [intOf] <;> omega⟩
    · have hI : ¬ (v : Int) < ((lvs x (D - d) (n + 1)).length : Int) := by omega
      have hI2 : decide ((v : Int) < ((lvs x (D - d) (n + 1)).length : Int)) = false := decide_eq_false hI
      have HNO : Hid (¬ v < (lvs x (D - d) (n + 1)).length) := by show ¬ _; omega
      have hdl : d < D := by
        rcases Nat.lt_or_ge d D with h2 | h2
        · exact h2
        · obtain rfl : d = D := by omega
          have h3 := HI.out
          rw [Nat.sub_self] at h3 h1
          have := inT_end h3
          omega
      obtain ⟨y, hy⟩ : ∃ y, v = (lvs x (D - d) (n + 1)).length + y := ⟨v - (lvs x (D - d) (n + 1)).length, by omega⟩
      have hyI : (v : Int) - ((lvs x (D - d) (n + 1)).length : Int) = (y : Int) := by omega
      have HYE : Hid (v - (lvs x (D - d) (n + 1)).length = y) := by show _ = _; omega
      have hy4 : y < 4096 := by omega
      have HL1 : Hid ((lvs x (D - d) (n + 1)).length ≤ v) := h1
      have HZ : Hid (d = 0 → y = 0) := fun e => by
        subst e
        have h3 := HI.out
        unfold inT at h3
        rw [Nat.sub_zero] at h3
        have h4 := lowS_le x (D + 1) (n + 1)
        rw [HSX.out] at h4
        have h5 : v * 2 ^ D < 1 * 2 ^ D := by omega
        have := Nat.lt_of_mul_lt_mul_right h5
        omega
      clear hl2 hy
      have HCE : Hid (u ≠ t.size → ∀ bt, bt = bitN t u → inT x (D - (d + 1)) (n + 1) (2 * y + bt) ∧ ∀ r, Comes x n D t.size (bitN t) (d + 1) (2 * y + bt) (u + 1) r → Comes x n D t.size (bitN t) 0 0 0 r) := fun hne bt hbt => by
        rw [← HYE.out, hbt]
        refine ⟨?_, fun r hr => HC.out r (comes_step HNO.out hne hr)⟩
        have h7 := HI.out
        have h8 := HL1.out
        obtain ⟨k, hk⟩ : ∃ k, D - d = k + 1 := ⟨D - d - 1, by omega⟩
        rw [show D - (d + 1) = k by omega]
        rw [hk] at h7 h8 ⊢
        exact inT_next HSX.out (by omega) h7 h8 (bitN_le _ _)
      have HCN : Hid (u = t.size → Comes x n D t.size (bitN t) 0 0 0 none) := fun e => HC.out _ (by rw [e]; exact comes_none HNO.out)
      clear HI HC HNO HYE HL1 h1
      generalize (lvs x (D - d) (n + 1)).length = ll at *
      rcases Nat.eq_zero_or_pos d with hd1 | hd1
      · obtain rfl := hd1
        obtain rfl := HZ.out rfl
        by_cases he : u = t.size
        · have hse : ((u : Int) == (t.size : Int)) = true := by rw [beq_iff_eq]; omega
          have HN := Hid.mk' (HCN.out he)
          clear HCN HCE he
          go_wp2_with fail
          go_ret3
          exact ⟨⟨none, rfl, HN.out⟩, HB2.out⟩
        · have hse : ((u : Int) == (t.size : Int)) = false := by rw [beq_eq_false_iff_ne]; omega
          have h4 : u < t.size := by omega
          have h4I : (u : Int) < (t.size : Int) := by omega
          have hby := bitN_byte h4 (HBT.out _ h4)
          have HX := Hid.mk' (HCE.out he)
          have hbl := bitN_le t u
          rcases (show bitN t u = 0 ∨ bitN t u = 1 by omega) with hb0 | hb0
          · obtain ⟨hx1, hx2⟩ := HX.out 0 hb0.symm
            have HX1 := Hid.mk' hx1
            have HX2 := Hid.mk' hx2
            rw [hb0] at hby
            have hby0 : ((t[u]'h4).toNat : Int) = 48 := by omega
            clear hby HX HCE HCN hx1 hx2 hbl hb0 he
            go_wp2_with fail
            exact ⟨⟨0 + 1, 2 * 0 + 0, u + 1, by omega, by omega, by go_num, by go_num, by go_num, HX1.out, HX2.out, HB2.out⟩, by simp [intOf] <;> omega⟩
          · obtain ⟨hx1, hx2⟩ := HX.out 1 hb0.symm
            have HX1 := Hid.mk' hx1
            have HX2 := Hid.mk' hx2
            rw [hb0] at hby
            have hby1 : ((t[u]'h4).toNat : Int) = 49 := by omega
            clear hby HX HCE HCN hx1 hx2 hbl hb0 he
            go_wp2_with fail
            exact ⟨⟨0 + 1, 2 * 0 + 1, u + 1, by omega, by omega, by go_num, by go_num, by go_num, HX1.out, HX2.out, HB2.out⟩, by simp [intOf] <;> omega⟩
      · have hdb : ((d : Int) == 0) = false := by rw [beq_eq_false_iff_ne]; omega
        by_cases he : u = t.size
        · have hse : ((u : Int) == (t.size : Int)) = true := by rw [beq_iff_eq]; omega
          have HN := Hid.mk' (HCN.out he)
          clear HCN HCE he
          go_wp2_with fail
          go_ret3
          exact ⟨⟨none, rfl, HN.out⟩, HB2.out⟩
        · have hse : ((u : Int) == (t.size : Int)) = false := by rw [beq_eq_false_iff_ne]; omega
          have h4 : u < t.size := by omega
          have h4I : (u : Int) < (t.size : Int) := by omega
          have hby := bitN_byte h4 (HBT.out _ h4)
          have HX := Hid.mk' (HCE.out he)
          have hbl := bitN_le t u
          rcases (show bitN t u = 0 ∨ bitN t u = 1 by omega) with hb0 | hb0
          · obtain ⟨hx1, hx2⟩ := HX.out 0 hb0.symm
            have HX1 := Hid.mk' hx1
            have HX2 := Hid.mk' hx2
            rw [hb0] at hby
            have hby0 : ((t[u]'h4).toNat : Int) = 48 := by omega
            clear hby HX HCE HCN hx1 hx2 hbl hb0 he
            go_wp2_with fail
            exact ⟨⟨d + 1, 2 * y + 0, u + 1, by omega, by omega, by go_num, by go_num, by go_num, HX1.out, HX2.out, HB2.out⟩, by simp [intOf] <;> omega⟩
          · obtain ⟨hx1, hx2⟩ := HX.out 1 hb0.symm
            have HX1 := Hid.mk' hx1
            have HX2 := Hid.mk' hx2
            rw [hb0] at hby
            have hby1 : ((t[u]'h4).toNat : Int) = 49 := by omega
            clear hby HX HCE HCN hx1 hx2 hbl hb0 he
            go_wp2_with fail
            exact ⟨⟨d + 1, 2 * y + 1, u + 1, by omega, by omega, by go_num, by go_num, by go_num, HX1.out, HX2.out, HB2.out⟩, by simp [intOf] <;> omega⟩
end Go.Proofs.YtobmngkaoahmiaaDoor
