/- The document's DecodeOf. -/
import Derived.Test.YtcigmihfannmjaaGreatDoorDecP
import Derived.BigQuiet
namespace Go.Proofs.YtcigmihfannmjaaGreatDoor
open Go.RowKit

theorem own_later {w w' : World} {base : Nat} {t : TypeId} {sz : Nat} {v : Value} {n : Nat} {xs : List Value} (h : w.ownsRow base t sz v n xs) (hb : Below w.heap.size w w') : w'.ownsRow base t sz v n xs := by
  obtain ⟨hl, hr⟩ := h
  refine ⟨hl, ?_⟩
  rcases hr with h0 | ⟨g, cap, cur, hv, hg, hh, r⟩
  · exact Or.inl h0
  · exact Or.inr ⟨g, cap, cur, hv, hg, by rw [hb.block g (Array.getElem?_eq_some_iff.1 hh).1]; exact hh, r⟩
set_option maxRecDepth 100000 in
set_option maxHeartbeats 4000000 in
theorem DecodeOf_any (ad : Option Addr) (cap n : Nat) (f : Nat → ByteArray) (T : ByteArray) (J : Nat) (ok : Bool) (w : World) (h : TxtAt w ad n f) (hn0 : 0 < n) (hn16 : n ≤ 16) (hf : ∀ i, i < n → (f i).toList.isEmpty = false) (hs : ∀ i, i < n → (f i).size ≤ 64) (hT : T.size ≤ 4000) (hJ : EndsD f T n J ok) :
    Calls Tryz.prog 16 #[.slice ad n cap, .string T] w fun e w' => ∃ v, e = .returned (.tuple #[v, .bool ok]) ∧ NumsAt w' v (lenOut ok J) (fun j => (idxD f T n j : Int)) ∧ Below w.heap.size w w' := by
  have HTX := Hid.mk' (fun (W : World) (hb : Below w.heap.size w W) => h.later hb)
  have HJ := Hid.mk' hJ
  have HJT := Hid.mk' (ends_short hf hJ)
  have HS := Hid.mk' hs
  have HPL : Hid (∀ j, j ≤ J → posD f T n j ≤ T.size) := fun j hj => pos_le j (fun i hi => (hJ.on i (by omega)).2)
  have hTI : (T.size : Int) ≤ 4000 := by omega
  have hnI : (n : Int) ≤ 16 := by omega
  have hn0I : (0 : Int) < (n : Int) := by omega
  obtain ⟨i0, hii, hz0, hz1, hz2⟩ := info_parts Tryz.infoInt
  have HINF : Hid (Tryz.prog.info? 3 = some i0 ∧ i0.zero = some (.int .i64 0) ∧ i0.size = 1 ∧ i0.bytes = 8) := ⟨hii, hz0, hz1, hz2⟩
  clear hii hz0 hz1 hz2 hJ hf h hs
  go_enter Tryz.func16, Tryz.ntmps16
  go_wp2_with fail
  go_loopg [6, 7] J (fun gk ou at_ wr => ∃ j : Nat, gk + j = J ∧ at_ = .int .i64 (posD f T n j : Int) ∧ Hid (wr.ownsRow w.heap.size 3 1 ou j (numCells (fun j => (idxD f T n j : Int)) j)) ∧ Hid (Below w.heap.size w wr))
  case atStart => exact ⟨0, by omega, rfl, ⟨rfl, Or.inl ⟨rfl, rfl⟩⟩, Below.refl _ _⟩
  case round =>
    obtain ⟨j, hj, rfl, HO, HB⟩ := hrel
    have hpl := HPL.out j (by omega)
    have HNO : Hid (∀ k, k < idxD f T n j → begB (f k) (T.extract (posD f T n j) T.size) = false) := fun k hk => fstN_no hk
    have HHI : Hid (idxD f T n j < n → begB (f (idxD f T n j)) (T.extract (posD f T n j) T.size) = true) := fun hk => fstN_hit hk
    have HBGA := Hid.mk' (fun (k : Nat) (W : World) => Begins_any (f k) (T.extract (posD f T n j) T.size) W)
    have HSU := Hid.mk' (posD_succ f T n j)
    rcases Nat.lt_or_ge j J with h1 | h1
    · obtain ⟨hp, hi⟩ := HJ.out.on j h1
      have hj4 : j ≤ 4000 := by have := HJT.out; omega
      have HNE : Hid (posD f T n (j + 1) ≤ T.size) := HPL.out (j + 1) h1
      obtain ⟨p, hpe⟩ : ∃ p, p = posD f T n j := ⟨_, rfl⟩
      obtain ⟨K, hKe⟩ : ∃ K, K = idxD f T n j := ⟨_, rfl⟩
      rw [← hpe] at hpl HNO HHI HBGA HSU hp ⊢
      rw [← hKe] at HNO HHI HSU hi
      have HKE := Hid.mk' hKe
      clear hpe hKe
      have hpI : (p : Int) < (T.size : Int) := by omega
      have hp0 : (0 : Int) ≤ (p : Int) := by omega
      have hpl2 : (p : Int) ≤ (T.size : Int) := by omega
      have hKn : ((K : Int) == (n : Int)) = false := by rw [beq_eq_false_iff_ne]; omega
      have hKI : (K : Int) < (n : Int) := by omega
      have hK0 : (0 : Int) ≤ (K : Int) := by omega
      obtain ⟨wx, rfl⟩ : ∃ wx, wx = wr := ⟨_, rfl⟩
      obtain ⟨ou, hou⟩ : ∃ ou, ou = u6 := ⟨_, rfl⟩
      rw [← hou] at HO ⊢
      clear hou
      go_wp2_with fail
      go_loopw [8] (fun kk wz => ∃ k : Nat, k ≤ K ∧ kk = .int .i64 k ∧ Hid (Below wx.heap.size wx wz)) (fun kk _ => n - (intOf kk).toNat)
      case atStart => exact ⟨0, Nat.zero_le _, rfl, Below.refl _ _⟩
      case round =>
        obtain ⟨k, hk, rfl, HB2⟩ := hrel
        have hk0 : (0 : Int) ≤ (k : Int) := by omega
        have hkI : (k : Int) < (n : Int) := by omega
        have hkd : decide ((k : Int) < (n : Int)) = true := decide_eq_true hkI
        obtain ⟨b, o, rfl, y0⟩ := HTX.out wr (below_chain HB.out HB2.out) k (by omega)
        have HBG := Hid.mk' (HBGA.out k)
        rcases Nat.lt_or_ge k K with h2 | h2
        · rw [HNO.out k h2] at HBG
          clear HNO HHI HBGA
          generalize f k = x at *
          go_wp2_with fail
          go_quiet ((go_at_call 23; exact Calls.quiet_of_same (HBG.out _)))
          go_wp2_with fail
          exact ⟨⟨k + 1, h2, by go_num, below_drewN HB2.out _⟩, by simp [intOf]; omega⟩
        · obtain rfl : K = k := by omega
          rw [HHI.out hi] at HBG
          have HY : Hid (∀ W, Below w.heap.size w W → W.cell? ⟨b, o + K, none⟩ = some (.string (f K))) := fun W hb => by
            obtain ⟨b', o', hbo', y1⟩ := HTX.out W hb K hi
            simp only [Option.some.injEq, Addr.mk.injEq, and_true] at hbo'
            obtain ⟨rfl, rfl⟩ := hbo'
            exact y1
          have hsz := HS.out K hi
          clear HNO HHI HBGA
          generalize f K = x at *
          go_wp2_with fail
          go_quiet ((go_at_call 23; exact Calls.quiet_of_same (HBG.out _)))
          obtain ⟨W5, hW5⟩ : ∃ W5, W5 = wr.drewN nq := ⟨_, rfl⟩
          rw [← hW5]
          have HB5 : Hid (Below wx.heap.size wx W5) := by show Below _ _ _; rw [hW5]; exact below_drewN HB2.out _
          clear hW5
          have HO5 := Hid.mk' (own_later HO.out HB5.out)
          have HB6 := Hid.mk' (below_chain HB.out HB5.out)
          have hzB := HB6.out.size
          go_wp2_with (at_builtin; go_must (refine wpList_append_lies _ rfl _ _ _ rfl w.heap.size 3 i0 _ 1 8 Tryz.underlying33 HINF.out.1 HINF.out.2.1 HINF.out.2.2.1 HINF.out.2.2.2 rfl (by omega) ou _ _ rfl (HO5.out.alloc _) ⟨W5.heap.size, 0, none⟩ 1 1 [.int .i64 (K : Int)] rfl rfl (one_new _ _ _) (by simp [Value.oneCell']) (by omega) (by unfold maxLen; omega) (by omega) (by simp; omega) _ rfl ?_; intro g' cap2 w3 hown3 hgrow3 hat3 hlt3; have HO3 := Hid.mk' hown3; have HG3 := Hid.mk' hgrow3; have y3 := HY.out _ (below_push HB6.out HO5.out hgrow3); clear hown3 hgrow3 hat3))
          go_roundg (J - (j + 1))
          case measure => omega
          case rel =>
            refine ⟨j + 1, by omega, by rw [HSU.out]; go_num, ?_, below_push HB6.out HO5.out HG3.out⟩
            have := HO3.out
            rw [HKE.out] at this
            exact this
    · obtain rfl : J = j := by omega
      cases ok with
      | true =>
        have hp := HJ.out.yes rfl
        have hpI : ¬ ((posD f T n J : Int) < (T.size : Int)) := by omega
        clear HNO HHI HBGA HSU
        generalize posD f T n J = p at *
        go_wp2_with fail
        go_ret2
        exact ⟨_, rfl, numsAt_own HO.out, HB.out⟩
      | false =>
        obtain ⟨hp, hi⟩ := HJ.out.no rfl
        obtain ⟨p, hpe⟩ : ∃ p, p = posD f T n J := ⟨_, rfl⟩
        rw [hi] at HNO
        rw [← hpe] at hpl HNO HBGA hp ⊢
        clear hpe HHI HSU hi
        have hpI : (p : Int) < (T.size : Int) := by omega
        have hp0 : (0 : Int) ≤ (p : Int) := by omega
        have hpl2 : (p : Int) ≤ (T.size : Int) := by omega
        obtain ⟨wx, rfl⟩ : ∃ wx, wx = wr := ⟨_, rfl⟩
        go_wp2_with fail
        go_loopw [8] (fun kk wz => ∃ k : Nat, k ≤ n ∧ kk = .int .i64 k ∧ Hid (Below wx.heap.size wx wz)) (fun kk _ => n - (intOf kk).toNat)
        case atStart => exact ⟨0, Nat.zero_le _, rfl, Below.refl _ _⟩
        case round =>
          obtain ⟨k, hk, rfl, HB2⟩ := hrel
          have hk0 : (0 : Int) ≤ (k : Int) := by omega
          rcases Nat.lt_or_ge k n with h2 | h2
          · have hkI : (k : Int) < (n : Int) := by omega
            have hkd : decide ((k : Int) < (n : Int)) = true := decide_eq_true hkI
            obtain ⟨b, o, rfl, y0⟩ := HTX.out wr (below_chain HB.out HB2.out) k h2
            have HBG := Hid.mk' (HBGA.out k)
            rw [HNO.out k h2] at HBG
            clear HNO HBGA
            generalize f k = x at *
            go_wp2_with fail
            go_quiet ((go_at_call 23; exact Calls.quiet_of_same (HBG.out _)))
            go_wp2_with fail
            exact ⟨⟨k + 1, h2, by go_num, below_drewN HB2.out _⟩, by simp [intOf]; omega⟩
          · obtain rfl : n = k := by omega
            have hkd : decide ((n : Int) < (n : Int)) = false := decide_eq_false (by omega)
            clear HNO HBGA
            go_wp2_with fail
            go_quiet (fail)
            go_wp2_with fail
            go_ret2
            exact ⟨_, rfl, Or.inl ⟨_, _, rfl, rfl⟩, below_drewN (below_chain HB.out HB2.out) _⟩
end Go.Proofs.YtcigmihfannmjaaGreatDoor
