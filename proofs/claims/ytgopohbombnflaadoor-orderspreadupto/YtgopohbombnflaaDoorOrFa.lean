/- The document's Falling. -/
import Derived.Test.YtgopohbombnflaaDoorOrOwn2
import Derived.Test.YtgopohbombnflaaDoorOrMath
namespace Go.Proofs.YtgopohbombnflaaDoor
open Go.RowKit

/-- A list in memory, with its room. -/
def RowIs (w : World) (v : Value) (L : List Int) : Prop := (L = [] ∧ v = .slice none 0 0) ∨ ∃ b cap, v = .slice (some ⟨b, 0, none⟩) L.length cap ∧ 0 < L.length ∧ L.length ≤ cap ∧ RowAt w b 0 L.length (atF L)
theorem RowIs.later {w w' : World} {v : Value} {L : List Int} (h : RowIs w v L) (hb : Below w.heap.size w w') : RowIs w' v L := by
  rcases h with h | ⟨b, cap, hv, h0, h1, h2⟩
  · exact Or.inl h
  · exact Or.inr ⟨b, cap, hv, h0, h1, h2.later hb⟩
theorem RowIs.nums {w : World} {v : Value} {L : List Int} (h : RowIs w v L) : NumsAt w v L.length (atF L) := by
  rcases h with ⟨rfl, hv⟩ | ⟨b, cap, hv, h0, h1, h2⟩
  · exact Or.inl ⟨_, _, hv, rfl⟩
  · exact Or.inr ⟨b, 0, cap, hv, h0, h2⟩
theorem rowIs_own {w : World} {B : Nat} {v : Value} {L : List Int} {n : Nat} (h : w.ownsRow B 3 1 v n (cellL L)) (hn : n = L.length) (h0 : 0 < n) : RowIs w v L := by
  subst hn
  rcases h.2 with ⟨_, h1⟩ | ⟨g, cap, cur, rfl, _, _, hc, _⟩
  · omega
  · refine Or.inr ⟨g, cap, rfl, h0, hc, ?_⟩
    rw [← numCells_list] at h
    exact rowAt_of_row h
theorem rowL_take (L : List Int) (k : Nat) (hk : k ≤ L.length) : rowL (atF L) k = L.take k := by
  refine List.ext_getElem (by simp [rowL]; omega) (fun i h1 h2 => ?_)
  simp [rowL] at h1
  simp [rowL, atF, List.getD, show i < L.length by omega]
theorem rowL_drop (L : List Int) (k : Nat) : rowL (fun j => atF L (k + j)) (L.length - k) = L.drop k := by
  refine List.ext_getElem (by simp [rowL]) (fun i h1 h2 => ?_)
  simp [rowL] at h1
  simp [rowL, atF, List.getD, show k + i < L.length by omega]
theorem ins_cells (L : List Int) (x : Int) (k : Nat) (hk : k ≤ L.length) : numCells (atF L) k ++ numCells (fun _ => x) 1 ++ numCells (fun j => atF L (k + j)) (L.length - k) = cellL (L.take k ++ x :: L.drop k) := by
  rw [← cellL_row, ← cellL_row, ← cellL_row, rowL_take L k hk, rowL_drop]
  simp [cellL, rowL]
theorem one_num (W : World) (x : Int) (t : TypeId) : NumsAt (W.alloc (.cells #[.int .i64 x] t)) (.slice (some ⟨W.heap.size, 0, none⟩) 1 1) 1 (fun _ => x) :=
  Or.inr ⟨_, 0, 1, rfl, by decide, fun i hi => by
    obtain rfl : i = 0 := by omega
    simp⟩
theorem sub_head {W : World} {b cp k : Nat} {L : List Int} (h : RowAt W b 0 L.length (atF L)) (hk : k ≤ L.length) : NumsAt W (.slice (some ⟨b, 0, none⟩) k cp) k (atF L) := by
  rcases Nat.eq_zero_or_pos k with h0 | h0
  · exact Or.inl ⟨_, _, by rw [h0], h0⟩
  · exact Or.inr ⟨b, 0, cp, rfl, h0, fun i hi => h i (by omega)⟩
theorem sub_tail {W : World} {b cp k : Nat} {L : List Int} (h : RowAt W b 0 L.length (atF L)) (hk : k ≤ L.length) : NumsAt W (.slice (some ⟨b, k, none⟩) (L.length - k) cp) (L.length - k) (fun j => atF L (k + j)) := by
  rcases Nat.eq_zero_or_pos (L.length - k) with h0 | h0
  · exact Or.inl ⟨_, _, by rw [h0], h0⟩
  · exact Or.inr ⟨b, k, cp, rfl, h0, fun i hi => by have := h (k + i) (by omega); rwa [Nat.zero_add] at this⟩
theorem row_made {W : World} {B : Nat} {v : Value} {L : List Int} {x : Int} {k m n : Nat} (hk : k ≤ L.length) (hm : m = L.length - k) (hn : n = L.length + 1) (h : W.ownsRow B 3 1 v n (([] ++ numCells (atF L) k) ++ numCells (fun _ => x) 1 ++ numCells (fun j => atF L (k + j)) m)) : RowIs W v (L.take k ++ x :: L.drop k) := by
  rw [hm, List.nil_append, ins_cells L x k hk] at h
  refine rowIs_own h ?_ (by omega)
  simp; omega

set_option maxRecDepth 100000 in
set_option maxHeartbeats 4000000 in
theorem Falling_any (v : Value) (n : Nat) (z : Nat → Int) (w : World) (h : NumsAt w v n z) (hn : n ≤ 1000) :
    Calls Tryd.prog 17 #[v] w fun e w' => ∃ v', e = .returned v' ∧ RowIs w' v' (fallL z n) ∧ Below w.heap.size w w' := by
  obtain ⟨ad, cap, rfl⟩ := h.form
  have HN := Hid.mk' (fun (W : World) (hb : Below w.heap.size w W) => h.later hb)
  clear h
  go_enter Tryd.func17, Tryd.ntmps17
  go_wp2_with fail
  go_loopw [3, 4] (fun s t wr => ∃ i : Nat, i ≤ n ∧ t = .int .i64 (i : Int) ∧ Hid (RowIs wr s (fallL z i)) ∧ Hid (Below w.heap.size w wr)) (fun _ t _ => n - (intOf t).toNat)
  case atStart => exact ⟨0, Nat.zero_le _, rfl, Or.inl ⟨rfl, rfl⟩, Below.refl _ _⟩
  case round =>
    obtain ⟨i, hi, rfl, HR, HB⟩ := hrel
    have hle := HB.out.size
    rcases Nat.lt_or_ge i n with h1 | h1
    · have hiI : (i : Int) < (n : Int) := by omega
      have hi0 : (0 : Int) ≤ (i : Int) := by omega
      obtain ⟨pb, po, rfl, hc⟩ : ∃ b o, ad = some ⟨b, o, none⟩ ∧ ∀ W, Below w.heap.size w W → W.cell? ⟨b, o + i, none⟩ = some (.int .i64 (z i)) := by
        rcases HN.out w (Below.refl _ _) with ⟨_, _, h1', h2'⟩ | ⟨b, o, c, h1', _, h2⟩
        · omega
        · simp only [Value.slice.injEq, true_and] at h1'
          exact ⟨b, o, h1'.1, fun W hb => (h2.later hb) i h1⟩
      have HC := Hid.mk' hc
      have HL' : Hid (fallL z (i + 1) = insD (z i) (fallL z i)) := rfl
      have hlen := fallL_length z i
      clear hc
      generalize z i = zi at *
      generalize fallL z i = L at *
      subst hlen
      rcases HR.out with ⟨hL, hv⟩ | ⟨b, cp, hv, h0, hcp, hrow⟩
      · subst hL
        subst hv
        have hx := HC.out wr HB.out
        have HIN : Hid (fallL z (0 + 1) = [zi]) := HL'.out
        go_wp2_with fail
        refine wp_loop_rounds 1 ?_
        rw [rounds_succ]
        go_wp2_with fail
        go_quiet (fail)
        have HBQ : Hid (Below wr.heap.size wr (wr.drewN nq)) := below_drewN (Below.refl _ _) nq
        generalize wr.drewN nq = W1 at *
        go_wp2_with (at_builtin; go_must (first
          | (refine wpList_append_own rfl _ _ rfl wr wr.heap.size v2 (0 + 0 + 1) _ _ 0 (fun _ => 0) rfl rfl HO2.out HBB2.out HSS2.out (Or.inl ⟨_, _, rfl, rfl⟩) (by omega) ?_; intro v3 W4 ho3 hb3 hs3; have HO3 := Hid.mk' ho3; have HBB3 := Hid.mk' hb3; clear ho3 hb3 hs3)
          | (refine wpList_append_own rfl _ _ rfl wr wr.heap.size v1 (0 + 0) _ _ 1 (fun _ => zi) rfl rfl (HO1.out.alloc _) (HBB1.out.alloc HSS1.out _) (Nat.le_trans HSS1.out (by simp)) (one_num _ zi _) (by omega) ?_; intro v2 W3 ho2 hb2 hs2; have HO2 := Hid.mk' ho2; have HBB2 := Hid.mk' hb2; have HSS2 := Hid.mk' hs2; clear ho2 hb2 hs2)
          | (refine wpList_append_own rfl _ _ rfl wr wr.heap.size _ 0 [] _ 0 (fun _ => 0) rfl rfl (World.ownsRow_nil _ _ _ _) HBQ.out HBQ.out.size (Or.inl ⟨_, _, rfl, rfl⟩) (by omega) ?_; intro v1 W2 ho1 hb1 hs1; have HO1 := Hid.mk' ho1; have HBB1 := Hid.mk' hb1; have HSS1 := Hid.mk' hs1; have hx2 : W2.cell? ⟨pb, po, none⟩ = some (.int .i64 zi) := HC.out W2 (below_chain HB.out hb1); clear ho1 hb1 hs1)))
        exact ⟨⟨0 + 1, h1, by go_num, by show RowIs _ _ _; rw [HIN.out]; exact rowIs_own (L := [zi]) (by simpa [numCells, cellL] using HO3.out) rfl (by simp), below_chain HB.out HBB3.out⟩, by simp [intOf]; omega⟩
      · subst hv
        have HRW := Hid.mk' (fun (W : World) (hb : Below wr.heap.size wr W) => hrow.later hb)
        clear hrow
        rename World => WO
        go_wp2_with fail
        go_loopw [5] (fun t wr2 => ∃ k : Nat, k ≤ L.length ∧ t = .int .i64 (k : Int) ∧ Hid (Below WO.heap.size WO wr2) ∧ Hid (∀ j, j < k → zi ≤ atF L j)) (fun t _ => L.length - (intOf t).toNat)
        case atStart => exact ⟨0, Nat.zero_le _, rfl, Below.refl _ _, fun j hj => by omega⟩
        case round =>
          obtain ⟨k, hk, rfl, HB2, HK⟩ := hrel
          have hx := HC.out _ (below_chain HB.out HB2.out)
          have hk0 : (0 : Int) ≤ (k : Int) := by omega
          rcases Nat.lt_or_ge k L.length with h2 | h2
          · have hy := HRW.out _ HB2.out k h2
            rw [Nat.zero_add] at hy
            have hkI : (k : Int) < (L.length : Int) := by omega
            have d1 : decide ((k : Int) < (L.length : Int)) = true := by simp; omega
            by_cases hz : zi ≤ atF L k
            · have HK2 : Hid (∀ j, j < k + 1 → zi ≤ atF L j) := fun j hj => by
                rcases Nat.lt_or_ge j k with h3 | h3
                · exact HK.out j h3
                · obtain rfl : j = k := by omega
                  exact hz
              have d2 : decide (zi ≤ atF L k) = true := by simp; exact hz
              generalize atF L k = y at *
              go_wp2_with fail
              go_quiet (fail)
              go_wp2_with fail
              exact ⟨⟨k + 1, h2, by go_num, below_drewN HB2.out _, HK2.out⟩, by simp [intOf]; omega⟩
            · have HIN : Hid (fallL z (L.length + 1) = L.take k ++ zi :: L.drop k) := by show _ = _; rw [HL'.out]; exact insD_at zi L k hk HK.out (Or.inr hz)
              have d2 : decide (zi ≤ atF L k) = false := by simp; omega
              have hck : ¬ cp = k := by omega
              generalize atF L k = y at *
              go_wp2_with fail
              go_quiet (fail)
              have HBQ : Hid (Below WO.heap.size WO (wr.drewN nq)) := below_drewN HB2.out nq
              have HN1 : Hid (NumsAt (wr.drewN nq) (.slice (some ⟨b, 0, none⟩) k cp) k (atF L)) := sub_head (HRW.out _ HBQ.out) hk
              generalize wr.drewN nq = W1 at *
              go_wp2_with (at_builtin; go_must (first
                | (refine wpList_append_own rfl _ _ rfl WO WO.heap.size v2 (0 + k + 1) _ _ (L.length - k) (fun j => atF L (k + j)) rfl rfl HO2.out HBB2.out HSS2.out (sub_tail (HRW.out _ HBB2.out) hk) (by omega) ?_; intro v3 W4 ho3 hb3 hs3; have HO3 := Hid.mk' ho3; have HBB3 := Hid.mk' hb3; clear ho3 hb3 hs3)
                | (refine wpList_append_own rfl _ _ rfl WO WO.heap.size v1 (0 + k) _ _ 1 (fun _ => zi) rfl rfl (HO1.out.alloc _) (HBB1.out.alloc HSS1.out _) (Nat.le_trans HSS1.out (by simp)) (one_num _ zi _) (by omega) ?_; intro v2 W3 ho2 hb2 hs2; have HO2 := Hid.mk' ho2; have HBB2 := Hid.mk' hb2; have HSS2 := Hid.mk' hs2; clear ho2 hb2 hs2)
                | (refine wpList_append_own rfl _ _ rfl WO WO.heap.size _ 0 [] _ k (atF L) rfl rfl (World.ownsRow_nil _ _ _ _) HBQ.out HBQ.out.size HN1.out (by omega) ?_; intro v1 W2 ho1 hb1 hs1; have HO1 := Hid.mk' ho1; have HBB1 := Hid.mk' hb1; have HSS1 := Hid.mk' hs1; have hx2 := HC.out W2 (below_chain HB.out hb1); clear ho1 hb1 hs1)))
              exact ⟨⟨L.length + 1, h1, by go_num, by show RowIs _ _ _; rw [HIN.out]; exact row_made (by omega) (by omega) (by omega) HO3.out, below_chain HB.out HBB3.out⟩, by simp [intOf]; omega⟩
          · obtain rfl : k = L.length := by omega
            have HIN : Hid (fallL z (L.length + 1) = L.take L.length ++ zi :: L.drop L.length) := by show _ = _; rw [HL'.out]; exact insD_at zi L L.length hk HK.out (Or.inl rfl)
            have d1 : decide ((L.length : Int) < (L.length : Int)) = false := by simp
            by_cases hck : cp = L.length
            · subst hck
              go_wp2_with fail
              go_quiet (fail)
              have HBQ : Hid (Below WO.heap.size WO (wr.drewN nq)) := below_drewN HB2.out nq
              have HN1 : Hid (NumsAt (wr.drewN nq) (.slice (some ⟨b, 0, none⟩) L.length L.length) L.length (atF L)) := sub_head (HRW.out _ HBQ.out) (Nat.le_refl _)
              generalize wr.drewN nq = W1 at *
              go_wp2_with (at_builtin; go_must (first
                | (refine wpList_append_own rfl _ _ rfl WO WO.heap.size v2 (0 + L.length + 1) _ _ 0 (fun j => atF L (L.length + j)) rfl rfl HO2.out HBB2.out HSS2.out (Or.inl ⟨_, _, rfl, rfl⟩) (by omega) ?_; intro v3 W4 ho3 hb3 hs3; have HO3 := Hid.mk' ho3; have HBB3 := Hid.mk' hb3; clear ho3 hb3 hs3)
                | (refine wpList_append_own rfl _ _ rfl WO WO.heap.size v1 (0 + L.length) _ _ 1 (fun _ => zi) rfl rfl (HO1.out.alloc _) (HBB1.out.alloc HSS1.out _) (Nat.le_trans HSS1.out (by simp)) (one_num _ zi _) (by omega) ?_; intro v2 W3 ho2 hb2 hs2; have HO2 := Hid.mk' ho2; have HBB2 := Hid.mk' hb2; have HSS2 := Hid.mk' hs2; clear ho2 hb2 hs2)
                | (refine wpList_append_own rfl _ _ rfl WO WO.heap.size _ 0 [] _ L.length (atF L) rfl rfl (World.ownsRow_nil _ _ _ _) HBQ.out HBQ.out.size HN1.out (by omega) ?_; intro v1 W2 ho1 hb1 hs1; have HO1 := Hid.mk' ho1; have HBB1 := Hid.mk' hb1; have HSS1 := Hid.mk' hs1; have hx2 := HC.out W2 (below_chain HB.out hb1); clear ho1 hb1 hs1)))
              exact ⟨⟨L.length + 1, h1, by go_num, by show RowIs _ _ _; rw [HIN.out]; exact row_made (by omega) (by omega) (by omega) HO3.out, below_chain HB.out HBB3.out⟩, by simp [intOf]; omega⟩
            · go_wp2_with fail
              go_quiet (fail)
              have HBQ : Hid (Below WO.heap.size WO (wr.drewN nq)) := below_drewN HB2.out nq
              have HN1 : Hid (NumsAt (wr.drewN nq) (.slice (some ⟨b, 0, none⟩) L.length cp) L.length (atF L)) := sub_head (HRW.out _ HBQ.out) (Nat.le_refl _)
              generalize wr.drewN nq = W1 at *
              go_wp2_with (at_builtin; go_must (first
                | (refine wpList_append_own rfl _ _ rfl WO WO.heap.size v2 (0 + L.length + 1) _ _ 0 (fun j => atF L (L.length + j)) rfl rfl HO2.out HBB2.out HSS2.out (Or.inl ⟨_, _, rfl, rfl⟩) (by omega) ?_; intro v3 W4 ho3 hb3 hs3; have HO3 := Hid.mk' ho3; have HBB3 := Hid.mk' hb3; clear ho3 hb3 hs3)
                | (refine wpList_append_own rfl _ _ rfl WO WO.heap.size v1 (0 + L.length) _ _ 1 (fun _ => zi) rfl rfl (HO1.out.alloc _) (HBB1.out.alloc HSS1.out _) (Nat.le_trans HSS1.out (by simp)) (one_num _ zi _) (by omega) ?_; intro v2 W3 ho2 hb2 hs2; have HO2 := Hid.mk' ho2; have HBB2 := Hid.mk' hb2; have HSS2 := Hid.mk' hs2; clear ho2 hb2 hs2)
                | (refine wpList_append_own rfl _ _ rfl WO WO.heap.size _ 0 [] _ L.length (atF L) rfl rfl (World.ownsRow_nil _ _ _ _) HBQ.out HBQ.out.size HN1.out (by omega) ?_; intro v1 W2 ho1 hb1 hs1; have HO1 := Hid.mk' ho1; have HBB1 := Hid.mk' hb1; have HSS1 := Hid.mk' hs1; have hx2 := HC.out W2 (below_chain HB.out hb1); clear ho1 hb1 hs1)))
              exact ⟨⟨L.length + 1, h1, by go_num, by show RowIs _ _ _; rw [HIN.out]; exact row_made (by omega) (by omega) (by omega) HO3.out, below_chain HB.out HBB3.out⟩, by simp [intOf]; omega⟩
    · obtain rfl : i = n := by omega
      have hiI : ¬ (i : Int) < (i : Int) := by omega
      go_wp2_with fail
      go_ret
      exact ⟨_, rfl, HR.out, HB.out⟩
end Go.Proofs.YtgopohbombnflaaDoor
