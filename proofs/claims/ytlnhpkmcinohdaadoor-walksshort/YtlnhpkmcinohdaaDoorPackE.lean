/- The document's ShortOf. Written by tools/genwso.py. -/
import Derived.Test.YtlnhpkmcinohdaaDoorWlMem
import Derived.Test.YtlnhpkmcinohdaaDoorWlSh
namespace Go.Proofs.YtlnhpkmcinohdaaDoor
open Go.RowKit

theorem Tryd.infoRefWire : (Tryd.prog.info? 48).map (fun i => (i.zero, i.size, i.bytes)) = some (some (.agg #[.int .i64 0, .int .i64 0, .int .i64 0]), 3, 24) := by kernel_rfl

/-- What a round makes of an end. -/
theorem num_of {lo hi v a1 a2 : Int} (hlh : lo < hi) (h1 : a1 = if v = hi then lo else v) (h2 : a2 = if hi < a1 then a1 - 1 else a1) : a2 = numV lo hi v := by
  unfold numV
  split at h1
  · rename_i h; rw [if_pos h]; subst h1; rw [if_neg (by omega)] at h2; exact h2
  · rename_i h; rw [if_neg h]; subst h1; exact h2
theorem num_same {lo hi v u a1 b1 : Int} (hlh : lo < hi) (h1 : a1 = if v = hi then lo else v) (h2 : b1 = if u = hi then lo else u) : a1 = b1 ↔ numV lo hi v = numV lo hi u := by
  unfold numV
  split at h1 <;> split at h2 <;> rename_i g1 g2
  · simp [g1, g2, h1, h2]
  · rw [if_pos g1, if_neg g2]
    subst h1; subst h2
    split <;> omega
  · rw [if_neg g1, if_pos g2]
    subst h1; subst h2
    split <;> omega
  · rw [if_neg g1, if_neg g2]
    subst h1; subst h2
    split <;> split <;> omega

theorem net_kept {T : TypeId} {w wr w9 : World} {B ob rb bx : Nat} {n : Int} {sv v u : Value} {l : List Wr} (h : RenAt T w wr B ob rb n sv l) (hg : wr.grownBy w9 sv.ownBlock) (hb : bx < B) (hne : bx ≠ ob) (hc : wr.cell? ⟨bx, 1, none⟩ = some v) : (w9.setCell ⟨ob, 1, none⟩ u).cell? ⟨bx, 1, none⟩ = some v := by
  rw [World.cell?_setCell_other _ _ _ _ (fun e => hne (congrArg Addr.block e).symm), World.cell?_of_block (a := ⟨bx, 1, none⟩) (hg.block bx (Nat.lt_of_lt_of_le hb h.hB) (fun e => by have := (own_geW h.own e.symm).1; omega))]
  exact hc
set_option maxRecDepth 100000 in
set_option maxHeartbeats 16000000 in
theorem ShortOf_any (N x y : Int) (v : Value) (L : List Wr) (w : World) (h : WrAt w v L) (hl : L.length ≤ 1000) (hs : SmE L) (hN : -1000000 ≤ N ∧ N ≤ 1000000) (hx : 0 ≤ x ∧ x < 1000) (hy : 0 ≤ y ∧ y < 1000) (hxy : x ≠ y) :
    Calls Tryd.prog 16 #[.agg #[.int .i64 N, v], .int .i64 x, .int .i64 y] w fun e w' => ∃ v', e = .returned (.agg #[.int .i64 (N - 1), v']) ∧ WrAt w' v' (shortL (min x y) (max x y) L) ∧ Below w.heap.size w w' ∧ ∀ b o k c, v' = .slice (some ⟨b, o, none⟩) k c → w.heap.size ≤ b := by
  obtain ⟨ad, cap, rfl⟩ := h.form
  have HL := Hid.mk' (fun (W : World) (hb : Below w.heap.size w W) => h.later hb)
  have HSM := Hid.mk' hs
  obtain ⟨i, hi', hi2⟩ := Option.map_eq_some_iff.1 Tryd.infoRefWire
  obtain ⟨hz, hsz, hby⟩ : i.zero = some (.agg #[.int .i64 0, .int .i64 0, .int .i64 0]) ∧ i.size = 3 ∧ i.bytes = 24 := by simpa using hi2
  have HINF := Hid.mk' (And.intro hi' (And.intro hz (And.intro hsz hby)))
  clear hi' hi2 hz hsz hby h hs
  obtain ⟨W3, hW3⟩ : ∃ W3, W3 = (((w.alloc (.cells #[.int .i64 N, .slice ad L.length cap] 24)).alloc (.cells #[.int .i64 0, .slice none 0 0] 24)).alloc (.cells #[.int .i64 (N - 1), .slice none 0 0] 24)) := ⟨_, rfl⟩
  have hR0 : RenAt 48 w W3 (w.heap.size + 3) (w.heap.size + 1 + 1) (w.heap.size + 1) (N - 1) (.slice none 0 0) [] := by
    rw [hW3]
    refine ⟨(((Below.refl _ _).alloc (Nat.le_refl _) _).alloc (by simp) _).alloc (by simp; omega) _, by simp, ⟨by omega, by omega, by omega, by omega, by omega⟩, ?_, ?_, ?_, ?_, ?_, ⟨?_, ?_⟩, World.ownsRow_nil _ _ _ _⟩
    all_goals go_simp
  obtain ⟨bx, hbx⟩ : ∃ bx, bx = w.heap.size := ⟨_, rfl⟩
  have g0 : W3.cell? ⟨bx, 1, none⟩ = some (.slice ad L.length cap) := by rw [hW3, hbx]; go_simp
  have HBX : Hid (bx < w.heap.size + 3 ∧ bx ≠ w.heap.size + 1 + 1) := by show _ ∧ _; omega
  have HG0 := Hid.mk' g0
  have HR0 := Hid.mk' hR0
  clear hR0 g0
  go_enter Tryd.func16, Tryd.ntmps16
  rcases Int.lt_or_gt_of_ne hxy with hlh | hlh
  · have hd : decide (y < x) = false := decide_eq_false (by omega)
    have HMM : Hid (min x y = x ∧ max x y = y) := by show _ ∧ _; omega
    have HLH := Hid.mk' hlh
    go_upto_region 4 with fail
    rw [← hW3]
    clear hW3 hd
    generalize w.heap.size + 3 = B at *
    generalize w.heap.size + 1 + 1 = ob at *
    generalize w.heap.size + 1 = rb at *
    rw [← hbx]
    clear hbx hlh
    go_wp2_with fail
    go_loopw [8] (fun t wr => ∃ (k : Nat) (sv : Value), k ≤ L.length ∧ t = .int .i64 (k : Int) ∧ Hid (RenAt 48 w wr B ob rb (N - 1) sv (shortL x y (L.take k))) ∧ Hid (wr.cell? ⟨bx, 1, none⟩ = some (.slice ad L.length cap))) (fun t _ => L.length - (intOf t).toNat)
    case atStart => exact ⟨0, _, Nat.zero_le _, rfl, HR0.out, HG0.out⟩
    case round =>
      clear HR0 HG0
      obtain ⟨k, sv, hk, rfl, HR, HG⟩ := hrel
      have g0 := HG.out
      rcases Nat.lt_or_ge k L.length with h5 | h5
      · obtain ⟨q, hq⟩ : ∃ q, L[k]? = some q := ⟨_, List.getElem?_eq_getElem h5⟩
        obtain ⟨b, o, rfl, x0, x1, x2⟩ := (HL.out wr HR.out.below).at hq
        obtain ⟨lt, hlt⟩ : ∃ lt, lt = shortL x y (L.take k) := ⟨_, rfl⟩
        rw [← hlt] at HR
        have HTK : Hid (shortL x y (L.take (k + 1)) = shortL x y (L.take k ++ [q])) := by
          show _ = _
          obtain ⟨hi, rfl⟩ := List.getElem?_eq_some_iff.1 hq
          rw [List.take_succ_eq_append_getElem hi]
        have HLT := Hid.mk' hlt
        have hsl := shortL_le x y (L.take k)
        rw [List.length_take, ← hlt] at hsl
        have HSL := Hid.mk' hsl
        have hsx := HSM.out q (List.mem_of_getElem? hq)
        have hkI : (k : Int) < (L.length : Int) := by omega
        have hk0 : (0 : Int) ≤ (k : Int) := by omega
        obtain ⟨qa, qb, qc⟩ := q
        dsimp only at x0 x1 x2 hsx
        obtain ⟨W4, hW4⟩ : ∃ W4, W4 = wr.alloc (.cells #[.int .i64 qa, .int .i64 qb, .int .i64 qc] 48) := ⟨_, rfl⟩
        obtain ⟨s9, hs9⟩ : ∃ s9, s9 = wr.heap.size := ⟨_, rfl⟩
        have hb4 : Below wr.heap.size wr W4 := by rw [hW4]; exact (Below.refl _ _).alloc (Nat.le_refl _) _
        have c0 : W4.cell? ⟨s9, 0, none⟩ = some (.int .i64 qa) := by rw [hW4, hs9]; go_simp
        have c1 : W4.cell? ⟨s9, 1, none⟩ = some (.int .i64 qb) := by rw [hW4, hs9]; go_simp
        have c2 : W4.cell? ⟨s9, 2, none⟩ = some (.int .i64 qc) := by rw [hW4, hs9]; go_simp
        have z0 : W4.frozen? ⟨s9, 0, none⟩ = false := by rw [hW4, hs9]; go_simp
        have z1 : W4.frozen? ⟨s9, 1, none⟩ = false := by rw [hW4, hs9]; go_simp
        have HB4 := Hid.mk' hb4
        have HS9 : Hid (wr.heap.size ≤ s9) := by show _ ≤ _; omega
        go_upto_region 8 with fail
        rw [← hW4, ← hs9]
        clear hW4 hs9 hb4 hlt hsl hq g0 x0 x1 x2
        have ra : 0 ≤ qa ∧ qa < 1000 := by omega
        have rb' : 0 ≤ qb ∧ qb < 1000 := by omega
        clear hsx
        by_cases ga : qa = y
        · have hd : (qa == y) = true := by simpa using ga
          obtain ⟨a1, ha1⟩ : ∃ a1 : Int, a1 = x := ⟨_, rfl⟩
          have HA1 : Hid (a1 = if qa = y then x else qa) := by show _ = _; rw [if_pos ga]; exact ha1
          obtain ⟨W5, hW5⟩ : ∃ W5, W5 = W4.setCell ⟨s9, 0, none⟩ (.int .i64 x) := ⟨_, rfl⟩
          have c0' : W5.cell? ⟨s9, 0, none⟩ = some (.int .i64 x) := by rw [hW5, World.cell?_setCell_same _ _ _ c0]
          have c1' : W5.cell? ⟨s9, 1, none⟩ = some (.int .i64 qb) := by rw [hW5, World.cell?_setCell_other _ _ _ _ (by simp)]; exact c1
          have c2' : W5.cell? ⟨s9, 2, none⟩ = some (.int .i64 qc) := by rw [hW5, World.cell?_setCell_other _ _ _ _ (by simp)]; exact c2
          have z0' : W5.frozen? ⟨s9, 0, none⟩ = false := by rw [hW5, World.frozen?_setCell]; exact z0
          have z1' : W5.frozen? ⟨s9, 1, none⟩ = false := by rw [hW5, World.frozen?_setCell]; exact z1
          have HB5 : Hid (Below wr.heap.size wr W5) := by rw [hW5]; exact HB4.out.setCell HS9.out _
          clear ga
          go_upto_region 10 with fail
          rw [← hW5]
          clear hW5 c0 c1 c2 z0 z1 hd
          have c0 := c0'
          have c1 := c1'
          have c2 := c2'
          have z0 := z0'
          have z1 := z1'
          clear c0' c1' c2' z0' z1'
          rw [← ha1] at c0
          have ra1 : 0 ≤ a1 ∧ a1 < 1000 := by omega
          clear ha1
          by_cases gb : qb = y
          · have hd : (qb == y) = true := by simpa using gb
            obtain ⟨b1, hb1⟩ : ∃ b1 : Int, b1 = x := ⟨_, rfl⟩
            have HB1 : Hid (b1 = if qb = y then x else qb) := by show _ = _; rw [if_pos gb]; exact hb1
            obtain ⟨W6, hW6⟩ : ∃ W6, W6 = W5.setCell ⟨s9, 1, none⟩ (.int .i64 x) := ⟨_, rfl⟩
            have c0' : W6.cell? ⟨s9, 0, none⟩ = some (.int .i64 a1) := by rw [hW6, World.cell?_setCell_other _ _ _ _ (by simp)]; exact c0
            have c1' : W6.cell? ⟨s9, 1, none⟩ = some (.int .i64 x) := by rw [hW6, World.cell?_setCell_same _ _ _ c1]
            have c2' : W6.cell? ⟨s9, 2, none⟩ = some (.int .i64 qc) := by rw [hW6, World.cell?_setCell_other _ _ _ _ (by simp)]; exact c2
            have z0' : W6.frozen? ⟨s9, 0, none⟩ = false := by rw [hW6, World.frozen?_setCell]; exact z0
            have z1' : W6.frozen? ⟨s9, 1, none⟩ = false := by rw [hW6, World.frozen?_setCell]; exact z1
            have HB6 : Hid (Below wr.heap.size wr W6) := by rw [hW6]; exact HB5.out.setCell HS9.out _
            clear gb
            go_upto_region 12 with fail
            rw [← hW6]
            clear hW6 c0 c1 c2 z0 z1 hd
            have c0 := c0'
            have c1 := c1'
            have c2 := c2'
            have z0 := z0'
            have z1 := z1'
            clear c0' c1' c2' z0' z1'
            rw [← hb1] at c1
            have rb1 : 0 ≤ b1 ∧ b1 < 1000 := by omega
            clear hb1
            by_cases gs : a1 = b1
            · have hd : (a1 == b1) = true := by simpa using gs
              have HE := Hid.mk' (shortL_none x y (L.take k) ⟨qa, qb, qc⟩ ((num_same HLH.out HA1.out HB1.out).1 gs))
              have HRn := Hid.mk' (HR.out.later HB6.out)
              have HGn : Hid (W6.cell? ⟨bx, 1, none⟩ = some (.slice (some ⟨b, o, none⟩) L.length cap)) := by show _ = _; rw [HB6.out.cell (cell_lt HG.out)]; exact HG.out
              clear gs
              go_wp2_with fail
              exact ⟨⟨k + 1, _, h5, by go_num, by show RenAt _ _ _ _ _ _ _ _ _; rw [HTK.out, HE.out, ← HLT.out]; exact HRn.out, HGn.out⟩, by simp [intOf]; omega⟩
            · have hd : (a1 == b1) = false := by simpa using gs
              have HE := Hid.mk' (shortL_one x y (L.take k) ⟨qa, qb, qc⟩ (fun e => gs ((num_same HLH.out HA1.out HB1.out).2 e)))
              clear gs
              go_upto_region 13 with fail
              clear hd
              by_cases gc : y < a1
              · have hd : decide (y < a1) = true := decide_eq_true gc
                have HA2 : Hid (a1 - 1 = numV x y qa) := num_of HLH.out HA1.out (by rw [if_pos gc])
                obtain ⟨W7, hW7⟩ : ∃ W7, W7 = W6.setCell ⟨s9, 0, none⟩ (.int .i64 (a1 - 1)) := ⟨_, rfl⟩
                have c0' : W7.cell? ⟨s9, 0, none⟩ = some (.int .i64 (a1 - 1)) := by rw [hW7, World.cell?_setCell_same _ _ _ c0]
                have c1' : W7.cell? ⟨s9, 1, none⟩ = some (.int .i64 b1) := by rw [hW7, World.cell?_setCell_other _ _ _ _ (by simp)]; exact c1
                have c2' : W7.cell? ⟨s9, 2, none⟩ = some (.int .i64 qc) := by rw [hW7, World.cell?_setCell_other _ _ _ _ (by simp)]; exact c2
                have z0' : W7.frozen? ⟨s9, 0, none⟩ = false := by rw [hW7, World.frozen?_setCell]; exact z0
                have z1' : W7.frozen? ⟨s9, 1, none⟩ = false := by rw [hW7, World.frozen?_setCell]; exact z1
                have HB7 : Hid (Below wr.heap.size wr W7) := by rw [hW7]; exact HB6.out.setCell HS9.out _
                clear gc
                go_upto_region 15 with fail
                rw [← hW7]
                clear hW7 c0 c1 c2 z0 z1 hd
                have c0 := c0'
                have c1 := c1'
                have c2 := c2'
                have z0 := z0'
                have z1 := z1'
                clear c0' c1' c2' z0' z1'
                obtain ⟨a2, ha2⟩ : ∃ a2, a2 = a1 - 1 := ⟨_, rfl⟩
                rw [← ha2] at c0 HA2
                clear ha2
                by_cases gc : y < b1
                · have hd : decide (y < b1) = true := decide_eq_true gc
                  have HB2 : Hid (b1 - 1 = numV x y qb) := num_of HLH.out HB1.out (by rw [if_pos gc])
                  obtain ⟨W8, hW8⟩ : ∃ W8, W8 = W7.setCell ⟨s9, 1, none⟩ (.int .i64 (b1 - 1)) := ⟨_, rfl⟩
                  have c0' : W8.cell? ⟨s9, 0, none⟩ = some (.int .i64 a2) := by rw [hW8, World.cell?_setCell_other _ _ _ _ (by simp)]; exact c0
                  have c1' : W8.cell? ⟨s9, 1, none⟩ = some (.int .i64 (b1 - 1)) := by rw [hW8, World.cell?_setCell_same _ _ _ c1]
                  have c2' : W8.cell? ⟨s9, 2, none⟩ = some (.int .i64 qc) := by rw [hW8, World.cell?_setCell_other _ _ _ _ (by simp)]; exact c2
                  have z0' : W8.frozen? ⟨s9, 0, none⟩ = false := by rw [hW8, World.frozen?_setCell]; exact z0
                  have z1' : W8.frozen? ⟨s9, 1, none⟩ = false := by rw [hW8, World.frozen?_setCell]; exact z1
                  have HB8 : Hid (Below wr.heap.size wr W8) := by rw [hW8]; exact HB7.out.setCell HS9.out _
                  clear gc
                  go_upto_region 17 with fail
                  rw [← hW8]
                  clear hW8 c0 c1 c2 z0 z1 hd
                  have c0 := c0'
                  have c1 := c1'
                  have c2 := c2'
                  have z0 := z0'
                  have z1 := z1'
                  clear c0' c1' c2' z0' z1'
                  obtain ⟨b2, hb2⟩ : ∃ b2, b2 = b1 - 1 := ⟨_, rfl⟩
                  rw [← hb2] at c1 HB2
                  clear hb2
                  have HEE : Hid (shortL x y (L.take k ++ [⟨qa, qb, qc⟩]) = lt ++ [⟨a2, b2, qc⟩]) := by show _ = _; rw [HE.out, ← HLT.out, HA2.out, HB2.out]
                  obtain ⟨sa, sc, rfl⟩ := own_formW HR.out.own
                  have HR5 := Hid.mk' (HR.out.later HB8.out)
                  have HGn : Hid (W8.cell? ⟨bx, 1, none⟩ = some (.slice (some ⟨b, o, none⟩) L.length cap)) := by show _ = _; rw [HB8.out.cell (cell_lt HG.out)]; exact HG.out
                  have hc1 := HR5.out.c1
                  have hB5 := HR5.out.hB
                  have HBA : Hid (Below W8.heap.size W8 (W8.alloc (.cells #[.int .i64 a2, .int .i64 b2, .int .i64 qc] 48))) := (Below.refl _ _).alloc (Nat.le_refl _) _
                  have HR6 := Hid.mk' (HR5.out.later HBA.out)
                  go_wp2_with (at_builtin; go_must (refine wpList_append_lies _ rfl _ _ _ rfl B 48 i _ 3 24 Tryd.underlying22 HINF.out.1 HINF.out.2.1 HINF.out.2.2.1 HINF.out.2.2.2 rfl (by omega) _ _ _ rfl HR6.out.own ⟨W8.heap.size, 0, none⟩ 1 1 [.int .i64 a2, .int .i64 b2, .int .i64 qc] rfl rfl (three_newW _ _ _ _ _) (by simp [Value.oneCell']) (by omega) (by have := HSL.out; unfold maxLen; omega) (by have := HSL.out; omega) (by simp; omega) _ rfl ?_; intro g' cap' w9 hown9 hgrow9 hat9 hlt9; obtain ⟨p0, p1, pf, hR9⟩ := HR6.out.push ⟨a2, b2, qc⟩ hgrow9 hown9; have HR9 := Hid.mk' hR9; have HG9 := Hid.mk' (net_kept HR6.out hgrow9 HBX.out.1 HBX.out.2 (v := .slice (some ⟨b, o, none⟩) L.length cap) (u := .slice (some ⟨g', 0, none⟩) (lt.length + 1) cap') (by rw [HBA.out.cell (cell_lt HGn.out)]; exact HGn.out)); clear hR9 hown9 hgrow9 hat9 hlt9))
                  exact ⟨⟨k + 1, _, h5, by go_num, by show RenAt _ _ _ _ _ _ _ _ _; rw [HTK.out, HEE.out]; exact HR9.out, HG9.out⟩, by simp [intOf]; omega⟩
                · have hd : decide (y < b1) = false := decide_eq_false gc
                  have HB2 : Hid (b1 = numV x y qb) := num_of HLH.out HB1.out (by rw [if_neg gc])
                  clear gc
                  go_upto_region 17 with fail
                  clear hd
                  obtain ⟨b2, hb2⟩ : ∃ b2, b2 = b1 := ⟨_, rfl⟩
                  rw [← hb2] at c1 HB2
                  clear hb2
                  have HEE : Hid (shortL x y (L.take k ++ [⟨qa, qb, qc⟩]) = lt ++ [⟨a2, b2, qc⟩]) := by show _ = _; rw [HE.out, ← HLT.out, HA2.out, HB2.out]
                  obtain ⟨sa, sc, rfl⟩ := own_formW HR.out.own
                  have HR5 := Hid.mk' (HR.out.later HB7.out)
                  have HGn : Hid (W7.cell? ⟨bx, 1, none⟩ = some (.slice (some ⟨b, o, none⟩) L.length cap)) := by show _ = _; rw [HB7.out.cell (cell_lt HG.out)]; exact HG.out
                  have hc1 := HR5.out.c1
                  have hB5 := HR5.out.hB
                  have HBA : Hid (Below W7.heap.size W7 (W7.alloc (.cells #[.int .i64 a2, .int .i64 b2, .int .i64 qc] 48))) := (Below.refl _ _).alloc (Nat.le_refl _) _
                  have HR6 := Hid.mk' (HR5.out.later HBA.out)
                  go_wp2_with (at_builtin; go_must (refine wpList_append_lies _ rfl _ _ _ rfl B 48 i _ 3 24 Tryd.underlying22 HINF.out.1 HINF.out.2.1 HINF.out.2.2.1 HINF.out.2.2.2 rfl (by omega) _ _ _ rfl HR6.out.own ⟨W7.heap.size, 0, none⟩ 1 1 [.int .i64 a2, .int .i64 b2, .int .i64 qc] rfl rfl (three_newW _ _ _ _ _) (by simp [Value.oneCell']) (by omega) (by have := HSL.out; unfold maxLen; omega) (by have := HSL.out; omega) (by simp; omega) _ rfl ?_; intro g' cap' w9 hown9 hgrow9 hat9 hlt9; obtain ⟨p0, p1, pf, hR9⟩ := HR6.out.push ⟨a2, b2, qc⟩ hgrow9 hown9; have HR9 := Hid.mk' hR9; have HG9 := Hid.mk' (net_kept HR6.out hgrow9 HBX.out.1 HBX.out.2 (v := .slice (some ⟨b, o, none⟩) L.length cap) (u := .slice (some ⟨g', 0, none⟩) (lt.length + 1) cap') (by rw [HBA.out.cell (cell_lt HGn.out)]; exact HGn.out)); clear hR9 hown9 hgrow9 hat9 hlt9))
                  exact ⟨⟨k + 1, _, h5, by go_num, by show RenAt _ _ _ _ _ _ _ _ _; rw [HTK.out, HEE.out]; exact HR9.out, HG9.out⟩, by simp [intOf]; omega⟩
              · have hd : decide (y < a1) = false := decide_eq_false gc
                have HA2 : Hid (a1 = numV x y qa) := num_of HLH.out HA1.out (by rw [if_neg gc])
                clear gc
                go_upto_region 15 with fail
                clear hd
                obtain ⟨a2, ha2⟩ : ∃ a2, a2 = a1 := ⟨_, rfl⟩
                rw [← ha2] at c0 HA2
                clear ha2
                by_cases gc : y < b1
                · have hd : decide (y < b1) = true := decide_eq_true gc
                  have HB2 : Hid (b1 - 1 = numV x y qb) := num_of HLH.out HB1.out (by rw [if_pos gc])
                  obtain ⟨W8, hW8⟩ : ∃ W8, W8 = W6.setCell ⟨s9, 1, none⟩ (.int .i64 (b1 - 1)) := ⟨_, rfl⟩
                  have c0' : W8.cell? ⟨s9, 0, none⟩ = some (.int .i64 a2) := by rw [hW8, World.cell?_setCell_other _ _ _ _ (by simp)]; exact c0
                  have c1' : W8.cell? ⟨s9, 1, none⟩ = some (.int .i64 (b1 - 1)) := by rw [hW8, World.cell?_setCell_same _ _ _ c1]
                  have c2' : W8.cell? ⟨s9, 2, none⟩ = some (.int .i64 qc) := by rw [hW8, World.cell?_setCell_other _ _ _ _ (by simp)]; exact c2
                  have z0' : W8.frozen? ⟨s9, 0, none⟩ = false := by rw [hW8, World.frozen?_setCell]; exact z0
                  have z1' : W8.frozen? ⟨s9, 1, none⟩ = false := by rw [hW8, World.frozen?_setCell]; exact z1
                  have HB8 : Hid (Below wr.heap.size wr W8) := by rw [hW8]; exact HB6.out.setCell HS9.out _
                  clear gc
                  go_upto_region 17 with fail
                  rw [← hW8]
                  clear hW8 c0 c1 c2 z0 z1 hd
                  have c0 := c0'
                  have c1 := c1'
                  have c2 := c2'
                  have z0 := z0'
                  have z1 := z1'
                  clear c0' c1' c2' z0' z1'
                  obtain ⟨b2, hb2⟩ : ∃ b2, b2 = b1 - 1 := ⟨_, rfl⟩
                  rw [← hb2] at c1 HB2
                  clear hb2
                  have HEE : Hid (shortL x y (L.take k ++ [⟨qa, qb, qc⟩]) = lt ++ [⟨a2, b2, qc⟩]) := by show _ = _; rw [HE.out, ← HLT.out, HA2.out, HB2.out]
                  obtain ⟨sa, sc, rfl⟩ := own_formW HR.out.own
                  have HR5 := Hid.mk' (HR.out.later HB8.out)
                  have HGn : Hid (W8.cell? ⟨bx, 1, none⟩ = some (.slice (some ⟨b, o, none⟩) L.length cap)) := by show _ = _; rw [HB8.out.cell (cell_lt HG.out)]; exact HG.out
                  have hc1 := HR5.out.c1
                  have hB5 := HR5.out.hB
                  have HBA : Hid (Below W8.heap.size W8 (W8.alloc (.cells #[.int .i64 a2, .int .i64 b2, .int .i64 qc] 48))) := (Below.refl _ _).alloc (Nat.le_refl _) _
                  have HR6 := Hid.mk' (HR5.out.later HBA.out)
                  go_wp2_with (at_builtin; go_must (refine wpList_append_lies _ rfl _ _ _ rfl B 48 i _ 3 24 Tryd.underlying22 HINF.out.1 HINF.out.2.1 HINF.out.2.2.1 HINF.out.2.2.2 rfl (by omega) _ _ _ rfl HR6.out.own ⟨W8.heap.size, 0, none⟩ 1 1 [.int .i64 a2, .int .i64 b2, .int .i64 qc] rfl rfl (three_newW _ _ _ _ _) (by simp [Value.oneCell']) (by omega) (by have := HSL.out; unfold maxLen; omega) (by have := HSL.out; omega) (by simp; omega) _ rfl ?_; intro g' cap' w9 hown9 hgrow9 hat9 hlt9; obtain ⟨p0, p1, pf, hR9⟩ := HR6.out.push ⟨a2, b2, qc⟩ hgrow9 hown9; have HR9 := Hid.mk' hR9; have HG9 := Hid.mk' (net_kept HR6.out hgrow9 HBX.out.1 HBX.out.2 (v := .slice (some ⟨b, o, none⟩) L.length cap) (u := .slice (some ⟨g', 0, none⟩) (lt.length + 1) cap') (by rw [HBA.out.cell (cell_lt HGn.out)]; exact HGn.out)); clear hR9 hown9 hgrow9 hat9 hlt9))
                  exact ⟨⟨k + 1, _, h5, by go_num, by show RenAt _ _ _ _ _ _ _ _ _; rw [HTK.out, HEE.out]; exact HR9.out, HG9.out⟩, by simp [intOf]; omega⟩
                · have hd : decide (y < b1) = false := decide_eq_false gc
                  have HB2 : Hid (b1 = numV x y qb) := num_of HLH.out HB1.out (by rw [if_neg gc])
                  clear gc
                  go_upto_region 17 with fail
                  clear hd
                  obtain ⟨b2, hb2⟩ : ∃ b2, b2 = b1 := ⟨_, rfl⟩
                  rw [← hb2] at c1 HB2
                  clear hb2
                  have HEE : Hid (shortL x y (L.take k ++ [⟨qa, qb, qc⟩]) = lt ++ [⟨a2, b2, qc⟩]) := by show _ = _; rw [HE.out, ← HLT.out, HA2.out, HB2.out]
                  obtain ⟨sa, sc, rfl⟩ := own_formW HR.out.own
                  have HR5 := Hid.mk' (HR.out.later HB6.out)
                  have HGn : Hid (W6.cell? ⟨bx, 1, none⟩ = some (.slice (some ⟨b, o, none⟩) L.length cap)) := by show _ = _; rw [HB6.out.cell (cell_lt HG.out)]; exact HG.out
                  have hc1 := HR5.out.c1
                  have hB5 := HR5.out.hB
                  have HBA : Hid (Below W6.heap.size W6 (W6.alloc (.cells #[.int .i64 a2, .int .i64 b2, .int .i64 qc] 48))) := (Below.refl _ _).alloc (Nat.le_refl _) _
                  have HR6 := Hid.mk' (HR5.out.later HBA.out)
                  go_wp2_with (at_builtin; go_must (refine wpList_append_lies _ rfl _ _ _ rfl B 48 i _ 3 24 Tryd.underlying22 HINF.out.1 HINF.out.2.1 HINF.out.2.2.1 HINF.out.2.2.2 rfl (by omega) _ _ _ rfl HR6.out.own ⟨W6.heap.size, 0, none⟩ 1 1 [.int .i64 a2, .int .i64 b2, .int .i64 qc] rfl rfl (three_newW _ _ _ _ _) (by simp [Value.oneCell']) (by omega) (by have := HSL.out; unfold maxLen; omega) (by have := HSL.out; omega) (by simp; omega) _ rfl ?_; intro g' cap' w9 hown9 hgrow9 hat9 hlt9; obtain ⟨p0, p1, pf, hR9⟩ := HR6.out.push ⟨a2, b2, qc⟩ hgrow9 hown9; have HR9 := Hid.mk' hR9; have HG9 := Hid.mk' (net_kept HR6.out hgrow9 HBX.out.1 HBX.out.2 (v := .slice (some ⟨b, o, none⟩) L.length cap) (u := .slice (some ⟨g', 0, none⟩) (lt.length + 1) cap') (by rw [HBA.out.cell (cell_lt HGn.out)]; exact HGn.out)); clear hR9 hown9 hgrow9 hat9 hlt9))
                  exact ⟨⟨k + 1, _, h5, by go_num, by show RenAt _ _ _ _ _ _ _ _ _; rw [HTK.out, HEE.out]; exact HR9.out, HG9.out⟩, by simp [intOf]; omega⟩
          · have hd : (qb == y) = false := by simpa using gb
            obtain ⟨b1, hb1⟩ : ∃ b1 : Int, b1 = qb := ⟨_, rfl⟩
            have HB1 : Hid (b1 = if qb = y then x else qb) := by show _ = _; rw [if_neg gb]; exact hb1
            clear gb
            go_upto_region 12 with fail
            clear hd
            rw [← hb1] at c1
            have rb1 : 0 ≤ b1 ∧ b1 < 1000 := by omega
            clear hb1
            by_cases gs : a1 = b1
            · have hd : (a1 == b1) = true := by simpa using gs
              have HE := Hid.mk' (shortL_none x y (L.take k) ⟨qa, qb, qc⟩ ((num_same HLH.out HA1.out HB1.out).1 gs))
              have HRn := Hid.mk' (HR.out.later HB5.out)
              have HGn : Hid (W5.cell? ⟨bx, 1, none⟩ = some (.slice (some ⟨b, o, none⟩) L.length cap)) := by show _ = _; rw [HB5.out.cell (cell_lt HG.out)]; exact HG.out
              clear gs
              go_wp2_with fail
              exact ⟨⟨k + 1, _, h5, by go_num, by show RenAt _ _ _ _ _ _ _ _ _; rw [HTK.out, HE.out, ← HLT.out]; exact HRn.out, HGn.out⟩, by simp [intOf]; omega⟩
            · have hd : (a1 == b1) = false := by simpa using gs
              have HE := Hid.mk' (shortL_one x y (L.take k) ⟨qa, qb, qc⟩ (fun e => gs ((num_same HLH.out HA1.out HB1.out).2 e)))
              clear gs
              go_upto_region 13 with fail
              clear hd
              by_cases gc : y < a1
              · have hd : decide (y < a1) = true := decide_eq_true gc
                have HA2 : Hid (a1 - 1 = numV x y qa) := num_of HLH.out HA1.out (by rw [if_pos gc])
                obtain ⟨W7, hW7⟩ : ∃ W7, W7 = W5.setCell ⟨s9, 0, none⟩ (.int .i64 (a1 - 1)) := ⟨_, rfl⟩
                have c0' : W7.cell? ⟨s9, 0, none⟩ = some (.int .i64 (a1 - 1)) := by rw [hW7, World.cell?_setCell_same _ _ _ c0]
                have c1' : W7.cell? ⟨s9, 1, none⟩ = some (.int .i64 b1) := by rw [hW7, World.cell?_setCell_other _ _ _ _ (by simp)]; exact c1
                have c2' : W7.cell? ⟨s9, 2, none⟩ = some (.int .i64 qc) := by rw [hW7, World.cell?_setCell_other _ _ _ _ (by simp)]; exact c2
                have z0' : W7.frozen? ⟨s9, 0, none⟩ = false := by rw [hW7, World.frozen?_setCell]; exact z0
                have z1' : W7.frozen? ⟨s9, 1, none⟩ = false := by rw [hW7, World.frozen?_setCell]; exact z1
                have HB7 : Hid (Below wr.heap.size wr W7) := by rw [hW7]; exact HB5.out.setCell HS9.out _
                clear gc
                go_upto_region 15 with fail
                rw [← hW7]
                clear hW7 c0 c1 c2 z0 z1 hd
                have c0 := c0'
                have c1 := c1'
                have c2 := c2'
                have z0 := z0'
                have z1 := z1'
                clear c0' c1' c2' z0' z1'
                obtain ⟨a2, ha2⟩ : ∃ a2, a2 = a1 - 1 := ⟨_, rfl⟩
                rw [← ha2] at c0 HA2
                clear ha2
                by_cases gc : y < b1
                · have hd : decide (y < b1) = true := decide_eq_true gc
                  have HB2 : Hid (b1 - 1 = numV x y qb) := num_of HLH.out HB1.out (by rw [if_pos gc])
                  obtain ⟨W8, hW8⟩ : ∃ W8, W8 = W7.setCell ⟨s9, 1, none⟩ (.int .i64 (b1 - 1)) := ⟨_, rfl⟩
                  have c0' : W8.cell? ⟨s9, 0, none⟩ = some (.int .i64 a2) := by rw [hW8, World.cell?_setCell_other _ _ _ _ (by simp)]; exact c0
                  have c1' : W8.cell? ⟨s9, 1, none⟩ = some (.int .i64 (b1 - 1)) := by rw [hW8, World.cell?_setCell_same _ _ _ c1]
                  have c2' : W8.cell? ⟨s9, 2, none⟩ = some (.int .i64 qc) := by rw [hW8, World.cell?_setCell_other _ _ _ _ (by simp)]; exact c2
                  have z0' : W8.frozen? ⟨s9, 0, none⟩ = false := by rw [hW8, World.frozen?_setCell]; exact z0
                  have z1' : W8.frozen? ⟨s9, 1, none⟩ = false := by rw [hW8, World.frozen?_setCell]; exact z1
                  have HB8 : Hid (Below wr.heap.size wr W8) := by rw [hW8]; exact HB7.out.setCell HS9.out _
                  clear gc
                  go_upto_region 17 with fail
                  rw [← hW8]
                  clear hW8 c0 c1 c2 z0 z1 hd
                  have c0 := c0'
                  have c1 := c1'
                  have c2 := c2'
                  have z0 := z0'
                  have z1 := z1'
                  clear c0' c1' c2' z0' z1'
                  obtain ⟨b2, hb2⟩ : ∃ b2, b2 = b1 - 1 := ⟨_, rfl⟩
                  rw [← hb2] at c1 HB2
                  clear hb2
                  have HEE : Hid (shortL x y (L.take k ++ [⟨qa, qb, qc⟩]) = lt ++ [⟨a2, b2, qc⟩]) := by show _ = _; rw [HE.out, ← HLT.out, HA2.out, HB2.out]
                  obtain ⟨sa, sc, rfl⟩ := own_formW HR.out.own
                  have HR5 := Hid.mk' (HR.out.later HB8.out)
                  have HGn : Hid (W8.cell? ⟨bx, 1, none⟩ = some (.slice (some ⟨b, o, none⟩) L.length cap)) := by show _ = _; rw [HB8.out.cell (cell_lt HG.out)]; exact HG.out
                  have hc1 := HR5.out.c1
                  have hB5 := HR5.out.hB
                  have HBA : Hid (Below W8.heap.size W8 (W8.alloc (.cells #[.int .i64 a2, .int .i64 b2, .int .i64 qc] 48))) := (Below.refl _ _).alloc (Nat.le_refl _) _
                  have HR6 := Hid.mk' (HR5.out.later HBA.out)
                  go_wp2_with (at_builtin; go_must (refine wpList_append_lies _ rfl _ _ _ rfl B 48 i _ 3 24 Tryd.underlying22 HINF.out.1 HINF.out.2.1 HINF.out.2.2.1 HINF.out.2.2.2 rfl (by omega) _ _ _ rfl HR6.out.own ⟨W8.heap.size, 0, none⟩ 1 1 [.int .i64 a2, .int .i64 b2, .int .i64 qc] rfl rfl (three_newW _ _ _ _ _) (by simp [Value.oneCell']) (by omega) (by have := HSL.out; unfold maxLen; omega) (by have := HSL.out; omega) (by simp; omega) _ rfl ?_; intro g' cap' w9 hown9 hgrow9 hat9 hlt9; obtain ⟨p0, p1, pf, hR9⟩ := HR6.out.push ⟨a2, b2, qc⟩ hgrow9 hown9; have HR9 := Hid.mk' hR9; have HG9 := Hid.mk' (net_kept HR6.out hgrow9 HBX.out.1 HBX.out.2 (v := .slice (some ⟨b, o, none⟩) L.length cap) (u := .slice (some ⟨g', 0, none⟩) (lt.length + 1) cap') (by rw [HBA.out.cell (cell_lt HGn.out)]; exact HGn.out)); clear hR9 hown9 hgrow9 hat9 hlt9))
                  exact ⟨⟨k + 1, _, h5, by go_num, by show RenAt _ _ _ _ _ _ _ _ _; rw [HTK.out, HEE.out]; exact HR9.out, HG9.out⟩, by simp [intOf]; omega⟩
                · have hd : decide (y < b1) = false := decide_eq_false gc
                  have HB2 : Hid (b1 = numV x y qb) := num_of HLH.out HB1.out (by rw [if_neg gc])
                  clear gc
                  go_upto_region 17 with fail
                  clear hd
                  obtain ⟨b2, hb2⟩ : ∃ b2, b2 = b1 := ⟨_, rfl⟩
                  rw [← hb2] at c1 HB2
                  clear hb2
                  have HEE : Hid (shortL x y (L.take k ++ [⟨qa, qb, qc⟩]) = lt ++ [⟨a2, b2, qc⟩]) := by show _ = _; rw [HE.out, ← HLT.out, HA2.out, HB2.out]
                  obtain ⟨sa, sc, rfl⟩ := own_formW HR.out.own
                  have HR5 := Hid.mk' (HR.out.later HB7.out)
                  have HGn : Hid (W7.cell? ⟨bx, 1, none⟩ = some (.slice (some ⟨b, o, none⟩) L.length cap)) := by show _ = _; rw [HB7.out.cell (cell_lt HG.out)]; exact HG.out
                  have hc1 := HR5.out.c1
                  have hB5 := HR5.out.hB
                  have HBA : Hid (Below W7.heap.size W7 (W7.alloc (.cells #[.int .i64 a2, .int .i64 b2, .int .i64 qc] 48))) := (Below.refl _ _).alloc (Nat.le_refl _) _
                  have HR6 := Hid.mk' (HR5.out.later HBA.out)
                  go_wp2_with (at_builtin; go_must (refine wpList_append_lies _ rfl _ _ _ rfl B 48 i _ 3 24 Tryd.underlying22 HINF.out.1 HINF.out.2.1 HINF.out.2.2.1 HINF.out.2.2.2 rfl (by omega) _ _ _ rfl HR6.out.own ⟨W7.heap.size, 0, none⟩ 1 1 [.int .i64 a2, .int .i64 b2, .int .i64 qc] rfl rfl (three_newW _ _ _ _ _) (by simp [Value.oneCell']) (by omega) (by have := HSL.out; unfold maxLen; omega) (by have := HSL.out; omega) (by simp; omega) _ rfl ?_; intro g' cap' w9 hown9 hgrow9 hat9 hlt9; obtain ⟨p0, p1, pf, hR9⟩ := HR6.out.push ⟨a2, b2, qc⟩ hgrow9 hown9; have HR9 := Hid.mk' hR9; have HG9 := Hid.mk' (net_kept HR6.out hgrow9 HBX.out.1 HBX.out.2 (v := .slice (some ⟨b, o, none⟩) L.length cap) (u := .slice (some ⟨g', 0, none⟩) (lt.length + 1) cap') (by rw [HBA.out.cell (cell_lt HGn.out)]; exact HGn.out)); clear hR9 hown9 hgrow9 hat9 hlt9))
                  exact ⟨⟨k + 1, _, h5, by go_num, by show RenAt _ _ _ _ _ _ _ _ _; rw [HTK.out, HEE.out]; exact HR9.out, HG9.out⟩, by simp [intOf]; omega⟩
              · have hd : decide (y < a1) = false := decide_eq_false gc
                have HA2 : Hid (a1 = numV x y qa) := num_of HLH.out HA1.out (by rw [if_neg gc])
                clear gc
                go_upto_region 15 with fail
                clear hd
                obtain ⟨a2, ha2⟩ : ∃ a2, a2 = a1 := ⟨_, rfl⟩
                rw [← ha2] at c0 HA2
                clear ha2
                by_cases gc : y < b1
                · have hd : decide (y < b1) = true := decide_eq_true gc
                  have HB2 : Hid (b1 - 1 = numV x y qb) := num_of HLH.out HB1.out (by rw [if_pos gc])
                  obtain ⟨W8, hW8⟩ : ∃ W8, W8 = W5.setCell ⟨s9, 1, none⟩ (.int .i64 (b1 - 1)) := ⟨_, rfl⟩
                  have c0' : W8.cell? ⟨s9, 0, none⟩ = some (.int .i64 a2) := by rw [hW8, World.cell?_setCell_other _ _ _ _ (by simp)]; exact c0
                  have c1' : W8.cell? ⟨s9, 1, none⟩ = some (.int .i64 (b1 - 1)) := by rw [hW8, World.cell?_setCell_same _ _ _ c1]
                  have c2' : W8.cell? ⟨s9, 2, none⟩ = some (.int .i64 qc) := by rw [hW8, World.cell?_setCell_other _ _ _ _ (by simp)]; exact c2
                  have z0' : W8.frozen? ⟨s9, 0, none⟩ = false := by rw [hW8, World.frozen?_setCell]; exact z0
                  have z1' : W8.frozen? ⟨s9, 1, none⟩ = false := by rw [hW8, World.frozen?_setCell]; exact z1
                  have HB8 : Hid (Below wr.heap.size wr W8) := by rw [hW8]; exact HB5.out.setCell HS9.out _
                  clear gc
                  go_upto_region 17 with fail
                  rw [← hW8]
                  clear hW8 c0 c1 c2 z0 z1 hd
                  have c0 := c0'
                  have c1 := c1'
                  have c2 := c2'
                  have z0 := z0'
                  have z1 := z1'
                  clear c0' c1' c2' z0' z1'
                  obtain ⟨b2, hb2⟩ : ∃ b2, b2 = b1 - 1 := ⟨_, rfl⟩
                  rw [← hb2] at c1 HB2
                  clear hb2
                  have HEE : Hid (shortL x y (L.take k ++ [⟨qa, qb, qc⟩]) = lt ++ [⟨a2, b2, qc⟩]) := by show _ = _; rw [HE.out, ← HLT.out, HA2.out, HB2.out]
                  obtain ⟨sa, sc, rfl⟩ := own_formW HR.out.own
                  have HR5 := Hid.mk' (HR.out.later HB8.out)
                  have HGn : Hid (W8.cell? ⟨bx, 1, none⟩ = some (.slice (some ⟨b, o, none⟩) L.length cap)) := by show _ = _; rw [HB8.out.cell (cell_lt HG.out)]; exact HG.out
                  have hc1 := HR5.out.c1
                  have hB5 := HR5.out.hB
                  have HBA : Hid (Below W8.heap.size W8 (W8.alloc (.cells #[.int .i64 a2, .int .i64 b2, .int .i64 qc] 48))) := (Below.refl _ _).alloc (Nat.le_refl _) _
                  have HR6 := Hid.mk' (HR5.out.later HBA.out)
                  go_wp2_with (at_builtin; go_must (refine wpList_append_lies _ rfl _ _ _ rfl B 48 i _ 3 24 Tryd.underlying22 HINF.out.1 HINF.out.2.1 HINF.out.2.2.1 HINF.out.2.2.2 rfl (by omega) _ _ _ rfl HR6.out.own ⟨W8.heap.size, 0, none⟩ 1 1 [.int .i64 a2, .int .i64 b2, .int .i64 qc] rfl rfl (three_newW _ _ _ _ _) (by simp [Value.oneCell']) (by omega) (by have := HSL.out; unfold maxLen; omega) (by have := HSL.out; omega) (by simp; omega) _ rfl ?_; intro g' cap' w9 hown9 hgrow9 hat9 hlt9; obtain ⟨p0, p1, pf, hR9⟩ := HR6.out.push ⟨a2, b2, qc⟩ hgrow9 hown9; have HR9 := Hid.mk' hR9; have HG9 := Hid.mk' (net_kept HR6.out hgrow9 HBX.out.1 HBX.out.2 (v := .slice (some ⟨b, o, none⟩) L.length cap) (u := .slice (some ⟨g', 0, none⟩) (lt.length + 1) cap') (by rw [HBA.out.cell (cell_lt HGn.out)]; exact HGn.out)); clear hR9 hown9 hgrow9 hat9 hlt9))
                  exact ⟨⟨k + 1, _, h5, by go_num, by show RenAt _ _ _ _ _ _ _ _ _; rw [HTK.out, HEE.out]; exact HR9.out, HG9.out⟩, by simp [intOf]; omega⟩
                · have hd : decide (y < b1) = false := decide_eq_false gc
                  have HB2 : Hid (b1 = numV x y qb) := num_of HLH.out HB1.out (by rw [if_neg gc])
                  clear gc
                  go_upto_region 17 with fail
                  clear hd
                  obtain ⟨b2, hb2⟩ : ∃ b2, b2 = b1 := ⟨_, rfl⟩
                  rw [← hb2] at c1 HB2
                  clear hb2
                  have HEE : Hid (shortL x y (L.take k ++ [⟨qa, qb, qc⟩]) = lt ++ [⟨a2, b2, qc⟩]) := by show _ = _; rw [HE.out, ← HLT.out, HA2.out, HB2.out]
                  obtain ⟨sa, sc, rfl⟩ := own_formW HR.out.own
                  have HR5 := Hid.mk' (HR.out.later HB5.out)
                  have HGn : Hid (W5.cell? ⟨bx, 1, none⟩ = some (.slice (some ⟨b, o, none⟩) L.length cap)) := by show _ = _; rw [HB5.out.cell (cell_lt HG.out)]; exact HG.out
                  have hc1 := HR5.out.c1
                  have hB5 := HR5.out.hB
                  have HBA : Hid (Below W5.heap.size W5 (W5.alloc (.cells #[.int .i64 a2, .int .i64 b2, .int .i64 qc] 48))) := (Below.refl _ _).alloc (Nat.le_refl _) _
                  have HR6 := Hid.mk' (HR5.out.later HBA.out)
                  go_wp2_with (at_builtin; go_must (refine wpList_append_lies _ rfl _ _ _ rfl B 48 i _ 3 24 Tryd.underlying22 HINF.out.1 HINF.out.2.1 HINF.out.2.2.1 HINF.out.2.2.2 rfl (by omega) _ _ _ rfl HR6.out.own ⟨W5.heap.size, 0, none⟩ 1 1 [.int .i64 a2, .int .i64 b2, .int .i64 qc] rfl rfl (three_newW _ _ _ _ _) (by simp [Value.oneCell']) (by omega) (by have := HSL.out; unfold maxLen; omega) (by have := HSL.out; omega) (by simp; omega) _ rfl ?_; intro g' cap' w9 hown9 hgrow9 hat9 hlt9; obtain ⟨p0, p1, pf, hR9⟩ := HR6.out.push ⟨a2, b2, qc⟩ hgrow9 hown9; have HR9 := Hid.mk' hR9; have HG9 := Hid.mk' (net_kept HR6.out hgrow9 HBX.out.1 HBX.out.2 (v := .slice (some ⟨b, o, none⟩) L.length cap) (u := .slice (some ⟨g', 0, none⟩) (lt.length + 1) cap') (by rw [HBA.out.cell (cell_lt HGn.out)]; exact HGn.out)); clear hR9 hown9 hgrow9 hat9 hlt9))
                  exact ⟨⟨k + 1, _, h5, by go_num, by show RenAt _ _ _ _ _ _ _ _ _; rw [HTK.out, HEE.out]; exact HR9.out, HG9.out⟩, by simp [intOf]; omega⟩
        · have hd : (qa == y) = false := by simpa using ga
          obtain ⟨a1, ha1⟩ : ∃ a1 : Int, a1 = qa := ⟨_, rfl⟩
          have HA1 : Hid (a1 = if qa = y then x else qa) := by show _ = _; rw [if_neg ga]; exact ha1
          clear ga
          go_upto_region 10 with fail
          clear hd
          rw [← ha1] at c0
          have ra1 : 0 ≤ a1 ∧ a1 < 1000 := by omega
          clear ha1
          by_cases gb : qb = y
          · have hd : (qb == y) = true := by simpa using gb
            obtain ⟨b1, hb1⟩ : ∃ b1 : Int, b1 = x := ⟨_, rfl⟩
            have HB1 : Hid (b1 = if qb = y then x else qb) := by show _ = _; rw [if_pos gb]; exact hb1
            obtain ⟨W6, hW6⟩ : ∃ W6, W6 = W4.setCell ⟨s9, 1, none⟩ (.int .i64 x) := ⟨_, rfl⟩
            have c0' : W6.cell? ⟨s9, 0, none⟩ = some (.int .i64 a1) := by rw [hW6, World.cell?_setCell_other _ _ _ _ (by simp)]; exact c0
            have c1' : W6.cell? ⟨s9, 1, none⟩ = some (.int .i64 x) := by rw [hW6, World.cell?_setCell_same _ _ _ c1]
            have c2' : W6.cell? ⟨s9, 2, none⟩ = some (.int .i64 qc) := by rw [hW6, World.cell?_setCell_other _ _ _ _ (by simp)]; exact c2
            have z0' : W6.frozen? ⟨s9, 0, none⟩ = false := by rw [hW6, World.frozen?_setCell]; exact z0
            have z1' : W6.frozen? ⟨s9, 1, none⟩ = false := by rw [hW6, World.frozen?_setCell]; exact z1
            have HB6 : Hid (Below wr.heap.size wr W6) := by rw [hW6]; exact HB4.out.setCell HS9.out _
            clear gb
            go_upto_region 12 with fail
            rw [← hW6]
            clear hW6 c0 c1 c2 z0 z1 hd
            have c0 := c0'
            have c1 := c1'
            have c2 := c2'
            have z0 := z0'
            have z1 := z1'
            clear c0' c1' c2' z0' z1'
            rw [← hb1] at c1
            have rb1 : 0 ≤ b1 ∧ b1 < 1000 := by omega
            clear hb1
            by_cases gs : a1 = b1
            · have hd : (a1 == b1) = true := by simpa using gs
              have HE := Hid.mk' (shortL_none x y (L.take k) ⟨qa, qb, qc⟩ ((num_same HLH.out HA1.out HB1.out).1 gs))
              have HRn := Hid.mk' (HR.out.later HB6.out)
              have HGn : Hid (W6.cell? ⟨bx, 1, none⟩ = some (.slice (some ⟨b, o, none⟩) L.length cap)) := by show _ = _; rw [HB6.out.cell (cell_lt HG.out)]; exact HG.out
              clear gs
              go_wp2_with fail
              exact ⟨⟨k + 1, _, h5, by go_num, by show RenAt _ _ _ _ _ _ _ _ _; rw [HTK.out, HE.out, ← HLT.out]; exact HRn.out, HGn.out⟩, by simp [intOf]; omega⟩
            · have hd : (a1 == b1) = false := by simpa using gs
              have HE := Hid.mk' (shortL_one x y (L.take k) ⟨qa, qb, qc⟩ (fun e => gs ((num_same HLH.out HA1.out HB1.out).2 e)))
              clear gs
              go_upto_region 13 with fail
              clear hd
              by_cases gc : y < a1
              · have hd : decide (y < a1) = true := decide_eq_true gc
                have HA2 : Hid (a1 - 1 = numV x y qa) := num_of HLH.out HA1.out (by rw [if_pos gc])
                obtain ⟨W7, hW7⟩ : ∃ W7, W7 = W6.setCell ⟨s9, 0, none⟩ (.int .i64 (a1 - 1)) := ⟨_, rfl⟩
                have c0' : W7.cell? ⟨s9, 0, none⟩ = some (.int .i64 (a1 - 1)) := by rw [hW7, World.cell?_setCell_same _ _ _ c0]
                have c1' : W7.cell? ⟨s9, 1, none⟩ = some (.int .i64 b1) := by rw [hW7, World.cell?_setCell_other _ _ _ _ (by simp)]; exact c1
                have c2' : W7.cell? ⟨s9, 2, none⟩ = some (.int .i64 qc) := by rw [hW7, World.cell?_setCell_other _ _ _ _ (by simp)]; exact c2
                have z0' : W7.frozen? ⟨s9, 0, none⟩ = false := by rw [hW7, World.frozen?_setCell]; exact z0
                have z1' : W7.frozen? ⟨s9, 1, none⟩ = false := by rw [hW7, World.frozen?_setCell]; exact z1
                have HB7 : Hid (Below wr.heap.size wr W7) := by rw [hW7]; exact HB6.out.setCell HS9.out _
                clear gc
                go_upto_region 15 with fail
                rw [← hW7]
                clear hW7 c0 c1 c2 z0 z1 hd
                have c0 := c0'
                have c1 := c1'
                have c2 := c2'
                have z0 := z0'
                have z1 := z1'
                clear c0' c1' c2' z0' z1'
                obtain ⟨a2, ha2⟩ : ∃ a2, a2 = a1 - 1 := ⟨_, rfl⟩
                rw [← ha2] at c0 HA2
                clear ha2
                by_cases gc : y < b1
                · have hd : decide (y < b1) = true := decide_eq_true gc
                  have HB2 : Hid (b1 - 1 = numV x y qb) := num_of HLH.out HB1.out (by rw [if_pos gc])
                  obtain ⟨W8, hW8⟩ : ∃ W8, W8 = W7.setCell ⟨s9, 1, none⟩ (.int .i64 (b1 - 1)) := ⟨_, rfl⟩
                  have c0' : W8.cell? ⟨s9, 0, none⟩ = some (.int .i64 a2) := by rw [hW8, World.cell?_setCell_other _ _ _ _ (by simp)]; exact c0
                  have c1' : W8.cell? ⟨s9, 1, none⟩ = some (.int .i64 (b1 - 1)) := by rw [hW8, World.cell?_setCell_same _ _ _ c1]
                  have c2' : W8.cell? ⟨s9, 2, none⟩ = some (.int .i64 qc) := by rw [hW8, World.cell?_setCell_other _ _ _ _ (by simp)]; exact c2
                  have z0' : W8.frozen? ⟨s9, 0, none⟩ = false := by rw [hW8, World.frozen?_setCell]; exact z0
                  have z1' : W8.frozen? ⟨s9, 1, none⟩ = false := by rw [hW8, World.frozen?_setCell]; exact z1
                  have HB8 : Hid (Below wr.heap.size wr W8) := by rw [hW8]; exact HB7.out.setCell HS9.out _
                  clear gc
                  go_upto_region 17 with fail
                  rw [← hW8]
                  clear hW8 c0 c1 c2 z0 z1 hd
                  have c0 := c0'
                  have c1 := c1'
                  have c2 := c2'
                  have z0 := z0'
                  have z1 := z1'
                  clear c0' c1' c2' z0' z1'
                  obtain ⟨b2, hb2⟩ : ∃ b2, b2 = b1 - 1 := ⟨_, rfl⟩
                  rw [← hb2] at c1 HB2
                  clear hb2
                  have HEE : Hid (shortL x y (L.take k ++ [⟨qa, qb, qc⟩]) = lt ++ [⟨a2, b2, qc⟩]) := by show _ = _; rw [HE.out, ← HLT.out, HA2.out, HB2.out]
                  obtain ⟨sa, sc, rfl⟩ := own_formW HR.out.own
                  have HR5 := Hid.mk' (HR.out.later HB8.out)
                  have HGn : Hid (W8.cell? ⟨bx, 1, none⟩ = some (.slice (some ⟨b, o, none⟩) L.length cap)) := by show _ = _; rw [HB8.out.cell (cell_lt HG.out)]; exact HG.out
                  have hc1 := HR5.out.c1
                  have hB5 := HR5.out.hB
                  have HBA : Hid (Below W8.heap.size W8 (W8.alloc (.cells #[.int .i64 a2, .int .i64 b2, .int .i64 qc] 48))) := (Below.refl _ _).alloc (Nat.le_refl _) _
                  have HR6 := Hid.mk' (HR5.out.later HBA.out)
                  go_wp2_with (at_builtin; go_must (refine wpList_append_lies _ rfl _ _ _ rfl B 48 i _ 3 24 Tryd.underlying22 HINF.out.1 HINF.out.2.1 HINF.out.2.2.1 HINF.out.2.2.2 rfl (by omega) _ _ _ rfl HR6.out.own ⟨W8.heap.size, 0, none⟩ 1 1 [.int .i64 a2, .int .i64 b2, .int .i64 qc] rfl rfl (three_newW _ _ _ _ _) (by simp [Value.oneCell']) (by omega) (by have := HSL.out; unfold maxLen; omega) (by have := HSL.out; omega) (by simp; omega) _ rfl ?_; intro g' cap' w9 hown9 hgrow9 hat9 hlt9; obtain ⟨p0, p1, pf, hR9⟩ := HR6.out.push ⟨a2, b2, qc⟩ hgrow9 hown9; have HR9 := Hid.mk' hR9; have HG9 := Hid.mk' (net_kept HR6.out hgrow9 HBX.out.1 HBX.out.2 (v := .slice (some ⟨b, o, none⟩) L.length cap) (u := .slice (some ⟨g', 0, none⟩) (lt.length + 1) cap') (by rw [HBA.out.cell (cell_lt HGn.out)]; exact HGn.out)); clear hR9 hown9 hgrow9 hat9 hlt9))
                  exact ⟨⟨k + 1, _, h5, by go_num, by show RenAt _ _ _ _ _ _ _ _ _; rw [HTK.out, HEE.out]; exact HR9.out, HG9.out⟩, by simp [intOf]; omega⟩
                · have hd : decide (y < b1) = false := decide_eq_false gc
                  have HB2 : Hid (b1 = numV x y qb) := num_of HLH.out HB1.out (by rw [if_neg gc])
                  clear gc
                  go_upto_region 17 with fail
                  clear hd
                  obtain ⟨b2, hb2⟩ : ∃ b2, b2 = b1 := ⟨_, rfl⟩
                  rw [← hb2] at c1 HB2
                  clear hb2
                  have HEE : Hid (shortL x y (L.take k ++ [⟨qa, qb, qc⟩]) = lt ++ [⟨a2, b2, qc⟩]) := by show _ = _; rw [HE.out, ← HLT.out, HA2.out, HB2.out]
                  obtain ⟨sa, sc, rfl⟩ := own_formW HR.out.own
                  have HR5 := Hid.mk' (HR.out.later HB7.out)
                  have HGn : Hid (W7.cell? ⟨bx, 1, none⟩ = some (.slice (some ⟨b, o, none⟩) L.length cap)) := by show _ = _; rw [HB7.out.cell (cell_lt HG.out)]; exact HG.out
                  have hc1 := HR5.out.c1
                  have hB5 := HR5.out.hB
                  have HBA : Hid (Below W7.heap.size W7 (W7.alloc (.cells #[.int .i64 a2, .int .i64 b2, .int .i64 qc] 48))) := (Below.refl _ _).alloc (Nat.le_refl _) _
                  have HR6 := Hid.mk' (HR5.out.later HBA.out)
                  go_wp2_with (at_builtin; go_must (refine wpList_append_lies _ rfl _ _ _ rfl B 48 i _ 3 24 Tryd.underlying22 HINF.out.1 HINF.out.2.1 HINF.out.2.2.1 HINF.out.2.2.2 rfl (by omega) _ _ _ rfl HR6.out.own ⟨W7.heap.size, 0, none⟩ 1 1 [.int .i64 a2, .int .i64 b2, .int .i64 qc] rfl rfl (three_newW _ _ _ _ _) (by simp [Value.oneCell']) (by omega) (by have := HSL.out; unfold maxLen; omega) (by have := HSL.out; omega) (by simp; omega) _ rfl ?_; intro g' cap' w9 hown9 hgrow9 hat9 hlt9; obtain ⟨p0, p1, pf, hR9⟩ := HR6.out.push ⟨a2, b2, qc⟩ hgrow9 hown9; have HR9 := Hid.mk' hR9; have HG9 := Hid.mk' (net_kept HR6.out hgrow9 HBX.out.1 HBX.out.2 (v := .slice (some ⟨b, o, none⟩) L.length cap) (u := .slice (some ⟨g', 0, none⟩) (lt.length + 1) cap') (by rw [HBA.out.cell (cell_lt HGn.out)]; exact HGn.out)); clear hR9 hown9 hgrow9 hat9 hlt9))
                  exact ⟨⟨k + 1, _, h5, by go_num, by show RenAt _ _ _ _ _ _ _ _ _; rw [HTK.out, HEE.out]; exact HR9.out, HG9.out⟩, by simp [intOf]; omega⟩
              · have hd : decide (y < a1) = false := decide_eq_false gc
                have HA2 : Hid (a1 = numV x y qa) := num_of HLH.out HA1.out (by rw [if_neg gc])
                clear gc
                go_upto_region 15 with fail
                clear hd
                obtain ⟨a2, ha2⟩ : ∃ a2, a2 = a1 := ⟨_, rfl⟩
                rw [← ha2] at c0 HA2
                clear ha2
                by_cases gc : y < b1
                · have hd : decide (y < b1) = true := decide_eq_true gc
                  have HB2 : Hid (b1 - 1 = numV x y qb) := num_of HLH.out HB1.out (by rw [if_pos gc])
                  obtain ⟨W8, hW8⟩ : ∃ W8, W8 = W6.setCell ⟨s9, 1, none⟩ (.int .i64 (b1 - 1)) := ⟨_, rfl⟩
                  have c0' : W8.cell? ⟨s9, 0, none⟩ = some (.int .i64 a2) := by rw [hW8, World.cell?_setCell_other _ _ _ _ (by simp)]; exact c0
                  have c1' : W8.cell? ⟨s9, 1, none⟩ = some (.int .i64 (b1 - 1)) := by rw [hW8, World.cell?_setCell_same _ _ _ c1]
                  have c2' : W8.cell? ⟨s9, 2, none⟩ = some (.int .i64 qc) := by rw [hW8, World.cell?_setCell_other _ _ _ _ (by simp)]; exact c2
                  have z0' : W8.frozen? ⟨s9, 0, none⟩ = false := by rw [hW8, World.frozen?_setCell]; exact z0
                  have z1' : W8.frozen? ⟨s9, 1, none⟩ = false := by rw [hW8, World.frozen?_setCell]; exact z1
                  have HB8 : Hid (Below wr.heap.size wr W8) := by rw [hW8]; exact HB6.out.setCell HS9.out _
                  clear gc
                  go_upto_region 17 with fail
                  rw [← hW8]
                  clear hW8 c0 c1 c2 z0 z1 hd
                  have c0 := c0'
                  have c1 := c1'
                  have c2 := c2'
                  have z0 := z0'
                  have z1 := z1'
                  clear c0' c1' c2' z0' z1'
                  obtain ⟨b2, hb2⟩ : ∃ b2, b2 = b1 - 1 := ⟨_, rfl⟩
                  rw [← hb2] at c1 HB2
                  clear hb2
                  have HEE : Hid (shortL x y (L.take k ++ [⟨qa, qb, qc⟩]) = lt ++ [⟨a2, b2, qc⟩]) := by show _ = _; rw [HE.out, ← HLT.out, HA2.out, HB2.out]
                  obtain ⟨sa, sc, rfl⟩ := own_formW HR.out.own
                  have HR5 := Hid.mk' (HR.out.later HB8.out)
                  have HGn : Hid (W8.cell? ⟨bx, 1, none⟩ = some (.slice (some ⟨b, o, none⟩) L.length cap)) := by show _ = _; rw [HB8.out.cell (cell_lt HG.out)]; exact HG.out
                  have hc1 := HR5.out.c1
                  have hB5 := HR5.out.hB
                  have HBA : Hid (Below W8.heap.size W8 (W8.alloc (.cells #[.int .i64 a2, .int .i64 b2, .int .i64 qc] 48))) := (Below.refl _ _).alloc (Nat.le_refl _) _
                  have HR6 := Hid.mk' (HR5.out.later HBA.out)
                  go_wp2_with (at_builtin; go_must (refine wpList_append_lies _ rfl _ _ _ rfl B 48 i _ 3 24 Tryd.underlying22 HINF.out.1 HINF.out.2.1 HINF.out.2.2.1 HINF.out.2.2.2 rfl (by omega) _ _ _ rfl HR6.out.own ⟨W8.heap.size, 0, none⟩ 1 1 [.int .i64 a2, .int .i64 b2, .int .i64 qc] rfl rfl (three_newW _ _ _ _ _) (by simp [Value.oneCell']) (by omega) (by have := HSL.out; unfold maxLen; omega) (by have := HSL.out; omega) (by simp; omega) _ rfl ?_; intro g' cap' w9 hown9 hgrow9 hat9 hlt9; obtain ⟨p0, p1, pf, hR9⟩ := HR6.out.push ⟨a2, b2, qc⟩ hgrow9 hown9; have HR9 := Hid.mk' hR9; have HG9 := Hid.mk' (net_kept HR6.out hgrow9 HBX.out.1 HBX.out.2 (v := .slice (some ⟨b, o, none⟩) L.length cap) (u := .slice (some ⟨g', 0, none⟩) (lt.length + 1) cap') (by rw [HBA.out.cell (cell_lt HGn.out)]; exact HGn.out)); clear hR9 hown9 hgrow9 hat9 hlt9))
                  exact ⟨⟨k + 1, _, h5, by go_num, by show RenAt _ _ _ _ _ _ _ _ _; rw [HTK.out, HEE.out]; exact HR9.out, HG9.out⟩, by simp [intOf]; omega⟩
                · have hd : decide (y < b1) = false := decide_eq_false gc
                  have HB2 : Hid (b1 = numV x y qb) := num_of HLH.out HB1.out (by rw [if_neg gc])
                  clear gc
                  go_upto_region 17 with fail
                  clear hd
                  obtain ⟨b2, hb2⟩ : ∃ b2, b2 = b1 := ⟨_, rfl⟩
                  rw [← hb2] at c1 HB2
                  clear hb2
                  have HEE : Hid (shortL x y (L.take k ++ [⟨qa, qb, qc⟩]) = lt ++ [⟨a2, b2, qc⟩]) := by show _ = _; rw [HE.out, ← HLT.out, HA2.out, HB2.out]
                  obtain ⟨sa, sc, rfl⟩ := own_formW HR.out.own
                  have HR5 := Hid.mk' (HR.out.later HB6.out)
                  have HGn : Hid (W6.cell? ⟨bx, 1, none⟩ = some (.slice (some ⟨b, o, none⟩) L.length cap)) := by show _ = _; rw [HB6.out.cell (cell_lt HG.out)]; exact HG.out
                  have hc1 := HR5.out.c1
                  have hB5 := HR5.out.hB
                  have HBA : Hid (Below W6.heap.size W6 (W6.alloc (.cells #[.int .i64 a2, .int .i64 b2, .int .i64 qc] 48))) := (Below.refl _ _).alloc (Nat.le_refl _) _
                  have HR6 := Hid.mk' (HR5.out.later HBA.out)
                  go_wp2_with (at_builtin; go_must (refine wpList_append_lies _ rfl _ _ _ rfl B 48 i _ 3 24 Tryd.underlying22 HINF.out.1 HINF.out.2.1 HINF.out.2.2.1 HINF.out.2.2.2 rfl (by omega) _ _ _ rfl HR6.out.own ⟨W6.heap.size, 0, none⟩ 1 1 [.int .i64 a2, .int .i64 b2, .int .i64 qc] rfl rfl (three_newW _ _ _ _ _) (by simp [Value.oneCell']) (by omega) (by have := HSL.out; unfold maxLen; omega) (by have := HSL.out; omega) (by simp; omega) _ rfl ?_; intro g' cap' w9 hown9 hgrow9 hat9 hlt9; obtain ⟨p0, p1, pf, hR9⟩ := HR6.out.push ⟨a2, b2, qc⟩ hgrow9 hown9; have HR9 := Hid.mk' hR9; have HG9 := Hid.mk' (net_kept HR6.out hgrow9 HBX.out.1 HBX.out.2 (v := .slice (some ⟨b, o, none⟩) L.length cap) (u := .slice (some ⟨g', 0, none⟩) (lt.length + 1) cap') (by rw [HBA.out.cell (cell_lt HGn.out)]; exact HGn.out)); clear hR9 hown9 hgrow9 hat9 hlt9))
                  exact ⟨⟨k + 1, _, h5, by go_num, by show RenAt _ _ _ _ _ _ _ _ _; rw [HTK.out, HEE.out]; exact HR9.out, HG9.out⟩, by simp [intOf]; omega⟩
          · have hd : (qb == y) = false := by simpa using gb
            obtain ⟨b1, hb1⟩ : ∃ b1 : Int, b1 = qb := ⟨_, rfl⟩
            have HB1 : Hid (b1 = if qb = y then x else qb) := by show _ = _; rw [if_neg gb]; exact hb1
            clear gb
            go_upto_region 12 with fail
            clear hd
            rw [← hb1] at c1
            have rb1 : 0 ≤ b1 ∧ b1 < 1000 := by omega
            clear hb1
            by_cases gs : a1 = b1
            · have hd : (a1 == b1) = true := by simpa using gs
              have HE := Hid.mk' (shortL_none x y (L.take k) ⟨qa, qb, qc⟩ ((num_same HLH.out HA1.out HB1.out).1 gs))
              have HRn := Hid.mk' (HR.out.later HB4.out)
              have HGn : Hid (W4.cell? ⟨bx, 1, none⟩ = some (.slice (some ⟨b, o, none⟩) L.length cap)) := by show _ = _; rw [HB4.out.cell (cell_lt HG.out)]; exact HG.out
              clear gs
              go_wp2_with fail
              exact ⟨⟨k + 1, _, h5, by go_num, by show RenAt _ _ _ _ _ _ _ _ _; rw [HTK.out, HE.out, ← HLT.out]; exact HRn.out, HGn.out⟩, by simp [intOf]; omega⟩
            · have hd : (a1 == b1) = false := by simpa using gs
              have HE := Hid.mk' (shortL_one x y (L.take k) ⟨qa, qb, qc⟩ (fun e => gs ((num_same HLH.out HA1.out HB1.out).2 e)))
              clear gs
              go_upto_region 13 with fail
              clear hd
              by_cases gc : y < a1
              · have hd : decide (y < a1) = true := decide_eq_true gc
                have HA2 : Hid (a1 - 1 = numV x y qa) := num_of HLH.out HA1.out (by rw [if_pos gc])
                obtain ⟨W7, hW7⟩ : ∃ W7, W7 = W4.setCell ⟨s9, 0, none⟩ (.int .i64 (a1 - 1)) := ⟨_, rfl⟩
                have c0' : W7.cell? ⟨s9, 0, none⟩ = some (.int .i64 (a1 - 1)) := by rw [hW7, World.cell?_setCell_same _ _ _ c0]
                have c1' : W7.cell? ⟨s9, 1, none⟩ = some (.int .i64 b1) := by rw [hW7, World.cell?_setCell_other _ _ _ _ (by simp)]; exact c1
                have c2' : W7.cell? ⟨s9, 2, none⟩ = some (.int .i64 qc) := by rw [hW7, World.cell?_setCell_other _ _ _ _ (by simp)]; exact c2
                have z0' : W7.frozen? ⟨s9, 0, none⟩ = false := by rw [hW7, World.frozen?_setCell]; exact z0
                have z1' : W7.frozen? ⟨s9, 1, none⟩ = false := by rw [hW7, World.frozen?_setCell]; exact z1
                have HB7 : Hid (Below wr.heap.size wr W7) := by rw [hW7]; exact HB4.out.setCell HS9.out _
                clear gc
                go_upto_region 15 with fail
                rw [← hW7]
                clear hW7 c0 c1 c2 z0 z1 hd
                have c0 := c0'
                have c1 := c1'
                have c2 := c2'
                have z0 := z0'
                have z1 := z1'
                clear c0' c1' c2' z0' z1'
                obtain ⟨a2, ha2⟩ : ∃ a2, a2 = a1 - 1 := ⟨_, rfl⟩
                rw [← ha2] at c0 HA2
                clear ha2
                by_cases gc : y < b1
                · have hd : decide (y < b1) = true := decide_eq_true gc
                  have HB2 : Hid (b1 - 1 = numV x y qb) := num_of HLH.out HB1.out (by rw [if_pos gc])
                  obtain ⟨W8, hW8⟩ : ∃ W8, W8 = W7.setCell ⟨s9, 1, none⟩ (.int .i64 (b1 - 1)) := ⟨_, rfl⟩
                  have c0' : W8.cell? ⟨s9, 0, none⟩ = some (.int .i64 a2) := by rw [hW8, World.cell?_setCell_other _ _ _ _ (by simp)]; exact c0
                  have c1' : W8.cell? ⟨s9, 1, none⟩ = some (.int .i64 (b1 - 1)) := by rw [hW8, World.cell?_setCell_same _ _ _ c1]
                  have c2' : W8.cell? ⟨s9, 2, none⟩ = some (.int .i64 qc) := by rw [hW8, World.cell?_setCell_other _ _ _ _ (by simp)]; exact c2
                  have z0' : W8.frozen? ⟨s9, 0, none⟩ = false := by rw [hW8, World.frozen?_setCell]; exact z0
                  have z1' : W8.frozen? ⟨s9, 1, none⟩ = false := by rw [hW8, World.frozen?_setCell]; exact z1
                  have HB8 : Hid (Below wr.heap.size wr W8) := by rw [hW8]; exact HB7.out.setCell HS9.out _
                  clear gc
                  go_upto_region 17 with fail
                  rw [← hW8]
                  clear hW8 c0 c1 c2 z0 z1 hd
                  have c0 := c0'
                  have c1 := c1'
                  have c2 := c2'
                  have z0 := z0'
                  have z1 := z1'
                  clear c0' c1' c2' z0' z1'
                  obtain ⟨b2, hb2⟩ : ∃ b2, b2 = b1 - 1 := ⟨_, rfl⟩
                  rw [← hb2] at c1 HB2
                  clear hb2
                  have HEE : Hid (shortL x y (L.take k ++ [⟨qa, qb, qc⟩]) = lt ++ [⟨a2, b2, qc⟩]) := by show _ = _; rw [HE.out, ← HLT.out, HA2.out, HB2.out]
                  obtain ⟨sa, sc, rfl⟩ := own_formW HR.out.own
                  have HR5 := Hid.mk' (HR.out.later HB8.out)
                  have HGn : Hid (W8.cell? ⟨bx, 1, none⟩ = some (.slice (some ⟨b, o, none⟩) L.length cap)) := by show _ = _; rw [HB8.out.cell (cell_lt HG.out)]; exact HG.out
                  have hc1 := HR5.out.c1
                  have hB5 := HR5.out.hB
                  have HBA : Hid (Below W8.heap.size W8 (W8.alloc (.cells #[.int .i64 a2, .int .i64 b2, .int .i64 qc] 48))) := (Below.refl _ _).alloc (Nat.le_refl _) _
                  have HR6 := Hid.mk' (HR5.out.later HBA.out)
                  go_wp2_with (at_builtin; go_must (refine wpList_append_lies _ rfl _ _ _ rfl B 48 i _ 3 24 Tryd.underlying22 HINF.out.1 HINF.out.2.1 HINF.out.2.2.1 HINF.out.2.2.2 rfl (by omega) _ _ _ rfl HR6.out.own ⟨W8.heap.size, 0, none⟩ 1 1 [.int .i64 a2, .int .i64 b2, .int .i64 qc] rfl rfl (three_newW _ _ _ _ _) (by simp [Value.oneCell']) (by omega) (by have := HSL.out; unfold maxLen; omega) (by have := HSL.out; omega) (by simp; omega) _ rfl ?_; intro g' cap' w9 hown9 hgrow9 hat9 hlt9; obtain ⟨p0, p1, pf, hR9⟩ := HR6.out.push ⟨a2, b2, qc⟩ hgrow9 hown9; have HR9 := Hid.mk' hR9; have HG9 := Hid.mk' (net_kept HR6.out hgrow9 HBX.out.1 HBX.out.2 (v := .slice (some ⟨b, o, none⟩) L.length cap) (u := .slice (some ⟨g', 0, none⟩) (lt.length + 1) cap') (by rw [HBA.out.cell (cell_lt HGn.out)]; exact HGn.out)); clear hR9 hown9 hgrow9 hat9 hlt9))
                  exact ⟨⟨k + 1, _, h5, by go_num, by show RenAt _ _ _ _ _ _ _ _ _; rw [HTK.out, HEE.out]; exact HR9.out, HG9.out⟩, by simp [intOf]; omega⟩
                · have hd : decide (y < b1) = false := decide_eq_false gc
                  have HB2 : Hid (b1 = numV x y qb) := num_of HLH.out HB1.out (by rw [if_neg gc])
                  clear gc
                  go_upto_region 17 with fail
                  clear hd
                  obtain ⟨b2, hb2⟩ : ∃ b2, b2 = b1 := ⟨_, rfl⟩
                  rw [← hb2] at c1 HB2
                  clear hb2
                  have HEE : Hid (shortL x y (L.take k ++ [⟨qa, qb, qc⟩]) = lt ++ [⟨a2, b2, qc⟩]) := by show _ = _; rw [HE.out, ← HLT.out, HA2.out, HB2.out]
                  obtain ⟨sa, sc, rfl⟩ := own_formW HR.out.own
                  have HR5 := Hid.mk' (HR.out.later HB7.out)
                  have HGn : Hid (W7.cell? ⟨bx, 1, none⟩ = some (.slice (some ⟨b, o, none⟩) L.length cap)) := by show _ = _; rw [HB7.out.cell (cell_lt HG.out)]; exact HG.out
                  have hc1 := HR5.out.c1
                  have hB5 := HR5.out.hB
                  have HBA : Hid (Below W7.heap.size W7 (W7.alloc (.cells #[.int .i64 a2, .int .i64 b2, .int .i64 qc] 48))) := (Below.refl _ _).alloc (Nat.le_refl _) _
                  have HR6 := Hid.mk' (HR5.out.later HBA.out)
                  go_wp2_with (at_builtin; go_must (refine wpList_append_lies _ rfl _ _ _ rfl B 48 i _ 3 24 Tryd.underlying22 HINF.out.1 HINF.out.2.1 HINF.out.2.2.1 HINF.out.2.2.2 rfl (by omega) _ _ _ rfl HR6.out.own ⟨W7.heap.size, 0, none⟩ 1 1 [.int .i64 a2, .int .i64 b2, .int .i64 qc] rfl rfl (three_newW _ _ _ _ _) (by simp [Value.oneCell']) (by omega) (by have := HSL.out; unfold maxLen; omega) (by have := HSL.out; omega) (by simp; omega) _ rfl ?_; intro g' cap' w9 hown9 hgrow9 hat9 hlt9; obtain ⟨p0, p1, pf, hR9⟩ := HR6.out.push ⟨a2, b2, qc⟩ hgrow9 hown9; have HR9 := Hid.mk' hR9; have HG9 := Hid.mk' (net_kept HR6.out hgrow9 HBX.out.1 HBX.out.2 (v := .slice (some ⟨b, o, none⟩) L.length cap) (u := .slice (some ⟨g', 0, none⟩) (lt.length + 1) cap') (by rw [HBA.out.cell (cell_lt HGn.out)]; exact HGn.out)); clear hR9 hown9 hgrow9 hat9 hlt9))
                  exact ⟨⟨k + 1, _, h5, by go_num, by show RenAt _ _ _ _ _ _ _ _ _; rw [HTK.out, HEE.out]; exact HR9.out, HG9.out⟩, by simp [intOf]; omega⟩
              · have hd : decide (y < a1) = false := decide_eq_false gc
                have HA2 : Hid (a1 = numV x y qa) := num_of HLH.out HA1.out (by rw [if_neg gc])
                clear gc
                go_upto_region 15 with fail
                clear hd
                obtain ⟨a2, ha2⟩ : ∃ a2, a2 = a1 := ⟨_, rfl⟩
                rw [← ha2] at c0 HA2
                clear ha2
                by_cases gc : y < b1
                · have hd : decide (y < b1) = true := decide_eq_true gc
                  have HB2 : Hid (b1 - 1 = numV x y qb) := num_of HLH.out HB1.out (by rw [if_pos gc])
                  obtain ⟨W8, hW8⟩ : ∃ W8, W8 = W4.setCell ⟨s9, 1, none⟩ (.int .i64 (b1 - 1)) := ⟨_, rfl⟩
                  have c0' : W8.cell? ⟨s9, 0, none⟩ = some (.int .i64 a2) := by rw [hW8, World.cell?_setCell_other _ _ _ _ (by simp)]; exact c0
                  have c1' : W8.cell? ⟨s9, 1, none⟩ = some (.int .i64 (b1 - 1)) := by rw [hW8, World.cell?_setCell_same _ _ _ c1]
                  have c2' : W8.cell? ⟨s9, 2, none⟩ = some (.int .i64 qc) := by rw [hW8, World.cell?_setCell_other _ _ _ _ (by simp)]; exact c2
                  have z0' : W8.frozen? ⟨s9, 0, none⟩ = false := by rw [hW8, World.frozen?_setCell]; exact z0
                  have z1' : W8.frozen? ⟨s9, 1, none⟩ = false := by rw [hW8, World.frozen?_setCell]; exact z1
                  have HB8 : Hid (Below wr.heap.size wr W8) := by rw [hW8]; exact HB4.out.setCell HS9.out _
                  clear gc
                  go_upto_region 17 with fail
                  rw [← hW8]
                  clear hW8 c0 c1 c2 z0 z1 hd
                  have c0 := c0'
                  have c1 := c1'
                  have c2 := c2'
                  have z0 := z0'
                  have z1 := z1'
                  clear c0' c1' c2' z0' z1'
                  obtain ⟨b2, hb2⟩ : ∃ b2, b2 = b1 - 1 := ⟨_, rfl⟩
                  rw [← hb2] at c1 HB2
                  clear hb2
                  have HEE : Hid (shortL x y (L.take k ++ [⟨qa, qb, qc⟩]) = lt ++ [⟨a2, b2, qc⟩]) := by show _ = _; rw [HE.out, ← HLT.out, HA2.out, HB2.out]
                  obtain ⟨sa, sc, rfl⟩ := own_formW HR.out.own
                  have HR5 := Hid.mk' (HR.out.later HB8.out)
                  have HGn : Hid (W8.cell? ⟨bx, 1, none⟩ = some (.slice (some ⟨b, o, none⟩) L.length cap)) := by show _ = _; rw [HB8.out.cell (cell_lt HG.out)]; exact HG.out
                  have hc1 := HR5.out.c1
                  have hB5 := HR5.out.hB
                  have HBA : Hid (Below W8.heap.size W8 (W8.alloc (.cells #[.int .i64 a2, .int .i64 b2, .int .i64 qc] 48))) := (Below.refl _ _).alloc (Nat.le_refl _) _
                  have HR6 := Hid.mk' (HR5.out.later HBA.out)
                  go_wp2_with (at_builtin; go_must (refine wpList_append_lies _ rfl _ _ _ rfl B 48 i _ 3 24 Tryd.underlying22 HINF.out.1 HINF.out.2.1 HINF.out.2.2.1 HINF.out.2.2.2 rfl (by omega) _ _ _ rfl HR6.out.own ⟨W8.heap.size, 0, none⟩ 1 1 [.int .i64 a2, .int .i64 b2, .int .i64 qc] rfl rfl (three_newW _ _ _ _ _) (by simp [Value.oneCell']) (by omega) (by have := HSL.out; unfold maxLen; omega) (by have := HSL.out; omega) (by simp; omega) _ rfl ?_; intro g' cap' w9 hown9 hgrow9 hat9 hlt9; obtain ⟨p0, p1, pf, hR9⟩ := HR6.out.push ⟨a2, b2, qc⟩ hgrow9 hown9; have HR9 := Hid.mk' hR9; have HG9 := Hid.mk' (net_kept HR6.out hgrow9 HBX.out.1 HBX.out.2 (v := .slice (some ⟨b, o, none⟩) L.length cap) (u := .slice (some ⟨g', 0, none⟩) (lt.length + 1) cap') (by rw [HBA.out.cell (cell_lt HGn.out)]; exact HGn.out)); clear hR9 hown9 hgrow9 hat9 hlt9))
                  exact ⟨⟨k + 1, _, h5, by go_num, by show RenAt _ _ _ _ _ _ _ _ _; rw [HTK.out, HEE.out]; exact HR9.out, HG9.out⟩, by simp [intOf]; omega⟩
                · have hd : decide (y < b1) = false := decide_eq_false gc
                  have HB2 : Hid (b1 = numV x y qb) := num_of HLH.out HB1.out (by rw [if_neg gc])
                  clear gc
                  go_upto_region 17 with fail
                  clear hd
                  obtain ⟨b2, hb2⟩ : ∃ b2, b2 = b1 := ⟨_, rfl⟩
                  rw [← hb2] at c1 HB2
                  clear hb2
                  have HEE : Hid (shortL x y (L.take k ++ [⟨qa, qb, qc⟩]) = lt ++ [⟨a2, b2, qc⟩]) := by show _ = _; rw [HE.out, ← HLT.out, HA2.out, HB2.out]
                  obtain ⟨sa, sc, rfl⟩ := own_formW HR.out.own
                  have HR5 := Hid.mk' (HR.out.later HB4.out)
                  have HGn : Hid (W4.cell? ⟨bx, 1, none⟩ = some (.slice (some ⟨b, o, none⟩) L.length cap)) := by show _ = _; rw [HB4.out.cell (cell_lt HG.out)]; exact HG.out
                  have hc1 := HR5.out.c1
                  have hB5 := HR5.out.hB
                  have HBA : Hid (Below W4.heap.size W4 (W4.alloc (.cells #[.int .i64 a2, .int .i64 b2, .int .i64 qc] 48))) := (Below.refl _ _).alloc (Nat.le_refl _) _
                  have HR6 := Hid.mk' (HR5.out.later HBA.out)
                  go_wp2_with (at_builtin; go_must (refine wpList_append_lies _ rfl _ _ _ rfl B 48 i _ 3 24 Tryd.underlying22 HINF.out.1 HINF.out.2.1 HINF.out.2.2.1 HINF.out.2.2.2 rfl (by omega) _ _ _ rfl HR6.out.own ⟨W4.heap.size, 0, none⟩ 1 1 [.int .i64 a2, .int .i64 b2, .int .i64 qc] rfl rfl (three_newW _ _ _ _ _) (by simp [Value.oneCell']) (by omega) (by have := HSL.out; unfold maxLen; omega) (by have := HSL.out; omega) (by simp; omega) _ rfl ?_; intro g' cap' w9 hown9 hgrow9 hat9 hlt9; obtain ⟨p0, p1, pf, hR9⟩ := HR6.out.push ⟨a2, b2, qc⟩ hgrow9 hown9; have HR9 := Hid.mk' hR9; have HG9 := Hid.mk' (net_kept HR6.out hgrow9 HBX.out.1 HBX.out.2 (v := .slice (some ⟨b, o, none⟩) L.length cap) (u := .slice (some ⟨g', 0, none⟩) (lt.length + 1) cap') (by rw [HBA.out.cell (cell_lt HGn.out)]; exact HGn.out)); clear hR9 hown9 hgrow9 hat9 hlt9))
                  exact ⟨⟨k + 1, _, h5, by go_num, by show RenAt _ _ _ _ _ _ _ _ _; rw [HTK.out, HEE.out]; exact HR9.out, HG9.out⟩, by simp [intOf]; omega⟩
      · obtain rfl : k = L.length := by omega
        rw [List.take_length] at HR
        obtain ⟨sa, sc, rfl⟩ := own_formW HR.out.own
        obtain ⟨f1, f2, f3, f4, f5, f6⟩ := HR.out.fin
        have q0 := HR.out.c0
        have q1 := HR.out.c1
        have q2 := HR.out.r0
        have q4 := HR.out.rz.1
        have q5 := HR.out.rz.2
        have HF := Hid.mk' (And.intro f1 f2)
        have HF4 := Hid.mk' (And.intro f4 f5)
        have HF6 := Hid.mk' f6
        clear f1 f2 f4 f5 f6 HR
        go_wp2_with fail
        exact bodyPost_ret (v := .agg #[.int .i64 (N - 1), .slice sa _ sc]) (by simp [results, Tryd.results16, go_sem, HF4.out.1, HF4.out.2]) rfl ⟨_, rfl, by rw [HMM.out.1, HMM.out.2]; exact HF.out.1, HF.out.2, HF6.out⟩
  · have hd : decide (y < x) = true := decide_eq_true hlh
    have HMM : Hid (min x y = y ∧ max x y = x) := by show _ ∧ _; omega
    have HLH := Hid.mk' hlh
    go_upto_region 4 with fail
    rw [← hW3]
    clear hW3 hd
    generalize w.heap.size + 3 = B at *
    generalize w.heap.size + 1 + 1 = ob at *
    generalize w.heap.size + 1 = rb at *
    rw [← hbx]
    clear hbx hlh
    go_wp2_with fail
    go_loopw [8] (fun t wr => ∃ (k : Nat) (sv : Value), k ≤ L.length ∧ t = .int .i64 (k : Int) ∧ Hid (RenAt 48 w wr B ob rb (N - 1) sv (shortL y x (L.take k))) ∧ Hid (wr.cell? ⟨bx, 1, none⟩ = some (.slice ad L.length cap))) (fun t _ => L.length - (intOf t).toNat)
    case atStart => exact ⟨0, _, Nat.zero_le _, rfl, HR0.out, HG0.out⟩
    case round =>
      clear HR0 HG0
      obtain ⟨k, sv, hk, rfl, HR, HG⟩ := hrel
      have g0 := HG.out
      rcases Nat.lt_or_ge k L.length with h5 | h5
      · obtain ⟨q, hq⟩ : ∃ q, L[k]? = some q := ⟨_, List.getElem?_eq_getElem h5⟩
        obtain ⟨b, o, rfl, x0, x1, x2⟩ := (HL.out wr HR.out.below).at hq
        obtain ⟨lt, hlt⟩ : ∃ lt, lt = shortL y x (L.take k) := ⟨_, rfl⟩
        rw [← hlt] at HR
        have HTK : Hid (shortL y x (L.take (k + 1)) = shortL y x (L.take k ++ [q])) := by
          show _ = _
          obtain ⟨hi, rfl⟩ := List.getElem?_eq_some_iff.1 hq
          rw [List.take_succ_eq_append_getElem hi]
        have HLT := Hid.mk' hlt
        have hsl := shortL_le y x (L.take k)
        rw [List.length_take, ← hlt] at hsl
        have HSL := Hid.mk' hsl
        have hsx := HSM.out q (List.mem_of_getElem? hq)
        have hkI : (k : Int) < (L.length : Int) := by omega
        have hk0 : (0 : Int) ≤ (k : Int) := by omega
        obtain ⟨qa, qb, qc⟩ := q
        dsimp only at x0 x1 x2 hsx
        obtain ⟨W4, hW4⟩ : ∃ W4, W4 = wr.alloc (.cells #[.int .i64 qa, .int .i64 qb, .int .i64 qc] 48) := ⟨_, rfl⟩
        obtain ⟨s9, hs9⟩ : ∃ s9, s9 = wr.heap.size := ⟨_, rfl⟩
        have hb4 : Below wr.heap.size wr W4 := by rw [hW4]; exact (Below.refl _ _).alloc (Nat.le_refl _) _
        have c0 : W4.cell? ⟨s9, 0, none⟩ = some (.int .i64 qa) := by rw [hW4, hs9]; go_simp
        have c1 : W4.cell? ⟨s9, 1, none⟩ = some (.int .i64 qb) := by rw [hW4, hs9]; go_simp
        have c2 : W4.cell? ⟨s9, 2, none⟩ = some (.int .i64 qc) := by rw [hW4, hs9]; go_simp
        have z0 : W4.frozen? ⟨s9, 0, none⟩ = false := by rw [hW4, hs9]; go_simp
        have z1 : W4.frozen? ⟨s9, 1, none⟩ = false := by rw [hW4, hs9]; go_simp
        have HB4 := Hid.mk' hb4
        have HS9 : Hid (wr.heap.size ≤ s9) := by show _ ≤ _; omega
        go_upto_region 8 with fail
        rw [← hW4, ← hs9]
        clear hW4 hs9 hb4 hlt hsl hq g0 x0 x1 x2
        have ra : 0 ≤ qa ∧ qa < 1000 := by omega
        have rb' : 0 ≤ qb ∧ qb < 1000 := by omega
        clear hsx
        by_cases ga : qa = x
        · have hd : (qa == x) = true := by simpa using ga
          obtain ⟨a1, ha1⟩ : ∃ a1 : Int, a1 = y := ⟨_, rfl⟩
          have HA1 : Hid (a1 = if qa = x then y else qa) := by show _ = _; rw [if_pos ga]; exact ha1
          obtain ⟨W5, hW5⟩ : ∃ W5, W5 = W4.setCell ⟨s9, 0, none⟩ (.int .i64 y) := ⟨_, rfl⟩
          have c0' : W5.cell? ⟨s9, 0, none⟩ = some (.int .i64 y) := by rw [hW5, World.cell?_setCell_same _ _ _ c0]
          have c1' : W5.cell? ⟨s9, 1, none⟩ = some (.int .i64 qb) := by rw [hW5, World.cell?_setCell_other _ _ _ _ (by simp)]; exact c1
          have c2' : W5.cell? ⟨s9, 2, none⟩ = some (.int .i64 qc) := by rw [hW5, World.cell?_setCell_other _ _ _ _ (by simp)]; exact c2
          have z0' : W5.frozen? ⟨s9, 0, none⟩ = false := by rw [hW5, World.frozen?_setCell]; exact z0
          have z1' : W5.frozen? ⟨s9, 1, none⟩ = false := by rw [hW5, World.frozen?_setCell]; exact z1
          have HB5 : Hid (Below wr.heap.size wr W5) := by rw [hW5]; exact HB4.out.setCell HS9.out _
          clear ga
          go_upto_region 10 with fail
          rw [← hW5]
          clear hW5 c0 c1 c2 z0 z1 hd
          have c0 := c0'
          have c1 := c1'
          have c2 := c2'
          have z0 := z0'
          have z1 := z1'
          clear c0' c1' c2' z0' z1'
          rw [← ha1] at c0
          have ra1 : 0 ≤ a1 ∧ a1 < 1000 := by omega
          clear ha1
          by_cases gb : qb = x
          · have hd : (qb == x) = true := by simpa using gb
            obtain ⟨b1, hb1⟩ : ∃ b1 : Int, b1 = y := ⟨_, rfl⟩
            have HB1 : Hid (b1 = if qb = x then y else qb) := by show _ = _; rw [if_pos gb]; exact hb1
            obtain ⟨W6, hW6⟩ : ∃ W6, W6 = W5.setCell ⟨s9, 1, none⟩ (.int .i64 y) := ⟨_, rfl⟩
            have c0' : W6.cell? ⟨s9, 0, none⟩ = some (.int .i64 a1) := by rw [hW6, World.cell?_setCell_other _ _ _ _ (by simp)]; exact c0
            have c1' : W6.cell? ⟨s9, 1, none⟩ = some (.int .i64 y) := by rw [hW6, World.cell?_setCell_same _ _ _ c1]
            have c2' : W6.cell? ⟨s9, 2, none⟩ = some (.int .i64 qc) := by rw [hW6, World.cell?_setCell_other _ _ _ _ (by simp)]; exact c2
            have z0' : W6.frozen? ⟨s9, 0, none⟩ = false := by rw [hW6, World.frozen?_setCell]; exact z0
            have z1' : W6.frozen? ⟨s9, 1, none⟩ = false := by rw [hW6, World.frozen?_setCell]; exact z1
            have HB6 : Hid (Below wr.heap.size wr W6) := by rw [hW6]; exact HB5.out.setCell HS9.out _
            clear gb
            go_upto_region 12 with fail
            rw [← hW6]
            clear hW6 c0 c1 c2 z0 z1 hd
            have c0 := c0'
            have c1 := c1'
            have c2 := c2'
            have z0 := z0'
            have z1 := z1'
            clear c0' c1' c2' z0' z1'
            rw [← hb1] at c1
            have rb1 : 0 ≤ b1 ∧ b1 < 1000 := by omega
            clear hb1
            by_cases gs : a1 = b1
            · have hd : (a1 == b1) = true := by simpa using gs
              have HE := Hid.mk' (shortL_none y x (L.take k) ⟨qa, qb, qc⟩ ((num_same HLH.out HA1.out HB1.out).1 gs))
              have HRn := Hid.mk' (HR.out.later HB6.out)
              have HGn : Hid (W6.cell? ⟨bx, 1, none⟩ = some (.slice (some ⟨b, o, none⟩) L.length cap)) := by show _ = _; rw [HB6.out.cell (cell_lt HG.out)]; exact HG.out
              clear gs
              go_wp2_with fail
              exact ⟨⟨k + 1, _, h5, by go_num, by show RenAt _ _ _ _ _ _ _ _ _; rw [HTK.out, HE.out, ← HLT.out]; exact HRn.out, HGn.out⟩, by simp [intOf]; omega⟩
            · have hd : (a1 == b1) = false := by simpa using gs
              have HE := Hid.mk' (shortL_one y x (L.take k) ⟨qa, qb, qc⟩ (fun e => gs ((num_same HLH.out HA1.out HB1.out).2 e)))
              clear gs
              go_upto_region 13 with fail
              clear hd
              by_cases gc : x < a1
              · have hd : decide (x < a1) = true := decide_eq_true gc
                have HA2 : Hid (a1 - 1 = numV y x qa) := num_of HLH.out HA1.out (by rw [if_pos gc])
                obtain ⟨W7, hW7⟩ : ∃ W7, W7 = W6.setCell ⟨s9, 0, none⟩ (.int .i64 (a1 - 1)) := ⟨_, rfl⟩
                have c0' : W7.cell? ⟨s9, 0, none⟩ = some (.int .i64 (a1 - 1)) := by rw [hW7, World.cell?_setCell_same _ _ _ c0]
                have c1' : W7.cell? ⟨s9, 1, none⟩ = some (.int .i64 b1) := by rw [hW7, World.cell?_setCell_other _ _ _ _ (by simp)]; exact c1
                have c2' : W7.cell? ⟨s9, 2, none⟩ = some (.int .i64 qc) := by rw [hW7, World.cell?_setCell_other _ _ _ _ (by simp)]; exact c2
                have z0' : W7.frozen? ⟨s9, 0, none⟩ = false := by rw [hW7, World.frozen?_setCell]; exact z0
                have z1' : W7.frozen? ⟨s9, 1, none⟩ = false := by rw [hW7, World.frozen?_setCell]; exact z1
                have HB7 : Hid (Below wr.heap.size wr W7) := by rw [hW7]; exact HB6.out.setCell HS9.out _
                clear gc
                go_upto_region 15 with fail
                rw [← hW7]
                clear hW7 c0 c1 c2 z0 z1 hd
                have c0 := c0'
                have c1 := c1'
                have c2 := c2'
                have z0 := z0'
                have z1 := z1'
                clear c0' c1' c2' z0' z1'
                obtain ⟨a2, ha2⟩ : ∃ a2, a2 = a1 - 1 := ⟨_, rfl⟩
                rw [← ha2] at c0 HA2
                clear ha2
                by_cases gc : x < b1
                · have hd : decide (x < b1) = true := decide_eq_true gc
                  have HB2 : Hid (b1 - 1 = numV y x qb) := num_of HLH.out HB1.out (by rw [if_pos gc])
                  obtain ⟨W8, hW8⟩ : ∃ W8, W8 = W7.setCell ⟨s9, 1, none⟩ (.int .i64 (b1 - 1)) := ⟨_, rfl⟩
                  have c0' : W8.cell? ⟨s9, 0, none⟩ = some (.int .i64 a2) := by rw [hW8, World.cell?_setCell_other _ _ _ _ (by simp)]; exact c0
                  have c1' : W8.cell? ⟨s9, 1, none⟩ = some (.int .i64 (b1 - 1)) := by rw [hW8, World.cell?_setCell_same _ _ _ c1]
                  have c2' : W8.cell? ⟨s9, 2, none⟩ = some (.int .i64 qc) := by rw [hW8, World.cell?_setCell_other _ _ _ _ (by simp)]; exact c2
                  have z0' : W8.frozen? ⟨s9, 0, none⟩ = false := by rw [hW8, World.frozen?_setCell]; exact z0
                  have z1' : W8.frozen? ⟨s9, 1, none⟩ = false := by rw [hW8, World.frozen?_setCell]; exact z1
                  have HB8 : Hid (Below wr.heap.size wr W8) := by rw [hW8]; exact HB7.out.setCell HS9.out _
                  clear gc
                  go_upto_region 17 with fail
                  rw [← hW8]
                  clear hW8 c0 c1 c2 z0 z1 hd
                  have c0 := c0'
                  have c1 := c1'
                  have c2 := c2'
                  have z0 := z0'
                  have z1 := z1'
                  clear c0' c1' c2' z0' z1'
                  obtain ⟨b2, hb2⟩ : ∃ b2, b2 = b1 - 1 := ⟨_, rfl⟩
                  rw [← hb2] at c1 HB2
                  clear hb2
                  have HEE : Hid (shortL y x (L.take k ++ [⟨qa, qb, qc⟩]) = lt ++ [⟨a2, b2, qc⟩]) := by show _ = _; rw [HE.out, ← HLT.out, HA2.out, HB2.out]
                  obtain ⟨sa, sc, rfl⟩ := own_formW HR.out.own
                  have HR5 := Hid.mk' (HR.out.later HB8.out)
                  have HGn : Hid (W8.cell? ⟨bx, 1, none⟩ = some (.slice (some ⟨b, o, none⟩) L.length cap)) := by show _ = _; rw [HB8.out.cell (cell_lt HG.out)]; exact HG.out
                  have hc1 := HR5.out.c1
                  have hB5 := HR5.out.hB
                  have HBA : Hid (Below W8.heap.size W8 (W8.alloc (.cells #[.int .i64 a2, .int .i64 b2, .int .i64 qc] 48))) := (Below.refl _ _).alloc (Nat.le_refl _) _
                  have HR6 := Hid.mk' (HR5.out.later HBA.out)
                  go_wp2_with (at_builtin; go_must (refine wpList_append_lies _ rfl _ _ _ rfl B 48 i _ 3 24 Tryd.underlying22 HINF.out.1 HINF.out.2.1 HINF.out.2.2.1 HINF.out.2.2.2 rfl (by omega) _ _ _ rfl HR6.out.own ⟨W8.heap.size, 0, none⟩ 1 1 [.int .i64 a2, .int .i64 b2, .int .i64 qc] rfl rfl (three_newW _ _ _ _ _) (by simp [Value.oneCell']) (by omega) (by have := HSL.out; unfold maxLen; omega) (by have := HSL.out; omega) (by simp; omega) _ rfl ?_; intro g' cap' w9 hown9 hgrow9 hat9 hlt9; obtain ⟨p0, p1, pf, hR9⟩ := HR6.out.push ⟨a2, b2, qc⟩ hgrow9 hown9; have HR9 := Hid.mk' hR9; have HG9 := Hid.mk' (net_kept HR6.out hgrow9 HBX.out.1 HBX.out.2 (v := .slice (some ⟨b, o, none⟩) L.length cap) (u := .slice (some ⟨g', 0, none⟩) (lt.length + 1) cap') (by rw [HBA.out.cell (cell_lt HGn.out)]; exact HGn.out)); clear hR9 hown9 hgrow9 hat9 hlt9))
                  exact ⟨⟨k + 1, _, h5, by go_num, by show RenAt _ _ _ _ _ _ _ _ _; rw [HTK.out, HEE.out]; exact HR9.out, HG9.out⟩, by simp [intOf]; omega⟩
                · have hd : decide (x < b1) = false := decide_eq_false gc
                  have HB2 : Hid (b1 = numV y x qb) := num_of HLH.out HB1.out (by rw [if_neg gc])
                  clear gc
                  go_upto_region 17 with fail
                  clear hd
                  obtain ⟨b2, hb2⟩ : ∃ b2, b2 = b1 := ⟨_, rfl⟩
                  rw [← hb2] at c1 HB2
                  clear hb2
                  have HEE : Hid (shortL y x (L.take k ++ [⟨qa, qb, qc⟩]) = lt ++ [⟨a2, b2, qc⟩]) := by show _ = _; rw [HE.out, ← HLT.out, HA2.out, HB2.out]
                  obtain ⟨sa, sc, rfl⟩ := own_formW HR.out.own
                  have HR5 := Hid.mk' (HR.out.later HB7.out)
                  have HGn : Hid (W7.cell? ⟨bx, 1, none⟩ = some (.slice (some ⟨b, o, none⟩) L.length cap)) := by show _ = _; rw [HB7.out.cell (cell_lt HG.out)]; exact HG.out
                  have hc1 := HR5.out.c1
                  have hB5 := HR5.out.hB
                  have HBA : Hid (Below W7.heap.size W7 (W7.alloc (.cells #[.int .i64 a2, .int .i64 b2, .int .i64 qc] 48))) := (Below.refl _ _).alloc (Nat.le_refl _) _
                  have HR6 := Hid.mk' (HR5.out.later HBA.out)
                  go_wp2_with (at_builtin; go_must (refine wpList_append_lies _ rfl _ _ _ rfl B 48 i _ 3 24 Tryd.underlying22 HINF.out.1 HINF.out.2.1 HINF.out.2.2.1 HINF.out.2.2.2 rfl (by omega) _ _ _ rfl HR6.out.own ⟨W7.heap.size, 0, none⟩ 1 1 [.int .i64 a2, .int .i64 b2, .int .i64 qc] rfl rfl (three_newW _ _ _ _ _) (by simp [Value.oneCell']) (by omega) (by have := HSL.out; unfold maxLen; omega) (by have := HSL.out; omega) (by simp; omega) _ rfl ?_; intro g' cap' w9 hown9 hgrow9 hat9 hlt9; obtain ⟨p0, p1, pf, hR9⟩ := HR6.out.push ⟨a2, b2, qc⟩ hgrow9 hown9; have HR9 := Hid.mk' hR9; have HG9 := Hid.mk' (net_kept HR6.out hgrow9 HBX.out.1 HBX.out.2 (v := .slice (some ⟨b, o, none⟩) L.length cap) (u := .slice (some ⟨g', 0, none⟩) (lt.length + 1) cap') (by rw [HBA.out.cell (cell_lt HGn.out)]; exact HGn.out)); clear hR9 hown9 hgrow9 hat9 hlt9))
                  exact ⟨⟨k + 1, _, h5, by go_num, by show RenAt _ _ _ _ _ _ _ _ _; rw [HTK.out, HEE.out]; exact HR9.out, HG9.out⟩, by simp [intOf]; omega⟩
              · have hd : decide (x < a1) = false := decide_eq_false gc
                have HA2 : Hid (a1 = numV y x qa) := num_of HLH.out HA1.out (by rw [if_neg gc])
                clear gc
                go_upto_region 15 with fail
                clear hd
                obtain ⟨a2, ha2⟩ : ∃ a2, a2 = a1 := ⟨_, rfl⟩
                rw [← ha2] at c0 HA2
                clear ha2
                by_cases gc : x < b1
                · have hd : decide (x < b1) = true := decide_eq_true gc
                  have HB2 : Hid (b1 - 1 = numV y x qb) := num_of HLH.out HB1.out (by rw [if_pos gc])
                  obtain ⟨W8, hW8⟩ : ∃ W8, W8 = W6.setCell ⟨s9, 1, none⟩ (.int .i64 (b1 - 1)) := ⟨_, rfl⟩
                  have c0' : W8.cell? ⟨s9, 0, none⟩ = some (.int .i64 a2) := by rw [hW8, World.cell?_setCell_other _ _ _ _ (by simp)]; exact c0
                  have c1' : W8.cell? ⟨s9, 1, none⟩ = some (.int .i64 (b1 - 1)) := by rw [hW8, World.cell?_setCell_same _ _ _ c1]
                  have c2' : W8.cell? ⟨s9, 2, none⟩ = some (.int .i64 qc) := by rw [hW8, World.cell?_setCell_other _ _ _ _ (by simp)]; exact c2
                  have z0' : W8.frozen? ⟨s9, 0, none⟩ = false := by rw [hW8, World.frozen?_setCell]; exact z0
                  have z1' : W8.frozen? ⟨s9, 1, none⟩ = false := by rw [hW8, World.frozen?_setCell]; exact z1
                  have HB8 : Hid (Below wr.heap.size wr W8) := by rw [hW8]; exact HB6.out.setCell HS9.out _
                  clear gc
                  go_upto_region 17 with fail
                  rw [← hW8]
                  clear hW8 c0 c1 c2 z0 z1 hd
                  have c0 := c0'
                  have c1 := c1'
                  have c2 := c2'
                  have z0 := z0'
                  have z1 := z1'
                  clear c0' c1' c2' z0' z1'
                  obtain ⟨b2, hb2⟩ : ∃ b2, b2 = b1 - 1 := ⟨_, rfl⟩
                  rw [← hb2] at c1 HB2
                  clear hb2
                  have HEE : Hid (shortL y x (L.take k ++ [⟨qa, qb, qc⟩]) = lt ++ [⟨a2, b2, qc⟩]) := by show _ = _; rw [HE.out, ← HLT.out, HA2.out, HB2.out]
                  obtain ⟨sa, sc, rfl⟩ := own_formW HR.out.own
                  have HR5 := Hid.mk' (HR.out.later HB8.out)
                  have HGn : Hid (W8.cell? ⟨bx, 1, none⟩ = some (.slice (some ⟨b, o, none⟩) L.length cap)) := by show _ = _; rw [HB8.out.cell (cell_lt HG.out)]; exact HG.out
                  have hc1 := HR5.out.c1
                  have hB5 := HR5.out.hB
                  have HBA : Hid (Below W8.heap.size W8 (W8.alloc (.cells #[.int .i64 a2, .int .i64 b2, .int .i64 qc] 48))) := (Below.refl _ _).alloc (Nat.le_refl _) _
                  have HR6 := Hid.mk' (HR5.out.later HBA.out)
                  go_wp2_with (at_builtin; go_must (refine wpList_append_lies _ rfl _ _ _ rfl B 48 i _ 3 24 Tryd.underlying22 HINF.out.1 HINF.out.2.1 HINF.out.2.2.1 HINF.out.2.2.2 rfl (by omega) _ _ _ rfl HR6.out.own ⟨W8.heap.size, 0, none⟩ 1 1 [.int .i64 a2, .int .i64 b2, .int .i64 qc] rfl rfl (three_newW _ _ _ _ _) (by simp [Value.oneCell']) (by omega) (by have := HSL.out; unfold maxLen; omega) (by have := HSL.out; omega) (by simp; omega) _ rfl ?_; intro g' cap' w9 hown9 hgrow9 hat9 hlt9; obtain ⟨p0, p1, pf, hR9⟩ := HR6.out.push ⟨a2, b2, qc⟩ hgrow9 hown9; have HR9 := Hid.mk' hR9; have HG9 := Hid.mk' (net_kept HR6.out hgrow9 HBX.out.1 HBX.out.2 (v := .slice (some ⟨b, o, none⟩) L.length cap) (u := .slice (some ⟨g', 0, none⟩) (lt.length + 1) cap') (by rw [HBA.out.cell (cell_lt HGn.out)]; exact HGn.out)); clear hR9 hown9 hgrow9 hat9 hlt9))
                  exact ⟨⟨k + 1, _, h5, by go_num, by show RenAt _ _ _ _ _ _ _ _ _; rw [HTK.out, HEE.out]; exact HR9.out, HG9.out⟩, by simp [intOf]; omega⟩
                · have hd : decide (x < b1) = false := decide_eq_false gc
                  have HB2 : Hid (b1 = numV y x qb) := num_of HLH.out HB1.out (by rw [if_neg gc])
                  clear gc
                  go_upto_region 17 with fail
                  clear hd
                  obtain ⟨b2, hb2⟩ : ∃ b2, b2 = b1 := ⟨_, rfl⟩
                  rw [← hb2] at c1 HB2
                  clear hb2
                  have HEE : Hid (shortL y x (L.take k ++ [⟨qa, qb, qc⟩]) = lt ++ [⟨a2, b2, qc⟩]) := by show _ = _; rw [HE.out, ← HLT.out, HA2.out, HB2.out]
                  obtain ⟨sa, sc, rfl⟩ := own_formW HR.out.own
                  have HR5 := Hid.mk' (HR.out.later HB6.out)
                  have HGn : Hid (W6.cell? ⟨bx, 1, none⟩ = some (.slice (some ⟨b, o, none⟩) L.length cap)) := by show _ = _; rw [HB6.out.cell (cell_lt HG.out)]; exact HG.out
                  have hc1 := HR5.out.c1
                  have hB5 := HR5.out.hB
                  have HBA : Hid (Below W6.heap.size W6 (W6.alloc (.cells #[.int .i64 a2, .int .i64 b2, .int .i64 qc] 48))) := (Below.refl _ _).alloc (Nat.le_refl _) _
                  have HR6 := Hid.mk' (HR5.out.later HBA.out)
                  go_wp2_with (at_builtin; go_must (refine wpList_append_lies _ rfl _ _ _ rfl B 48 i _ 3 24 Tryd.underlying22 HINF.out.1 HINF.out.2.1 HINF.out.2.2.1 HINF.out.2.2.2 rfl (by omega) _ _ _ rfl HR6.out.own ⟨W6.heap.size, 0, none⟩ 1 1 [.int .i64 a2, .int .i64 b2, .int .i64 qc] rfl rfl (three_newW _ _ _ _ _) (by simp [Value.oneCell']) (by omega) (by have := HSL.out; unfold maxLen; omega) (by have := HSL.out; omega) (by simp; omega) _ rfl ?_; intro g' cap' w9 hown9 hgrow9 hat9 hlt9; obtain ⟨p0, p1, pf, hR9⟩ := HR6.out.push ⟨a2, b2, qc⟩ hgrow9 hown9; have HR9 := Hid.mk' hR9; have HG9 := Hid.mk' (net_kept HR6.out hgrow9 HBX.out.1 HBX.out.2 (v := .slice (some ⟨b, o, none⟩) L.length cap) (u := .slice (some ⟨g', 0, none⟩) (lt.length + 1) cap') (by rw [HBA.out.cell (cell_lt HGn.out)]; exact HGn.out)); clear hR9 hown9 hgrow9 hat9 hlt9))
                  exact ⟨⟨k + 1, _, h5, by go_num, by show RenAt _ _ _ _ _ _ _ _ _; rw [HTK.out, HEE.out]; exact HR9.out, HG9.out⟩, by simp [intOf]; omega⟩
          · have hd : (qb == x) = false := by simpa using gb
            obtain ⟨b1, hb1⟩ : ∃ b1 : Int, b1 = qb := ⟨_, rfl⟩
            have HB1 : Hid (b1 = if qb = x then y else qb) := by show _ = _; rw [if_neg gb]; exact hb1
            clear gb
            go_upto_region 12 with fail
            clear hd
            rw [← hb1] at c1
            have rb1 : 0 ≤ b1 ∧ b1 < 1000 := by omega
            clear hb1
            by_cases gs : a1 = b1
            · have hd : (a1 == b1) = true := by simpa using gs
              have HE := Hid.mk' (shortL_none y x (L.take k) ⟨qa, qb, qc⟩ ((num_same HLH.out HA1.out HB1.out).1 gs))
              have HRn := Hid.mk' (HR.out.later HB5.out)
              have HGn : Hid (W5.cell? ⟨bx, 1, none⟩ = some (.slice (some ⟨b, o, none⟩) L.length cap)) := by show _ = _; rw [HB5.out.cell (cell_lt HG.out)]; exact HG.out
              clear gs
              go_wp2_with fail
              exact ⟨⟨k + 1, _, h5, by go_num, by show RenAt _ _ _ _ _ _ _ _ _; rw [HTK.out, HE.out, ← HLT.out]; exact HRn.out, HGn.out⟩, by simp [intOf]; omega⟩
            · have hd : (a1 == b1) = false := by simpa using gs
              have HE := Hid.mk' (shortL_one y x (L.take k) ⟨qa, qb, qc⟩ (fun e => gs ((num_same HLH.out HA1.out HB1.out).2 e)))
              clear gs
              go_upto_region 13 with fail
              clear hd
              by_cases gc : x < a1
              · have hd : decide (x < a1) = true := decide_eq_true gc
                have HA2 : Hid (a1 - 1 = numV y x qa) := num_of HLH.out HA1.out (by rw [if_pos gc])
                obtain ⟨W7, hW7⟩ : ∃ W7, W7 = W5.setCell ⟨s9, 0, none⟩ (.int .i64 (a1 - 1)) := ⟨_, rfl⟩
                have c0' : W7.cell? ⟨s9, 0, none⟩ = some (.int .i64 (a1 - 1)) := by rw [hW7, World.cell?_setCell_same _ _ _ c0]
                have c1' : W7.cell? ⟨s9, 1, none⟩ = some (.int .i64 b1) := by rw [hW7, World.cell?_setCell_other _ _ _ _ (by simp)]; exact c1
                have c2' : W7.cell? ⟨s9, 2, none⟩ = some (.int .i64 qc) := by rw [hW7, World.cell?_setCell_other _ _ _ _ (by simp)]; exact c2
                have z0' : W7.frozen? ⟨s9, 0, none⟩ = false := by rw [hW7, World.frozen?_setCell]; exact z0
                have z1' : W7.frozen? ⟨s9, 1, none⟩ = false := by rw [hW7, World.frozen?_setCell]; exact z1
                have HB7 : Hid (Below wr.heap.size wr W7) := by rw [hW7]; exact HB5.out.setCell HS9.out _
                clear gc
                go_upto_region 15 with fail
                rw [← hW7]
                clear hW7 c0 c1 c2 z0 z1 hd
                have c0 := c0'
                have c1 := c1'
                have c2 := c2'
                have z0 := z0'
                have z1 := z1'
                clear c0' c1' c2' z0' z1'
                obtain ⟨a2, ha2⟩ : ∃ a2, a2 = a1 - 1 := ⟨_, rfl⟩
                rw [← ha2] at c0 HA2
                clear ha2
                by_cases gc : x < b1
                · have hd : decide (x < b1) = true := decide_eq_true gc
                  have HB2 : Hid (b1 - 1 = numV y x qb) := num_of HLH.out HB1.out (by rw [if_pos gc])
                  obtain ⟨W8, hW8⟩ : ∃ W8, W8 = W7.setCell ⟨s9, 1, none⟩ (.int .i64 (b1 - 1)) := ⟨_, rfl⟩
                  have c0' : W8.cell? ⟨s9, 0, none⟩ = some (.int .i64 a2) := by rw [hW8, World.cell?_setCell_other _ _ _ _ (by simp)]; exact c0
                  have c1' : W8.cell? ⟨s9, 1, none⟩ = some (.int .i64 (b1 - 1)) := by rw [hW8, World.cell?_setCell_same _ _ _ c1]
                  have c2' : W8.cell? ⟨s9, 2, none⟩ = some (.int .i64 qc) := by rw [hW8, World.cell?_setCell_other _ _ _ _ (by simp)]; exact c2
                  have z0' : W8.frozen? ⟨s9, 0, none⟩ = false := by rw [hW8, World.frozen?_setCell]; exact z0
                  have z1' : W8.frozen? ⟨s9, 1, none⟩ = false := by rw [hW8, World.frozen?_setCell]; exact z1
                  have HB8 : Hid (Below wr.heap.size wr W8) := by rw [hW8]; exact HB7.out.setCell HS9.out _
                  clear gc
                  go_upto_region 17 with fail
                  rw [← hW8]
                  clear hW8 c0 c1 c2 z0 z1 hd
                  have c0 := c0'
                  have c1 := c1'
                  have c2 := c2'
                  have z0 := z0'
                  have z1 := z1'
                  clear c0' c1' c2' z0' z1'
                  obtain ⟨b2, hb2⟩ : ∃ b2, b2 = b1 - 1 := ⟨_, rfl⟩
                  rw [← hb2] at c1 HB2
                  clear hb2
                  have HEE : Hid (shortL y x (L.take k ++ [⟨qa, qb, qc⟩]) = lt ++ [⟨a2, b2, qc⟩]) := by show _ = _; rw [HE.out, ← HLT.out, HA2.out, HB2.out]
                  obtain ⟨sa, sc, rfl⟩ := own_formW HR.out.own
                  have HR5 := Hid.mk' (HR.out.later HB8.out)
                  have HGn : Hid (W8.cell? ⟨bx, 1, none⟩ = some (.slice (some ⟨b, o, none⟩) L.length cap)) := by show _ = _; rw [HB8.out.cell (cell_lt HG.out)]; exact HG.out
                  have hc1 := HR5.out.c1
                  have hB5 := HR5.out.hB
                  have HBA : Hid (Below W8.heap.size W8 (W8.alloc (.cells #[.int .i64 a2, .int .i64 b2, .int .i64 qc] 48))) := (Below.refl _ _).alloc (Nat.le_refl _) _
                  have HR6 := Hid.mk' (HR5.out.later HBA.out)
                  go_wp2_with (at_builtin; go_must (refine wpList_append_lies _ rfl _ _ _ rfl B 48 i _ 3 24 Tryd.underlying22 HINF.out.1 HINF.out.2.1 HINF.out.2.2.1 HINF.out.2.2.2 rfl (by omega) _ _ _ rfl HR6.out.own ⟨W8.heap.size, 0, none⟩ 1 1 [.int .i64 a2, .int .i64 b2, .int .i64 qc] rfl rfl (three_newW _ _ _ _ _) (by simp [Value.oneCell']) (by omega) (by have := HSL.out; unfold maxLen; omega) (by have := HSL.out; omega) (by simp; omega) _ rfl ?_; intro g' cap' w9 hown9 hgrow9 hat9 hlt9; obtain ⟨p0, p1, pf, hR9⟩ := HR6.out.push ⟨a2, b2, qc⟩ hgrow9 hown9; have HR9 := Hid.mk' hR9; have HG9 := Hid.mk' (net_kept HR6.out hgrow9 HBX.out.1 HBX.out.2 (v := .slice (some ⟨b, o, none⟩) L.length cap) (u := .slice (some ⟨g', 0, none⟩) (lt.length + 1) cap') (by rw [HBA.out.cell (cell_lt HGn.out)]; exact HGn.out)); clear hR9 hown9 hgrow9 hat9 hlt9))
                  exact ⟨⟨k + 1, _, h5, by go_num, by show RenAt _ _ _ _ _ _ _ _ _; rw [HTK.out, HEE.out]; exact HR9.out, HG9.out⟩, by simp [intOf]; omega⟩
                · have hd : decide (x < b1) = false := decide_eq_false gc
                  have HB2 : Hid (b1 = numV y x qb) := num_of HLH.out HB1.out (by rw [if_neg gc])
                  clear gc
                  go_upto_region 17 with fail
                  clear hd
                  obtain ⟨b2, hb2⟩ : ∃ b2, b2 = b1 := ⟨_, rfl⟩
                  rw [← hb2] at c1 HB2
                  clear hb2
                  have HEE : Hid (shortL y x (L.take k ++ [⟨qa, qb, qc⟩]) = lt ++ [⟨a2, b2, qc⟩]) := by show _ = _; rw [HE.out, ← HLT.out, HA2.out, HB2.out]
                  obtain ⟨sa, sc, rfl⟩ := own_formW HR.out.own
                  have HR5 := Hid.mk' (HR.out.later HB7.out)
                  have HGn : Hid (W7.cell? ⟨bx, 1, none⟩ = some (.slice (some ⟨b, o, none⟩) L.length cap)) := by show _ = _; rw [HB7.out.cell (cell_lt HG.out)]; exact HG.out
                  have hc1 := HR5.out.c1
                  have hB5 := HR5.out.hB
                  have HBA : Hid (Below W7.heap.size W7 (W7.alloc (.cells #[.int .i64 a2, .int .i64 b2, .int .i64 qc] 48))) := (Below.refl _ _).alloc (Nat.le_refl _) _
                  have HR6 := Hid.mk' (HR5.out.later HBA.out)
                  go_wp2_with (at_builtin; go_must (refine wpList_append_lies _ rfl _ _ _ rfl B 48 i _ 3 24 Tryd.underlying22 HINF.out.1 HINF.out.2.1 HINF.out.2.2.1 HINF.out.2.2.2 rfl (by omega) _ _ _ rfl HR6.out.own ⟨W7.heap.size, 0, none⟩ 1 1 [.int .i64 a2, .int .i64 b2, .int .i64 qc] rfl rfl (three_newW _ _ _ _ _) (by simp [Value.oneCell']) (by omega) (by have := HSL.out; unfold maxLen; omega) (by have := HSL.out; omega) (by simp; omega) _ rfl ?_; intro g' cap' w9 hown9 hgrow9 hat9 hlt9; obtain ⟨p0, p1, pf, hR9⟩ := HR6.out.push ⟨a2, b2, qc⟩ hgrow9 hown9; have HR9 := Hid.mk' hR9; have HG9 := Hid.mk' (net_kept HR6.out hgrow9 HBX.out.1 HBX.out.2 (v := .slice (some ⟨b, o, none⟩) L.length cap) (u := .slice (some ⟨g', 0, none⟩) (lt.length + 1) cap') (by rw [HBA.out.cell (cell_lt HGn.out)]; exact HGn.out)); clear hR9 hown9 hgrow9 hat9 hlt9))
                  exact ⟨⟨k + 1, _, h5, by go_num, by show RenAt _ _ _ _ _ _ _ _ _; rw [HTK.out, HEE.out]; exact HR9.out, HG9.out⟩, by simp [intOf]; omega⟩
              · have hd : decide (x < a1) = false := decide_eq_false gc
                have HA2 : Hid (a1 = numV y x qa) := num_of HLH.out HA1.out (by rw [if_neg gc])
                clear gc
                go_upto_region 15 with fail
                clear hd
                obtain ⟨a2, ha2⟩ : ∃ a2, a2 = a1 := ⟨_, rfl⟩
                rw [← ha2] at c0 HA2
                clear ha2
                by_cases gc : x < b1
                · have hd : decide (x < b1) = true := decide_eq_true gc
                  have HB2 : Hid (b1 - 1 = numV y x qb) := num_of HLH.out HB1.out (by rw [if_pos gc])
                  obtain ⟨W8, hW8⟩ : ∃ W8, W8 = W5.setCell ⟨s9, 1, none⟩ (.int .i64 (b1 - 1)) := ⟨_, rfl⟩
                  have c0' : W8.cell? ⟨s9, 0, none⟩ = some (.int .i64 a2) := by rw [hW8, World.cell?_setCell_other _ _ _ _ (by simp)]; exact c0
                  have c1' : W8.cell? ⟨s9, 1, none⟩ = some (.int .i64 (b1 - 1)) := by rw [hW8, World.cell?_setCell_same _ _ _ c1]
                  have c2' : W8.cell? ⟨s9, 2, none⟩ = some (.int .i64 qc) := by rw [hW8, World.cell?_setCell_other _ _ _ _ (by simp)]; exact c2
                  have z0' : W8.frozen? ⟨s9, 0, none⟩ = false := by rw [hW8, World.frozen?_setCell]; exact z0
                  have z1' : W8.frozen? ⟨s9, 1, none⟩ = false := by rw [hW8, World.frozen?_setCell]; exact z1
                  have HB8 : Hid (Below wr.heap.size wr W8) := by rw [hW8]; exact HB5.out.setCell HS9.out _
                  clear gc
                  go_upto_region 17 with fail
                  rw [← hW8]
                  clear hW8 c0 c1 c2 z0 z1 hd
                  have c0 := c0'
                  have c1 := c1'
                  have c2 := c2'
                  have z0 := z0'
                  have z1 := z1'
                  clear c0' c1' c2' z0' z1'
                  obtain ⟨b2, hb2⟩ : ∃ b2, b2 = b1 - 1 := ⟨_, rfl⟩
                  rw [← hb2] at c1 HB2
                  clear hb2
                  have HEE : Hid (shortL y x (L.take k ++ [⟨qa, qb, qc⟩]) = lt ++ [⟨a2, b2, qc⟩]) := by show _ = _; rw [HE.out, ← HLT.out, HA2.out, HB2.out]
                  obtain ⟨sa, sc, rfl⟩ := own_formW HR.out.own
                  have HR5 := Hid.mk' (HR.out.later HB8.out)
                  have HGn : Hid (W8.cell? ⟨bx, 1, none⟩ = some (.slice (some ⟨b, o, none⟩) L.length cap)) := by show _ = _; rw [HB8.out.cell (cell_lt HG.out)]; exact HG.out
                  have hc1 := HR5.out.c1
                  have hB5 := HR5.out.hB
                  have HBA : Hid (Below W8.heap.size W8 (W8.alloc (.cells #[.int .i64 a2, .int .i64 b2, .int .i64 qc] 48))) := (Below.refl _ _).alloc (Nat.le_refl _) _
                  have HR6 := Hid.mk' (HR5.out.later HBA.out)
                  go_wp2_with (at_builtin; go_must (refine wpList_append_lies _ rfl _ _ _ rfl B 48 i _ 3 24 Tryd.underlying22 HINF.out.1 HINF.out.2.1 HINF.out.2.2.1 HINF.out.2.2.2 rfl (by omega) _ _ _ rfl HR6.out.own ⟨W8.heap.size, 0, none⟩ 1 1 [.int .i64 a2, .int .i64 b2, .int .i64 qc] rfl rfl (three_newW _ _ _ _ _) (by simp [Value.oneCell']) (by omega) (by have := HSL.out; unfold maxLen; omega) (by have := HSL.out; omega) (by simp; omega) _ rfl ?_; intro g' cap' w9 hown9 hgrow9 hat9 hlt9; obtain ⟨p0, p1, pf, hR9⟩ := HR6.out.push ⟨a2, b2, qc⟩ hgrow9 hown9; have HR9 := Hid.mk' hR9; have HG9 := Hid.mk' (net_kept HR6.out hgrow9 HBX.out.1 HBX.out.2 (v := .slice (some ⟨b, o, none⟩) L.length cap) (u := .slice (some ⟨g', 0, none⟩) (lt.length + 1) cap') (by rw [HBA.out.cell (cell_lt HGn.out)]; exact HGn.out)); clear hR9 hown9 hgrow9 hat9 hlt9))
                  exact ⟨⟨k + 1, _, h5, by go_num, by show RenAt _ _ _ _ _ _ _ _ _; rw [HTK.out, HEE.out]; exact HR9.out, HG9.out⟩, by simp [intOf]; omega⟩
                · have hd : decide (x < b1) = false := decide_eq_false gc
                  have HB2 : Hid (b1 = numV y x qb) := num_of HLH.out HB1.out (by rw [if_neg gc])
                  clear gc
                  go_upto_region 17 with fail
                  clear hd
                  obtain ⟨b2, hb2⟩ : ∃ b2, b2 = b1 := ⟨_, rfl⟩
                  rw [← hb2] at c1 HB2
                  clear hb2
                  have HEE : Hid (shortL y x (L.take k ++ [⟨qa, qb, qc⟩]) = lt ++ [⟨a2, b2, qc⟩]) := by show _ = _; rw [HE.out, ← HLT.out, HA2.out, HB2.out]
                  obtain ⟨sa, sc, rfl⟩ := own_formW HR.out.own
                  have HR5 := Hid.mk' (HR.out.later HB5.out)
                  have HGn : Hid (W5.cell? ⟨bx, 1, none⟩ = some (.slice (some ⟨b, o, none⟩) L.length cap)) := by show _ = _; rw [HB5.out.cell (cell_lt HG.out)]; exact HG.out
                  have hc1 := HR5.out.c1
                  have hB5 := HR5.out.hB
                  have HBA : Hid (Below W5.heap.size W5 (W5.alloc (.cells #[.int .i64 a2, .int .i64 b2, .int .i64 qc] 48))) := (Below.refl _ _).alloc (Nat.le_refl _) _
                  have HR6 := Hid.mk' (HR5.out.later HBA.out)
                  go_wp2_with (at_builtin; go_must (refine wpList_append_lies _ rfl _ _ _ rfl B 48 i _ 3 24 Tryd.underlying22 HINF.out.1 HINF.out.2.1 HINF.out.2.2.1 HINF.out.2.2.2 rfl (by omega) _ _ _ rfl HR6.out.own ⟨W5.heap.size, 0, none⟩ 1 1 [.int .i64 a2, .int .i64 b2, .int .i64 qc] rfl rfl (three_newW _ _ _ _ _) (by simp [Value.oneCell']) (by omega) (by have := HSL.out; unfold maxLen; omega) (by have := HSL.out; omega) (by simp; omega) _ rfl ?_; intro g' cap' w9 hown9 hgrow9 hat9 hlt9; obtain ⟨p0, p1, pf, hR9⟩ := HR6.out.push ⟨a2, b2, qc⟩ hgrow9 hown9; have HR9 := Hid.mk' hR9; have HG9 := Hid.mk' (net_kept HR6.out hgrow9 HBX.out.1 HBX.out.2 (v := .slice (some ⟨b, o, none⟩) L.length cap) (u := .slice (some ⟨g', 0, none⟩) (lt.length + 1) cap') (by rw [HBA.out.cell (cell_lt HGn.out)]; exact HGn.out)); clear hR9 hown9 hgrow9 hat9 hlt9))
                  exact ⟨⟨k + 1, _, h5, by go_num, by show RenAt _ _ _ _ _ _ _ _ _; rw [HTK.out, HEE.out]; exact HR9.out, HG9.out⟩, by simp [intOf]; omega⟩
        · have hd : (qa == x) = false := by simpa using ga
          obtain ⟨a1, ha1⟩ : ∃ a1 : Int, a1 = qa := ⟨_, rfl⟩
          have HA1 : Hid (a1 = if qa = x then y else qa) := by show _ = _; rw [if_neg ga]; exact ha1
          clear ga
          go_upto_region 10 with fail
          clear hd
          rw [← ha1] at c0
          have ra1 : 0 ≤ a1 ∧ a1 < 1000 := by omega
          clear ha1
          by_cases gb : qb = x
          · have hd : (qb == x) = true := by simpa using gb
            obtain ⟨b1, hb1⟩ : ∃ b1 : Int, b1 = y := ⟨_, rfl⟩
            have HB1 : Hid (b1 = if qb = x then y else qb) := by show _ = _; rw [if_pos gb]; exact hb1
            obtain ⟨W6, hW6⟩ : ∃ W6, W6 = W4.setCell ⟨s9, 1, none⟩ (.int .i64 y) := ⟨_, rfl⟩
            have c0' : W6.cell? ⟨s9, 0, none⟩ = some (.int .i64 a1) := by rw [hW6, World.cell?_setCell_other _ _ _ _ (by simp)]; exact c0
            have c1' : W6.cell? ⟨s9, 1, none⟩ = some (.int .i64 y) := by rw [hW6, World.cell?_setCell_same _ _ _ c1]
            have c2' : W6.cell? ⟨s9, 2, none⟩ = some (.int .i64 qc) := by rw [hW6, World.cell?_setCell_other _ _ _ _ (by simp)]; exact c2
            have z0' : W6.frozen? ⟨s9, 0, none⟩ = false := by rw [hW6, World.frozen?_setCell]; exact z0
            have z1' : W6.frozen? ⟨s9, 1, none⟩ = false := by rw [hW6, World.frozen?_setCell]; exact z1
            have HB6 : Hid (Below wr.heap.size wr W6) := by rw [hW6]; exact HB4.out.setCell HS9.out _
            clear gb
            go_upto_region 12 with fail
            rw [← hW6]
            clear hW6 c0 c1 c2 z0 z1 hd
            have c0 := c0'
            have c1 := c1'
            have c2 := c2'
            have z0 := z0'
            have z1 := z1'
            clear c0' c1' c2' z0' z1'
            rw [← hb1] at c1
            have rb1 : 0 ≤ b1 ∧ b1 < 1000 := by omega
            clear hb1
            by_cases gs : a1 = b1
            · have hd : (a1 == b1) = true := by simpa using gs
              have HE := Hid.mk' (shortL_none y x (L.take k) ⟨qa, qb, qc⟩ ((num_same HLH.out HA1.out HB1.out).1 gs))
              have HRn := Hid.mk' (HR.out.later HB6.out)
              have HGn : Hid (W6.cell? ⟨bx, 1, none⟩ = some (.slice (some ⟨b, o, none⟩) L.length cap)) := by show _ = _; rw [HB6.out.cell (cell_lt HG.out)]; exact HG.out
              clear gs
              go_wp2_with fail
              exact ⟨⟨k + 1, _, h5, by go_num, by show RenAt _ _ _ _ _ _ _ _ _; rw [HTK.out, HE.out, ← HLT.out]; exact HRn.out, HGn.out⟩, by simp [intOf]; omega⟩
            · have hd : (a1 == b1) = false := by simpa using gs
              have HE := Hid.mk' (shortL_one y x (L.take k) ⟨qa, qb, qc⟩ (fun e => gs ((num_same HLH.out HA1.out HB1.out).2 e)))
              clear gs
              go_upto_region 13 with fail
              clear hd
              by_cases gc : x < a1
              · have hd : decide (x < a1) = true := decide_eq_true gc
                have HA2 : Hid (a1 - 1 = numV y x qa) := num_of HLH.out HA1.out (by rw [if_pos gc])
                obtain ⟨W7, hW7⟩ : ∃ W7, W7 = W6.setCell ⟨s9, 0, none⟩ (.int .i64 (a1 - 1)) := ⟨_, rfl⟩
                have c0' : W7.cell? ⟨s9, 0, none⟩ = some (.int .i64 (a1 - 1)) := by rw [hW7, World.cell?_setCell_same _ _ _ c0]
                have c1' : W7.cell? ⟨s9, 1, none⟩ = some (.int .i64 b1) := by rw [hW7, World.cell?_setCell_other _ _ _ _ (by simp)]; exact c1
                have c2' : W7.cell? ⟨s9, 2, none⟩ = some (.int .i64 qc) := by rw [hW7, World.cell?_setCell_other _ _ _ _ (by simp)]; exact c2
                have z0' : W7.frozen? ⟨s9, 0, none⟩ = false := by rw [hW7, World.frozen?_setCell]; exact z0
                have z1' : W7.frozen? ⟨s9, 1, none⟩ = false := by rw [hW7, World.frozen?_setCell]; exact z1
                have HB7 : Hid (Below wr.heap.size wr W7) := by rw [hW7]; exact HB6.out.setCell HS9.out _
                clear gc
                go_upto_region 15 with fail
                rw [← hW7]
                clear hW7 c0 c1 c2 z0 z1 hd
                have c0 := c0'
                have c1 := c1'
                have c2 := c2'
                have z0 := z0'
                have z1 := z1'
                clear c0' c1' c2' z0' z1'
                obtain ⟨a2, ha2⟩ : ∃ a2, a2 = a1 - 1 := ⟨_, rfl⟩
                rw [← ha2] at c0 HA2
                clear ha2
                by_cases gc : x < b1
                · have hd : decide (x < b1) = true := decide_eq_true gc
                  have HB2 : Hid (b1 - 1 = numV y x qb) := num_of HLH.out HB1.out (by rw [if_pos gc])
                  obtain ⟨W8, hW8⟩ : ∃ W8, W8 = W7.setCell ⟨s9, 1, none⟩ (.int .i64 (b1 - 1)) := ⟨_, rfl⟩
                  have c0' : W8.cell? ⟨s9, 0, none⟩ = some (.int .i64 a2) := by rw [hW8, World.cell?_setCell_other _ _ _ _ (by simp)]; exact c0
                  have c1' : W8.cell? ⟨s9, 1, none⟩ = some (.int .i64 (b1 - 1)) := by rw [hW8, World.cell?_setCell_same _ _ _ c1]
                  have c2' : W8.cell? ⟨s9, 2, none⟩ = some (.int .i64 qc) := by rw [hW8, World.cell?_setCell_other _ _ _ _ (by simp)]; exact c2
                  have z0' : W8.frozen? ⟨s9, 0, none⟩ = false := by rw [hW8, World.frozen?_setCell]; exact z0
                  have z1' : W8.frozen? ⟨s9, 1, none⟩ = false := by rw [hW8, World.frozen?_setCell]; exact z1
                  have HB8 : Hid (Below wr.heap.size wr W8) := by rw [hW8]; exact HB7.out.setCell HS9.out _
                  clear gc
                  go_upto_region 17 with fail
                  rw [← hW8]
                  clear hW8 c0 c1 c2 z0 z1 hd
                  have c0 := c0'
                  have c1 := c1'
                  have c2 := c2'
                  have z0 := z0'
                  have z1 := z1'
                  clear c0' c1' c2' z0' z1'
                  obtain ⟨b2, hb2⟩ : ∃ b2, b2 = b1 - 1 := ⟨_, rfl⟩
                  rw [← hb2] at c1 HB2
                  clear hb2
                  have HEE : Hid (shortL y x (L.take k ++ [⟨qa, qb, qc⟩]) = lt ++ [⟨a2, b2, qc⟩]) := by show _ = _; rw [HE.out, ← HLT.out, HA2.out, HB2.out]
                  obtain ⟨sa, sc, rfl⟩ := own_formW HR.out.own
                  have HR5 := Hid.mk' (HR.out.later HB8.out)
                  have HGn : Hid (W8.cell? ⟨bx, 1, none⟩ = some (.slice (some ⟨b, o, none⟩) L.length cap)) := by show _ = _; rw [HB8.out.cell (cell_lt HG.out)]; exact HG.out
                  have hc1 := HR5.out.c1
                  have hB5 := HR5.out.hB
                  have HBA : Hid (Below W8.heap.size W8 (W8.alloc (.cells #[.int .i64 a2, .int .i64 b2, .int .i64 qc] 48))) := (Below.refl _ _).alloc (Nat.le_refl _) _
                  have HR6 := Hid.mk' (HR5.out.later HBA.out)
                  go_wp2_with (at_builtin; go_must (refine wpList_append_lies _ rfl _ _ _ rfl B 48 i _ 3 24 Tryd.underlying22 HINF.out.1 HINF.out.2.1 HINF.out.2.2.1 HINF.out.2.2.2 rfl (by omega) _ _ _ rfl HR6.out.own ⟨W8.heap.size, 0, none⟩ 1 1 [.int .i64 a2, .int .i64 b2, .int .i64 qc] rfl rfl (three_newW _ _ _ _ _) (by simp [Value.oneCell']) (by omega) (by have := HSL.out; unfold maxLen; omega) (by have := HSL.out; omega) (by simp; omega) _ rfl ?_; intro g' cap' w9 hown9 hgrow9 hat9 hlt9; obtain ⟨p0, p1, pf, hR9⟩ := HR6.out.push ⟨a2, b2, qc⟩ hgrow9 hown9; have HR9 := Hid.mk' hR9; have HG9 := Hid.mk' (net_kept HR6.out hgrow9 HBX.out.1 HBX.out.2 (v := .slice (some ⟨b, o, none⟩) L.length cap) (u := .slice (some ⟨g', 0, none⟩) (lt.length + 1) cap') (by rw [HBA.out.cell (cell_lt HGn.out)]; exact HGn.out)); clear hR9 hown9 hgrow9 hat9 hlt9))
                  exact ⟨⟨k + 1, _, h5, by go_num, by show RenAt _ _ _ _ _ _ _ _ _; rw [HTK.out, HEE.out]; exact HR9.out, HG9.out⟩, by simp [intOf]; omega⟩
                · have hd : decide (x < b1) = false := decide_eq_false gc
                  have HB2 : Hid (b1 = numV y x qb) := num_of HLH.out HB1.out (by rw [if_neg gc])
                  clear gc
                  go_upto_region 17 with fail
                  clear hd
                  obtain ⟨b2, hb2⟩ : ∃ b2, b2 = b1 := ⟨_, rfl⟩
                  rw [← hb2] at c1 HB2
                  clear hb2
                  have HEE : Hid (shortL y x (L.take k ++ [⟨qa, qb, qc⟩]) = lt ++ [⟨a2, b2, qc⟩]) := by show _ = _; rw [HE.out, ← HLT.out, HA2.out, HB2.out]
                  obtain ⟨sa, sc, rfl⟩ := own_formW HR.out.own
                  have HR5 := Hid.mk' (HR.out.later HB7.out)
                  have HGn : Hid (W7.cell? ⟨bx, 1, none⟩ = some (.slice (some ⟨b, o, none⟩) L.length cap)) := by show _ = _; rw [HB7.out.cell (cell_lt HG.out)]; exact HG.out
                  have hc1 := HR5.out.c1
                  have hB5 := HR5.out.hB
                  have HBA : Hid (Below W7.heap.size W7 (W7.alloc (.cells #[.int .i64 a2, .int .i64 b2, .int .i64 qc] 48))) := (Below.refl _ _).alloc (Nat.le_refl _) _
                  have HR6 := Hid.mk' (HR5.out.later HBA.out)
                  go_wp2_with (at_builtin; go_must (refine wpList_append_lies _ rfl _ _ _ rfl B 48 i _ 3 24 Tryd.underlying22 HINF.out.1 HINF.out.2.1 HINF.out.2.2.1 HINF.out.2.2.2 rfl (by omega) _ _ _ rfl HR6.out.own ⟨W7.heap.size, 0, none⟩ 1 1 [.int .i64 a2, .int .i64 b2, .int .i64 qc] rfl rfl (three_newW _ _ _ _ _) (by simp [Value.oneCell']) (by omega) (by have := HSL.out; unfold maxLen; omega) (by have := HSL.out; omega) (by simp; omega) _ rfl ?_; intro g' cap' w9 hown9 hgrow9 hat9 hlt9; obtain ⟨p0, p1, pf, hR9⟩ := HR6.out.push ⟨a2, b2, qc⟩ hgrow9 hown9; have HR9 := Hid.mk' hR9; have HG9 := Hid.mk' (net_kept HR6.out hgrow9 HBX.out.1 HBX.out.2 (v := .slice (some ⟨b, o, none⟩) L.length cap) (u := .slice (some ⟨g', 0, none⟩) (lt.length + 1) cap') (by rw [HBA.out.cell (cell_lt HGn.out)]; exact HGn.out)); clear hR9 hown9 hgrow9 hat9 hlt9))
                  exact ⟨⟨k + 1, _, h5, by go_num, by show RenAt _ _ _ _ _ _ _ _ _; rw [HTK.out, HEE.out]; exact HR9.out, HG9.out⟩, by simp [intOf]; omega⟩
              · have hd : decide (x < a1) = false := decide_eq_false gc
                have HA2 : Hid (a1 = numV y x qa) := num_of HLH.out HA1.out (by rw [if_neg gc])
                clear gc
                go_upto_region 15 with fail
                clear hd
                obtain ⟨a2, ha2⟩ : ∃ a2, a2 = a1 := ⟨_, rfl⟩
                rw [← ha2] at c0 HA2
                clear ha2
                by_cases gc : x < b1
                · have hd : decide (x < b1) = true := decide_eq_true gc
                  have HB2 : Hid (b1 - 1 = numV y x qb) := num_of HLH.out HB1.out (by rw [if_pos gc])
                  obtain ⟨W8, hW8⟩ : ∃ W8, W8 = W6.setCell ⟨s9, 1, none⟩ (.int .i64 (b1 - 1)) := ⟨_, rfl⟩
                  have c0' : W8.cell? ⟨s9, 0, none⟩ = some (.int .i64 a2) := by rw [hW8, World.cell?_setCell_other _ _ _ _ (by simp)]; exact c0
                  have c1' : W8.cell? ⟨s9, 1, none⟩ = some (.int .i64 (b1 - 1)) := by rw [hW8, World.cell?_setCell_same _ _ _ c1]
                  have c2' : W8.cell? ⟨s9, 2, none⟩ = some (.int .i64 qc) := by rw [hW8, World.cell?_setCell_other _ _ _ _ (by simp)]; exact c2
                  have z0' : W8.frozen? ⟨s9, 0, none⟩ = false := by rw [hW8, World.frozen?_setCell]; exact z0
                  have z1' : W8.frozen? ⟨s9, 1, none⟩ = false := by rw [hW8, World.frozen?_setCell]; exact z1
                  have HB8 : Hid (Below wr.heap.size wr W8) := by rw [hW8]; exact HB6.out.setCell HS9.out _
                  clear gc
                  go_upto_region 17 with fail
                  rw [← hW8]
                  clear hW8 c0 c1 c2 z0 z1 hd
                  have c0 := c0'
                  have c1 := c1'
                  have c2 := c2'
                  have z0 := z0'
                  have z1 := z1'
                  clear c0' c1' c2' z0' z1'
                  obtain ⟨b2, hb2⟩ : ∃ b2, b2 = b1 - 1 := ⟨_, rfl⟩
                  rw [← hb2] at c1 HB2
                  clear hb2
                  have HEE : Hid (shortL y x (L.take k ++ [⟨qa, qb, qc⟩]) = lt ++ [⟨a2, b2, qc⟩]) := by show _ = _; rw [HE.out, ← HLT.out, HA2.out, HB2.out]
                  obtain ⟨sa, sc, rfl⟩ := own_formW HR.out.own
                  have HR5 := Hid.mk' (HR.out.later HB8.out)
                  have HGn : Hid (W8.cell? ⟨bx, 1, none⟩ = some (.slice (some ⟨b, o, none⟩) L.length cap)) := by show _ = _; rw [HB8.out.cell (cell_lt HG.out)]; exact HG.out
                  have hc1 := HR5.out.c1
                  have hB5 := HR5.out.hB
                  have HBA : Hid (Below W8.heap.size W8 (W8.alloc (.cells #[.int .i64 a2, .int .i64 b2, .int .i64 qc] 48))) := (Below.refl _ _).alloc (Nat.le_refl _) _
                  have HR6 := Hid.mk' (HR5.out.later HBA.out)
                  go_wp2_with (at_builtin; go_must (refine wpList_append_lies _ rfl _ _ _ rfl B 48 i _ 3 24 Tryd.underlying22 HINF.out.1 HINF.out.2.1 HINF.out.2.2.1 HINF.out.2.2.2 rfl (by omega) _ _ _ rfl HR6.out.own ⟨W8.heap.size, 0, none⟩ 1 1 [.int .i64 a2, .int .i64 b2, .int .i64 qc] rfl rfl (three_newW _ _ _ _ _) (by simp [Value.oneCell']) (by omega) (by have := HSL.out; unfold maxLen; omega) (by have := HSL.out; omega) (by simp; omega) _ rfl ?_; intro g' cap' w9 hown9 hgrow9 hat9 hlt9; obtain ⟨p0, p1, pf, hR9⟩ := HR6.out.push ⟨a2, b2, qc⟩ hgrow9 hown9; have HR9 := Hid.mk' hR9; have HG9 := Hid.mk' (net_kept HR6.out hgrow9 HBX.out.1 HBX.out.2 (v := .slice (some ⟨b, o, none⟩) L.length cap) (u := .slice (some ⟨g', 0, none⟩) (lt.length + 1) cap') (by rw [HBA.out.cell (cell_lt HGn.out)]; exact HGn.out)); clear hR9 hown9 hgrow9 hat9 hlt9))
                  exact ⟨⟨k + 1, _, h5, by go_num, by show RenAt _ _ _ _ _ _ _ _ _; rw [HTK.out, HEE.out]; exact HR9.out, HG9.out⟩, by simp [intOf]; omega⟩
                · have hd : decide (x < b1) = false := decide_eq_false gc
                  have HB2 : Hid (b1 = numV y x qb) := num_of HLH.out HB1.out (by rw [if_neg gc])
                  clear gc
                  go_upto_region 17 with fail
                  clear hd
                  obtain ⟨b2, hb2⟩ : ∃ b2, b2 = b1 := ⟨_, rfl⟩
                  rw [← hb2] at c1 HB2
                  clear hb2
                  have HEE : Hid (shortL y x (L.take k ++ [⟨qa, qb, qc⟩]) = lt ++ [⟨a2, b2, qc⟩]) := by show _ = _; rw [HE.out, ← HLT.out, HA2.out, HB2.out]
                  obtain ⟨sa, sc, rfl⟩ := own_formW HR.out.own
                  have HR5 := Hid.mk' (HR.out.later HB6.out)
                  have HGn : Hid (W6.cell? ⟨bx, 1, none⟩ = some (.slice (some ⟨b, o, none⟩) L.length cap)) := by show _ = _; rw [HB6.out.cell (cell_lt HG.out)]; exact HG.out
                  have hc1 := HR5.out.c1
                  have hB5 := HR5.out.hB
                  have HBA : Hid (Below W6.heap.size W6 (W6.alloc (.cells #[.int .i64 a2, .int .i64 b2, .int .i64 qc] 48))) := (Below.refl _ _).alloc (Nat.le_refl _) _
                  have HR6 := Hid.mk' (HR5.out.later HBA.out)
                  go_wp2_with (at_builtin; go_must (refine wpList_append_lies _ rfl _ _ _ rfl B 48 i _ 3 24 Tryd.underlying22 HINF.out.1 HINF.out.2.1 HINF.out.2.2.1 HINF.out.2.2.2 rfl (by omega) _ _ _ rfl HR6.out.own ⟨W6.heap.size, 0, none⟩ 1 1 [.int .i64 a2, .int .i64 b2, .int .i64 qc] rfl rfl (three_newW _ _ _ _ _) (by simp [Value.oneCell']) (by omega) (by have := HSL.out; unfold maxLen; omega) (by have := HSL.out; omega) (by simp; omega) _ rfl ?_; intro g' cap' w9 hown9 hgrow9 hat9 hlt9; obtain ⟨p0, p1, pf, hR9⟩ := HR6.out.push ⟨a2, b2, qc⟩ hgrow9 hown9; have HR9 := Hid.mk' hR9; have HG9 := Hid.mk' (net_kept HR6.out hgrow9 HBX.out.1 HBX.out.2 (v := .slice (some ⟨b, o, none⟩) L.length cap) (u := .slice (some ⟨g', 0, none⟩) (lt.length + 1) cap') (by rw [HBA.out.cell (cell_lt HGn.out)]; exact HGn.out)); clear hR9 hown9 hgrow9 hat9 hlt9))
                  exact ⟨⟨k + 1, _, h5, by go_num, by show RenAt _ _ _ _ _ _ _ _ _; rw [HTK.out, HEE.out]; exact HR9.out, HG9.out⟩, by simp [intOf]; omega⟩
          · have hd : (qb == x) = false := by simpa using gb
            obtain ⟨b1, hb1⟩ : ∃ b1 : Int, b1 = qb := ⟨_, rfl⟩
            have HB1 : Hid (b1 = if qb = x then y else qb) := by show _ = _; rw [if_neg gb]; exact hb1
            clear gb
            go_upto_region 12 with fail
            clear hd
            rw [← hb1] at c1
            have rb1 : 0 ≤ b1 ∧ b1 < 1000 := by omega
            clear hb1
            by_cases gs : a1 = b1
            · have hd : (a1 == b1) = true := by simpa using gs
              have HE := Hid.mk' (shortL_none y x (L.take k) ⟨qa, qb, qc⟩ ((num_same HLH.out HA1.out HB1.out).1 gs))
              have HRn := Hid.mk' (HR.out.later HB4.out)
              have HGn : Hid (W4.cell? ⟨bx, 1, none⟩ = some (.slice (some ⟨b, o, none⟩) L.length cap)) := by show _ = _; rw [HB4.out.cell (cell_lt HG.out)]; exact HG.out
              clear gs
              go_wp2_with fail
              exact ⟨⟨k + 1, _, h5, by go_num, by show RenAt _ _ _ _ _ _ _ _ _; rw [HTK.out, HE.out, ← HLT.out]; exact HRn.out, HGn.out⟩, by simp [intOf]; omega⟩
            · have hd : (a1 == b1) = false := by simpa using gs
              have HE := Hid.mk' (shortL_one y x (L.take k) ⟨qa, qb, qc⟩ (fun e => gs ((num_same HLH.out HA1.out HB1.out).2 e)))
              clear gs
              go_upto_region 13 with fail
              clear hd
              by_cases gc : x < a1
              · have hd : decide (x < a1) = true := decide_eq_true gc
                have HA2 : Hid (a1 - 1 = numV y x qa) := num_of HLH.out HA1.out (by rw [if_pos gc])
                obtain ⟨W7, hW7⟩ : ∃ W7, W7 = W4.setCell ⟨s9, 0, none⟩ (.int .i64 (a1 - 1)) := ⟨_, rfl⟩
                have c0' : W7.cell? ⟨s9, 0, none⟩ = some (.int .i64 (a1 - 1)) := by rw [hW7, World.cell?_setCell_same _ _ _ c0]
                have c1' : W7.cell? ⟨s9, 1, none⟩ = some (.int .i64 b1) := by rw [hW7, World.cell?_setCell_other _ _ _ _ (by simp)]; exact c1
                have c2' : W7.cell? ⟨s9, 2, none⟩ = some (.int .i64 qc) := by rw [hW7, World.cell?_setCell_other _ _ _ _ (by simp)]; exact c2
                have z0' : W7.frozen? ⟨s9, 0, none⟩ = false := by rw [hW7, World.frozen?_setCell]; exact z0
                have z1' : W7.frozen? ⟨s9, 1, none⟩ = false := by rw [hW7, World.frozen?_setCell]; exact z1
                have HB7 : Hid (Below wr.heap.size wr W7) := by rw [hW7]; exact HB4.out.setCell HS9.out _
                clear gc
                go_upto_region 15 with fail
                rw [← hW7]
                clear hW7 c0 c1 c2 z0 z1 hd
                have c0 := c0'
                have c1 := c1'
                have c2 := c2'
                have z0 := z0'
                have z1 := z1'
                clear c0' c1' c2' z0' z1'
                obtain ⟨a2, ha2⟩ : ∃ a2, a2 = a1 - 1 := ⟨_, rfl⟩
                rw [← ha2] at c0 HA2
                clear ha2
                by_cases gc : x < b1
                · have hd : decide (x < b1) = true := decide_eq_true gc
                  have HB2 : Hid (b1 - 1 = numV y x qb) := num_of HLH.out HB1.out (by rw [if_pos gc])
                  obtain ⟨W8, hW8⟩ : ∃ W8, W8 = W7.setCell ⟨s9, 1, none⟩ (.int .i64 (b1 - 1)) := ⟨_, rfl⟩
                  have c0' : W8.cell? ⟨s9, 0, none⟩ = some (.int .i64 a2) := by rw [hW8, World.cell?_setCell_other _ _ _ _ (by simp)]; exact c0
                  have c1' : W8.cell? ⟨s9, 1, none⟩ = some (.int .i64 (b1 - 1)) := by rw [hW8, World.cell?_setCell_same _ _ _ c1]
                  have c2' : W8.cell? ⟨s9, 2, none⟩ = some (.int .i64 qc) := by rw [hW8, World.cell?_setCell_other _ _ _ _ (by simp)]; exact c2
                  have z0' : W8.frozen? ⟨s9, 0, none⟩ = false := by rw [hW8, World.frozen?_setCell]; exact z0
                  have z1' : W8.frozen? ⟨s9, 1, none⟩ = false := by rw [hW8, World.frozen?_setCell]; exact z1
                  have HB8 : Hid (Below wr.heap.size wr W8) := by rw [hW8]; exact HB7.out.setCell HS9.out _
                  clear gc
                  go_upto_region 17 with fail
                  rw [← hW8]
                  clear hW8 c0 c1 c2 z0 z1 hd
                  have c0 := c0'
                  have c1 := c1'
                  have c2 := c2'
                  have z0 := z0'
                  have z1 := z1'
                  clear c0' c1' c2' z0' z1'
                  obtain ⟨b2, hb2⟩ : ∃ b2, b2 = b1 - 1 := ⟨_, rfl⟩
                  rw [← hb2] at c1 HB2
                  clear hb2
                  have HEE : Hid (shortL y x (L.take k ++ [⟨qa, qb, qc⟩]) = lt ++ [⟨a2, b2, qc⟩]) := by show _ = _; rw [HE.out, ← HLT.out, HA2.out, HB2.out]
                  obtain ⟨sa, sc, rfl⟩ := own_formW HR.out.own
                  have HR5 := Hid.mk' (HR.out.later HB8.out)
                  have HGn : Hid (W8.cell? ⟨bx, 1, none⟩ = some (.slice (some ⟨b, o, none⟩) L.length cap)) := by show _ = _; rw [HB8.out.cell (cell_lt HG.out)]; exact HG.out
                  have hc1 := HR5.out.c1
                  have hB5 := HR5.out.hB
                  have HBA : Hid (Below W8.heap.size W8 (W8.alloc (.cells #[.int .i64 a2, .int .i64 b2, .int .i64 qc] 48))) := (Below.refl _ _).alloc (Nat.le_refl _) _
                  have HR6 := Hid.mk' (HR5.out.later HBA.out)
                  go_wp2_with (at_builtin; go_must (refine wpList_append_lies _ rfl _ _ _ rfl B 48 i _ 3 24 Tryd.underlying22 HINF.out.1 HINF.out.2.1 HINF.out.2.2.1 HINF.out.2.2.2 rfl (by omega) _ _ _ rfl HR6.out.own ⟨W8.heap.size, 0, none⟩ 1 1 [.int .i64 a2, .int .i64 b2, .int .i64 qc] rfl rfl (three_newW _ _ _ _ _) (by simp [Value.oneCell']) (by omega) (by have := HSL.out; unfold maxLen; omega) (by have := HSL.out; omega) (by simp; omega) _ rfl ?_; intro g' cap' w9 hown9 hgrow9 hat9 hlt9; obtain ⟨p0, p1, pf, hR9⟩ := HR6.out.push ⟨a2, b2, qc⟩ hgrow9 hown9; have HR9 := Hid.mk' hR9; have HG9 := Hid.mk' (net_kept HR6.out hgrow9 HBX.out.1 HBX.out.2 (v := .slice (some ⟨b, o, none⟩) L.length cap) (u := .slice (some ⟨g', 0, none⟩) (lt.length + 1) cap') (by rw [HBA.out.cell (cell_lt HGn.out)]; exact HGn.out)); clear hR9 hown9 hgrow9 hat9 hlt9))
                  exact ⟨⟨k + 1, _, h5, by go_num, by show RenAt _ _ _ _ _ _ _ _ _; rw [HTK.out, HEE.out]; exact HR9.out, HG9.out⟩, by simp [intOf]; omega⟩
                · have hd : decide (x < b1) = false := decide_eq_false gc
                  have HB2 : Hid (b1 = numV y x qb) := num_of HLH.out HB1.out (by rw [if_neg gc])
                  clear gc
                  go_upto_region 17 with fail
                  clear hd
                  obtain ⟨b2, hb2⟩ : ∃ b2, b2 = b1 := ⟨_, rfl⟩
                  rw [← hb2] at c1 HB2
                  clear hb2
                  have HEE : Hid (shortL y x (L.take k ++ [⟨qa, qb, qc⟩]) = lt ++ [⟨a2, b2, qc⟩]) := by show _ = _; rw [HE.out, ← HLT.out, HA2.out, HB2.out]
                  obtain ⟨sa, sc, rfl⟩ := own_formW HR.out.own
                  have HR5 := Hid.mk' (HR.out.later HB7.out)
                  have HGn : Hid (W7.cell? ⟨bx, 1, none⟩ = some (.slice (some ⟨b, o, none⟩) L.length cap)) := by show _ = _; rw [HB7.out.cell (cell_lt HG.out)]; exact HG.out
                  have hc1 := HR5.out.c1
                  have hB5 := HR5.out.hB
                  have HBA : Hid (Below W7.heap.size W7 (W7.alloc (.cells #[.int .i64 a2, .int .i64 b2, .int .i64 qc] 48))) := (Below.refl _ _).alloc (Nat.le_refl _) _
                  have HR6 := Hid.mk' (HR5.out.later HBA.out)
                  go_wp2_with (at_builtin; go_must (refine wpList_append_lies _ rfl _ _ _ rfl B 48 i _ 3 24 Tryd.underlying22 HINF.out.1 HINF.out.2.1 HINF.out.2.2.1 HINF.out.2.2.2 rfl (by omega) _ _ _ rfl HR6.out.own ⟨W7.heap.size, 0, none⟩ 1 1 [.int .i64 a2, .int .i64 b2, .int .i64 qc] rfl rfl (three_newW _ _ _ _ _) (by simp [Value.oneCell']) (by omega) (by have := HSL.out; unfold maxLen; omega) (by have := HSL.out; omega) (by simp; omega) _ rfl ?_; intro g' cap' w9 hown9 hgrow9 hat9 hlt9; obtain ⟨p0, p1, pf, hR9⟩ := HR6.out.push ⟨a2, b2, qc⟩ hgrow9 hown9; have HR9 := Hid.mk' hR9; have HG9 := Hid.mk' (net_kept HR6.out hgrow9 HBX.out.1 HBX.out.2 (v := .slice (some ⟨b, o, none⟩) L.length cap) (u := .slice (some ⟨g', 0, none⟩) (lt.length + 1) cap') (by rw [HBA.out.cell (cell_lt HGn.out)]; exact HGn.out)); clear hR9 hown9 hgrow9 hat9 hlt9))
                  exact ⟨⟨k + 1, _, h5, by go_num, by show RenAt _ _ _ _ _ _ _ _ _; rw [HTK.out, HEE.out]; exact HR9.out, HG9.out⟩, by simp [intOf]; omega⟩
              · have hd : decide (x < a1) = false := decide_eq_false gc
                have HA2 : Hid (a1 = numV y x qa) := num_of HLH.out HA1.out (by rw [if_neg gc])
                clear gc
                go_upto_region 15 with fail
                clear hd
                obtain ⟨a2, ha2⟩ : ∃ a2, a2 = a1 := ⟨_, rfl⟩
                rw [← ha2] at c0 HA2
                clear ha2
                by_cases gc : x < b1
                · have hd : decide (x < b1) = true := decide_eq_true gc
                  have HB2 : Hid (b1 - 1 = numV y x qb) := num_of HLH.out HB1.out (by rw [if_pos gc])
                  obtain ⟨W8, hW8⟩ : ∃ W8, W8 = W4.setCell ⟨s9, 1, none⟩ (.int .i64 (b1 - 1)) := ⟨_, rfl⟩
                  have c0' : W8.cell? ⟨s9, 0, none⟩ = some (.int .i64 a2) := by rw [hW8, World.cell?_setCell_other _ _ _ _ (by simp)]; exact c0
                  have c1' : W8.cell? ⟨s9, 1, none⟩ = some (.int .i64 (b1 - 1)) := by rw [hW8, World.cell?_setCell_same _ _ _ c1]
                  have c2' : W8.cell? ⟨s9, 2, none⟩ = some (.int .i64 qc) := by rw [hW8, World.cell?_setCell_other _ _ _ _ (by simp)]; exact c2
                  have z0' : W8.frozen? ⟨s9, 0, none⟩ = false := by rw [hW8, World.frozen?_setCell]; exact z0
                  have z1' : W8.frozen? ⟨s9, 1, none⟩ = false := by rw [hW8, World.frozen?_setCell]; exact z1
                  have HB8 : Hid (Below wr.heap.size wr W8) := by rw [hW8]; exact HB4.out.setCell HS9.out _
                  clear gc
                  go_upto_region 17 with fail
                  rw [← hW8]
                  clear hW8 c0 c1 c2 z0 z1 hd
                  have c0 := c0'
                  have c1 := c1'
                  have c2 := c2'
                  have z0 := z0'
                  have z1 := z1'
                  clear c0' c1' c2' z0' z1'
                  obtain ⟨b2, hb2⟩ : ∃ b2, b2 = b1 - 1 := ⟨_, rfl⟩
                  rw [← hb2] at c1 HB2
                  clear hb2
                  have HEE : Hid (shortL y x (L.take k ++ [⟨qa, qb, qc⟩]) = lt ++ [⟨a2, b2, qc⟩]) := by show _ = _; rw [HE.out, ← HLT.out, HA2.out, HB2.out]
                  obtain ⟨sa, sc, rfl⟩ := own_formW HR.out.own
                  have HR5 := Hid.mk' (HR.out.later HB8.out)
                  have HGn : Hid (W8.cell? ⟨bx, 1, none⟩ = some (.slice (some ⟨b, o, none⟩) L.length cap)) := by show _ = _; rw [HB8.out.cell (cell_lt HG.out)]; exact HG.out
                  have hc1 := HR5.out.c1
                  have hB5 := HR5.out.hB
                  have HBA : Hid (Below W8.heap.size W8 (W8.alloc (.cells #[.int .i64 a2, .int .i64 b2, .int .i64 qc] 48))) := (Below.refl _ _).alloc (Nat.le_refl _) _
                  have HR6 := Hid.mk' (HR5.out.later HBA.out)
                  go_wp2_with (at_builtin; go_must (refine wpList_append_lies _ rfl _ _ _ rfl B 48 i _ 3 24 Tryd.underlying22 HINF.out.1 HINF.out.2.1 HINF.out.2.2.1 HINF.out.2.2.2 rfl (by omega) _ _ _ rfl HR6.out.own ⟨W8.heap.size, 0, none⟩ 1 1 [.int .i64 a2, .int .i64 b2, .int .i64 qc] rfl rfl (three_newW _ _ _ _ _) (by simp [Value.oneCell']) (by omega) (by have := HSL.out; unfold maxLen; omega) (by have := HSL.out; omega) (by simp; omega) _ rfl ?_; intro g' cap' w9 hown9 hgrow9 hat9 hlt9; obtain ⟨p0, p1, pf, hR9⟩ := HR6.out.push ⟨a2, b2, qc⟩ hgrow9 hown9; have HR9 := Hid.mk' hR9; have HG9 := Hid.mk' (net_kept HR6.out hgrow9 HBX.out.1 HBX.out.2 (v := .slice (some ⟨b, o, none⟩) L.length cap) (u := .slice (some ⟨g', 0, none⟩) (lt.length + 1) cap') (by rw [HBA.out.cell (cell_lt HGn.out)]; exact HGn.out)); clear hR9 hown9 hgrow9 hat9 hlt9))
                  exact ⟨⟨k + 1, _, h5, by go_num, by show RenAt _ _ _ _ _ _ _ _ _; rw [HTK.out, HEE.out]; exact HR9.out, HG9.out⟩, by simp [intOf]; omega⟩
                · have hd : decide (x < b1) = false := decide_eq_false gc
                  have HB2 : Hid (b1 = numV y x qb) := num_of HLH.out HB1.out (by rw [if_neg gc])
                  clear gc
                  go_upto_region 17 with fail
                  clear hd
                  obtain ⟨b2, hb2⟩ : ∃ b2, b2 = b1 := ⟨_, rfl⟩
                  rw [← hb2] at c1 HB2
                  clear hb2
                  have HEE : Hid (shortL y x (L.take k ++ [⟨qa, qb, qc⟩]) = lt ++ [⟨a2, b2, qc⟩]) := by show _ = _; rw [HE.out, ← HLT.out, HA2.out, HB2.out]
                  obtain ⟨sa, sc, rfl⟩ := own_formW HR.out.own
                  have HR5 := Hid.mk' (HR.out.later HB4.out)
                  have HGn : Hid (W4.cell? ⟨bx, 1, none⟩ = some (.slice (some ⟨b, o, none⟩) L.length cap)) := by show _ = _; rw [HB4.out.cell (cell_lt HG.out)]; exact HG.out
                  have hc1 := HR5.out.c1
                  have hB5 := HR5.out.hB
                  have HBA : Hid (Below W4.heap.size W4 (W4.alloc (.cells #[.int .i64 a2, .int .i64 b2, .int .i64 qc] 48))) := (Below.refl _ _).alloc (Nat.le_refl _) _
                  have HR6 := Hid.mk' (HR5.out.later HBA.out)
                  go_wp2_with (at_builtin; go_must (refine wpList_append_lies _ rfl _ _ _ rfl B 48 i _ 3 24 Tryd.underlying22 HINF.out.1 HINF.out.2.1 HINF.out.2.2.1 HINF.out.2.2.2 rfl (by omega) _ _ _ rfl HR6.out.own ⟨W4.heap.size, 0, none⟩ 1 1 [.int .i64 a2, .int .i64 b2, .int .i64 qc] rfl rfl (three_newW _ _ _ _ _) (by simp [Value.oneCell']) (by omega) (by have := HSL.out; unfold maxLen; omega) (by have := HSL.out; omega) (by simp; omega) _ rfl ?_; intro g' cap' w9 hown9 hgrow9 hat9 hlt9; obtain ⟨p0, p1, pf, hR9⟩ := HR6.out.push ⟨a2, b2, qc⟩ hgrow9 hown9; have HR9 := Hid.mk' hR9; have HG9 := Hid.mk' (net_kept HR6.out hgrow9 HBX.out.1 HBX.out.2 (v := .slice (some ⟨b, o, none⟩) L.length cap) (u := .slice (some ⟨g', 0, none⟩) (lt.length + 1) cap') (by rw [HBA.out.cell (cell_lt HGn.out)]; exact HGn.out)); clear hR9 hown9 hgrow9 hat9 hlt9))
                  exact ⟨⟨k + 1, _, h5, by go_num, by show RenAt _ _ _ _ _ _ _ _ _; rw [HTK.out, HEE.out]; exact HR9.out, HG9.out⟩, by simp [intOf]; omega⟩
      · obtain rfl : k = L.length := by omega
        rw [List.take_length] at HR
        obtain ⟨sa, sc, rfl⟩ := own_formW HR.out.own
        obtain ⟨f1, f2, f3, f4, f5, f6⟩ := HR.out.fin
        have q0 := HR.out.c0
        have q1 := HR.out.c1
        have q2 := HR.out.r0
        have q4 := HR.out.rz.1
        have q5 := HR.out.rz.2
        have HF := Hid.mk' (And.intro f1 f2)
        have HF4 := Hid.mk' (And.intro f4 f5)
        have HF6 := Hid.mk' f6
        clear f1 f2 f4 f5 f6 HR
        go_wp2_with fail
        exact bodyPost_ret (v := .agg #[.int .i64 (N - 1), .slice sa _ sc]) (by simp [results, Tryd.results16, go_sem, HF4.out.1, HF4.out.2]) rfl ⟨_, rfl, by rw [HMM.out.1, HMM.out.2]; exact HF.out.1, HF.out.2, HF6.out⟩
end Go.Proofs.YtlnhpkmcinohdaaDoor
