/- (walks.Net).renumbered with short's numbers; short. -/
import Derived.Test.YtlnhpkmcinohdaaDoorWlMem
import Derived.Test.YtlnhpkmcinohdaaDoorLastOp
namespace Go.Proofs.YtlnhpkmcinohdaaDoor
open Go.RowKit

set_option maxRecDepth 100000 in
set_option maxHeartbeats 4000000 in
theorem renumbered_any (N n lo hi : Int) (v : Value) (L : List Wr) (hb lb : Nat) (w : World) (h : WrAt w v L) (hl : L.length ≤ 1000) (hs : SmE L) (h1 : w.cell? ⟨hb, 0, none⟩ = some (.int .i64 hi)) (h2 : w.cell? ⟨lb, 0, none⟩ = some (.int .i64 lo)) :
    Calls Tryd.prog 36 #[.agg #[.int .i64 N, v], .int .i64 n, .func (.func 37) #[] #[.pointer (some ⟨hb, 0, none⟩), .pointer (some ⟨lb, 0, none⟩)]] w fun e w' => ∃ v', e = .returned (.agg #[.int .i64 n, v']) ∧ WrAt w' v' (shortL lo hi L) ∧ Below w.heap.size w w' ∧ ∀ b o k c, v' = .slice (some ⟨b, o, none⟩) k c → w.heap.size ≤ b := by
  obtain ⟨ad, cap, rfl⟩ := h.form
  have HL := Hid.mk' (fun (W : World) (hb : Below w.heap.size w W) => h.later hb)
  have HC := Hid.mk' (fun (W : World) (hq : Below w.heap.size w W) => (⟨by rw [hq.cell (cell_lt h1)]; exact h1, by rw [hq.cell (cell_lt h2)]; exact h2⟩ : W.cell? ⟨hb, 0, none⟩ = some (.int .i64 hi) ∧ W.cell? ⟨lb, 0, none⟩ = some (.int .i64 lo)))
  have HSM := Hid.mk' hs
  obtain ⟨i, hi', hi2⟩ := Option.map_eq_some_iff.1 Tryd.infoWire
  obtain ⟨hz, hsz, hby⟩ : i.zero = some (.agg #[.int .i64 0, .int .i64 0, .int .i64 0]) ∧ i.size = 3 ∧ i.bytes = 24 := by simpa using hi2
  have HINF := Hid.mk' (And.intro hi' (And.intro hz (And.intro hsz hby)))
  clear hi' hi2 hz hsz hby h h1 h2 hs
  obtain ⟨W3, hW3⟩ : ∃ W3, W3 = (((w.alloc (.cells #[.int .i64 N, .slice ad L.length cap] 34)).alloc (.cells #[.int .i64 0, .slice none 0 0] 34)).alloc (.cells #[.int .i64 n, .slice none 0 0] 34)) := ⟨_, rfl⟩
  have hR0 : RenAt 47 w W3 (w.heap.size + 3) (w.heap.size + 1 + 1) (w.heap.size + 1) n (.slice none 0 0) [] := by
    rw [hW3]
    refine ⟨(((Below.refl _ _).alloc (Nat.le_refl _) _).alloc (by simp) _).alloc (by simp; omega) _, by simp, ⟨by omega, by omega, by omega, by omega, by omega⟩, ?_, ?_, ?_, ?_, ?_, ⟨?_, ?_⟩, World.ownsRow_nil _ _ _ _⟩
    all_goals go_simp
  have g0 : W3.cell? ⟨w.heap.size, 1, none⟩ = some (.slice ad L.length cap) := by rw [hW3]; go_simp
  have HG0 := Hid.mk' g0
  have HR0 := Hid.mk' hR0
  clear hR0
  go_enter Tryd.func36, Tryd.ntmps36
  go_upto_region 2 with fail
  rw [← hW3]
  clear hW3
  generalize w.heap.size + 3 = B at *
  generalize w.heap.size + 1 + 1 = ob at *
  generalize w.heap.size + 1 = rb at *
  go_wp2_with fail
  go_loopw [17] (fun t wr => ∃ (k : Nat) (sv : Value), k ≤ L.length ∧ t = .int .i64 (k : Int) ∧ Hid (RenAt 47 w wr B ob rb n sv (shortL lo hi (L.take k)))) (fun t _ => L.length - (intOf t).toNat)
  case atStart => exact ⟨0, _, Nat.zero_le _, rfl, HR0.out⟩
  case round =>
    clear HR0 g0 HG0
    obtain ⟨k, sv, hk, rfl, HR⟩ := hrel
    rcases Nat.lt_or_ge k L.length with h5 | h5
    · obtain ⟨x, hx⟩ : ∃ x, L[k]? = some x := ⟨_, List.getElem?_eq_getElem h5⟩
      obtain ⟨b, o, rfl, x0, x1, x2⟩ := (HL.out wr HR.out.below).at hx
      have HTK : Hid (L.take (k + 1) = L.take k ++ [x]) := by
        show _ = _
        obtain ⟨hi, rfl⟩ := List.getElem?_eq_some_iff.1 hx
        exact List.take_succ_eq_append_getElem hi
      have hsx := HSM.out x (List.mem_of_getElem? hx)
      have hkI : (k : Int) < (L.length : Int) := by omega
      have hk0 : (0 : Int) ≤ (k : Int) := by omega
      obtain ⟨W4, hW4⟩ : ∃ W4, W4 = wr.alloc (.cells #[.int .i64 x.a, .int .i64 x.b, .int .i64 x.c] 47) := ⟨_, rfl⟩
      have hb4 : Below wr.heap.size wr W4 := by rw [hW4]; exact (Below.refl _ _).alloc (Nat.le_refl _) _
      have HR4 := Hid.mk' (HR.out.later hb4)
      have c0 : W4.cell? ⟨wr.heap.size, 0, none⟩ = some (.int .i64 x.a) := by rw [hW4]; go_simp
      have c1 : W4.cell? ⟨wr.heap.size, 1, none⟩ = some (.int .i64 x.b) := by rw [hW4]; go_simp
      have c2 : W4.cell? ⟨wr.heap.size, 2, none⟩ = some (.int .i64 x.c) := by rw [hW4]; go_simp
      have hcc := HC.out W4 HR4.out.below
      have HP : Hid (∀ W, W = W4.drew → Calls Tryd.prog 37 #[.int .i64 x.a, .pointer (some ⟨hb, 0, none⟩), .pointer (some ⟨lb, 0, none⟩)] W fun e w' => e = .returned (.int .i64 (numV lo hi x.a)) ∧ w' = W) := fun W hW => by subst hW; exact short1_any lo hi x.a hb lb _ hcc.1 hcc.2 ⟨hsx.1, hsx.2.1⟩
      have HQ : Hid (∀ W, W = W4.drew → Calls Tryd.prog 37 #[.int .i64 x.b, .pointer (some ⟨hb, 0, none⟩), .pointer (some ⟨lb, 0, none⟩)] W fun e w' => e = .returned (.int .i64 (numV lo hi x.b)) ∧ w' = W) := fun W hW => by subst hW; exact short1_any lo hi x.b hb lb _ hcc.1 hcc.2 ⟨hsx.2.2.1, hsx.2.2.2.1⟩
      have HS : Hid (W4.drew.cell? ⟨wr.heap.size, 0, none⟩ = some (.int .i64 x.a) ∧ W4.drew.cell? ⟨wr.heap.size, 1, none⟩ = some (.int .i64 x.b)) := ⟨c0, c1⟩
      have HW4 := Hid.mk' hW4
      clear hsx hcc hb4 hW4 HR
      go_upto_region 5 with fail
      rw [← HW4.out]
      clear x0 x1 x2
      refine region_but_last (n := 9) (S := fun W => W.cell? ⟨wr.heap.size, 0, none⟩ = some (.int .i64 x.a) ∧ W.cell? ⟨wr.heap.size, 1, none⟩ = some (.int .i64 x.b)) (by kernel_rfl) (by kernel_rfl) (by kernel_rfl) HS.out (fun hHeld => ?_)
      have HR5 := Hid.mk' (HR4.out.later (Below.refl W4.heap.size W4).drew)
      have d2 : W4.drew.cell? ⟨wr.heap.size, 2, none⟩ = some (.int .i64 x.c) := c2
      clear c0 c1 c2 HR4
      obtain ⟨W5, hW5⟩ : ∃ W5, W5 = W4.drew := ⟨_, rfl⟩
      rw [← hW5] at HR5 HS HP HQ d2 ⊢
      clear hW5
      obtain ⟨xa, hxa⟩ : ∃ z, z = numV lo hi x.a := ⟨_, rfl⟩
      obtain ⟨xb, hxb⟩ : ∃ z, z = numV lo hi x.b := ⟨_, rfl⟩
      rw [← hxa] at HP
      rw [← hxb] at HQ
      have HXA := Hid.mk' hxa
      have HXB := Hid.mk' hxb
      clear hxa hxb
      refine wpAnyH_take (i := 0) (v := ?v0) rfl (by kernel_rfl) (by kernel_rfl) (by kernel_rfl) (fun _ _ _ h => h) (Or.inl ⟨by rfl, ?hy0⟩) (by assumption) ?rest0
      case hy0 => (intro w hSw; (try dsimp only at hSw); go_simp <;> (try with_reducible rfl))
      simp only [Act.put]
      refine wpAnyH_take (i := 1) (v := ?v1) rfl (by kernel_rfl) (by kernel_rfl) (by kernel_rfl) (fun _ _ _ h => h) (Or.inl ⟨by rfl, ?hy1⟩) (by assumption) ?rest1
      case hy1 => (intro w hSw; (try dsimp only at hSw); go_simp <;> (try with_reducible rfl))
      simp only [Act.put]
      refine wpAnyH_take (i := 2) (v := ?v2) rfl (by kernel_rfl) (by kernel_rfl) (by kernel_rfl) (fun _ _ _ h => h) (Or.inl ⟨by rfl, ?hy2⟩) (by assumption) ?rest2
      case hy2 => (intro w hSw; (try dsimp only at hSw); go_simp <;> (try with_reducible rfl))
      simp only [Act.put]
      refine wpAnyH_take (i := 4) (v := ?v4) rfl (by kernel_rfl) (by kernel_rfl) (by kernel_rfl) (fun _ _ _ h => h) (Or.inl ⟨by rfl, ?hy4⟩) (by assumption) ?rest4
      case hy4 => (intro w hSw; (try dsimp only at hSw); go_simp <;> (try with_reducible rfl))
      simp only [Act.put]
      refine wpAnyH_take (i := 5) (v := ?v5) rfl (by kernel_rfl) (by kernel_rfl) (by kernel_rfl) (fun _ _ _ h => h) (Or.inl ⟨by rfl, ?hy5⟩) (by assumption) ?rest5
      case hy5 => (intro w hSw; (try dsimp only at hSw); go_simp <;> (try with_reducible rfl))
      simp only [Act.put]
      refine wpAnyH_take (i := 6) (v := ?v6) rfl (by kernel_rfl) (by kernel_rfl) (by kernel_rfl) (fun _ _ _ h => h) (Or.inl ⟨by rfl, ?hy6⟩) (by assumption) ?rest6
      case hy6 => (intro w hSw; (try dsimp only at hSw); go_simp <;> (try with_reducible rfl))
      simp only [Act.put]
      refine wpAnyH_ready (rs := [3]) (by kernel_rfl) (by simp) ?_
      refine AllReadyH.cons rfl (fun K hK => ?_) AllReadyH.nil
      go_simp
      refine (HP.out _ rfl).mono ?_
      rintro e w5 ⟨rfl, hw5⟩
      rw [hw5]
      clear hw5
      go_wp2_with fail
      refine hK.out _ _ HS.out (fun hHeld => ?_)
      clear hK K
      refine wpAnyH_ready (rs := [7]) (by kernel_rfl) (by simp) ?_
      refine AllReadyH.cons rfl (fun K hK => ?_) AllReadyH.nil
      go_simp
      refine (HQ.out _ rfl).mono ?_
      rintro e w5 ⟨rfl, hw5⟩
      rw [hw5]
      clear hw5
      go_wp2_with fail
      refine hK.out _ _ HS.out (fun hHeld => ?_)
      clear hK K
      refine wpAnyH_take (i := 8) (v := ?v8) rfl (by kernel_rfl) (by kernel_rfl) (by kernel_rfl) (fun _ _ _ h => h) (Or.inl ⟨by rfl, ?hy8⟩) (by assumption) ?rest8
      case hy8 => (intro w hSw; (try dsimp only at hSw); go_simp <;> (try with_reducible rfl))
      simp only [Act.put]
      refine wpAnyH_done (by kernel_rfl) ?_ _
      refine ahead_last rfl (fun K hK => ?_)
      go_simp
      refine hK _ _ ?_
      clear hK K HP HQ HS
      obtain ⟨sa, sc, rfl⟩ := own_formW HR5.out.own
      by_cases hab : xa = xb
      · have hd : (xa != xb) = false := by simpa using hab
        have HE := Hid.mk' (shortL_none lo hi (L.take k) x (by rw [← HXA.out, ← HXB.out]; exact hab))
        clear hab
        go_wp2_with fail
        exact ⟨⟨k + 1, _, h5, by go_num, by show RenAt _ _ _ _ _ _ _ _ _; rw [HTK.out, HE.out]; exact HR5.out⟩, by simp [intOf]; omega⟩
      · have hd : (xa != xb) = true := by simpa using hab
        have HE := Hid.mk' (shortL_one lo hi (L.take k) x (by rw [← HXA.out, ← HXB.out]; exact hab))
        clear hab
        rw [← HXA.out, ← HXB.out] at HE
        have hsl := shortL_le lo hi (L.take k)
        rw [List.length_take] at hsl
        have hc1 := HR5.out.c1
        have hB5 := HR5.out.hB
        have HB5 : Hid (Below W5.heap.size W5 (W5.alloc (.cells #[.int .i64 xa, .int .i64 xb, .int .i64 x.c] 47))) := (Below.refl _ _).alloc (Nat.le_refl _) _
        have HR6 := Hid.mk' (HR5.out.later HB5.out)
        have HSL := Hid.mk' hsl
        clear hsl
        go_wp2_with (at_builtin; go_must (refine wpList_append_lies _ rfl _ _ _ rfl B 47 i _ 3 24 Tryd.underlying32 HINF.out.1 HINF.out.2.1 HINF.out.2.2.1 HINF.out.2.2.2 rfl (by omega) _ _ _ rfl HR6.out.own ⟨W5.heap.size, 0, none⟩ 1 1 [.int .i64 xa, .int .i64 xb, .int .i64 x.c] rfl rfl (three_newW _ _ _ _ _) (by simp [Value.oneCell']) (by omega) (by have := HSL.out; unfold maxLen; omega) (by have := HSL.out; omega) (by simp; omega) _ rfl ?_; intro g' cap' w9 hown9 hgrow9 hat9 hlt9; obtain ⟨p0, p1, pf, hR9⟩ := HR6.out.push ⟨xa, xb, x.c⟩ hgrow9 hown9; have HR9 := Hid.mk' hR9; clear hR9 hown9 hgrow9 hat9 hlt9))
        exact ⟨⟨k + 1, _, h5, by go_num, by show RenAt _ _ _ _ _ _ _ _ _; rw [HTK.out, HE.out]; exact HR9.out⟩, by simp [intOf]; omega⟩
    · obtain rfl : k = L.length := by omega
      rw [List.take_length] at HR
      obtain ⟨sa, sc, rfl⟩ := own_formW HR.out.own
      obtain ⟨f1, f2, f3, f4, f5, f6⟩ := HR.out.fin
      have q0 := HR.out.c0
      have q1 := HR.out.c1
      have q2 := HR.out.r0
      have q4 := HR.out.rz.1
      have q5 := HR.out.rz.2
      have HF := Hid.mk' (And.intro f1 f2)
      have HF4 := Hid.mk' (And.intro f4 f5)
      have HF6 := Hid.mk' f6
      clear f1 f2 f4 f5 f6 HR
      go_wp2_with fail
      exact bodyPost_ret (v := .agg #[.int .i64 n, .slice sa _ sc]) (by simp [results, Tryd.results36, go_sem, HF4.out.1, HF4.out.2]) rfl ⟨_, rfl, HF.out.1, HF.out.2, HF6.out⟩

theorem min_max_num {a b : Int} (h : a ≠ b) : numV (min a b) (max a b) a = numV (min a b) (max a b) b := by
  unfold numV
  rcases Int.lt_or_gt_of_ne h with h1 | h1
  · rw [show min a b = a by omega, show max a b = b by omega, if_neg h, if_neg (by omega), if_pos rfl]
  · rw [show min a b = b by omega, show max a b = a by omega, if_pos rfl, if_neg (fun e => h e.symm), if_neg (by omega)]

set_option maxRecDepth 100000 in
set_option maxHeartbeats 4000000 in
theorem wshort_any (N a b : Int) (v : Value) (L : List Wr) (w : World) (h : WrAt w v L) (hl : L.length ≤ 1000) (hs : SmE L) (hN : -1000000 ≤ N ∧ N ≤ 1000000) :
    Calls Tryd.prog 29 #[.agg #[.int .i64 N, v], .int .i64 a, .int .i64 b] w fun e w' => ∃ v', e = .returned (.agg #[.int .i64 (N - 1), v']) ∧ WrAt w' v' (shortL (min a b) (max a b) L) ∧ Below w.heap.size w w' ∧ ∀ b o k c, v' = .slice (some ⟨b, o, none⟩) k c → w.heap.size ≤ b := by
  obtain ⟨ad, cap, rfl⟩ := h.form
  obtain ⟨lo, hlo1⟩ : ∃ lo, lo = min a b := ⟨_, rfl⟩
  obtain ⟨hi, hhi1⟩ : ∃ hi, hi = max a b := ⟨_, rfl⟩
  rw [← hlo1, ← hhi1]
  have hlo : (if b < a then b else a) = lo := by rw [hlo1]; split <;> omega
  have hhi : (if a < b then b else a) = hi := by rw [hhi1]; split <;> omega
  clear hlo1 hhi1
  obtain ⟨W3, hW3⟩ : ∃ W3, W3 = ((((w.alloc (.cells #[.int .i64 N, .slice ad L.length cap] 34)).alloc (.cells #[.int .i64 0, .slice none 0 0] 34)).alloc (.cells #[.int .i64 lo] 3)).alloc (.cells #[.int .i64 hi] 3)) := ⟨_, rfl⟩
  have hb3 : Below w.heap.size w W3 := by rw [hW3]; exact ((((Below.refl _ _).alloc (Nat.le_refl _) _).alloc (by simp) _).alloc (by simp; omega) _).alloc (by simp; omega) _
  have c0 : W3.cell? ⟨w.heap.size, 0, none⟩ = some (.int .i64 N) := by rw [hW3]; go_simp
  have c1 : W3.cell? ⟨w.heap.size, 1, none⟩ = some (.slice ad L.length cap) := by rw [hW3]; go_simp
  have r0 : W3.cell? ⟨w.heap.size + 1, 0, none⟩ = some (.int .i64 0) := by rw [hW3]; go_simp
  have r1 : W3.cell? ⟨w.heap.size + 1, 1, none⟩ = some (.slice none 0 0) := by rw [hW3]; go_simp
  have z0 : W3.frozen? ⟨w.heap.size + 1, 0, none⟩ = false := by rw [hW3]; go_simp
  have z1 : W3.frozen? ⟨w.heap.size + 1, 1, none⟩ = false := by rw [hW3]; go_simp
  have l0 : W3.cell? ⟨w.heap.size + 1 + 1, 0, none⟩ = some (.int .i64 lo) := by rw [hW3]; go_simp
  have h0 : W3.cell? ⟨w.heap.size + 1 + 1 + 1, 0, none⟩ = some (.int .i64 hi) := by rw [hW3]; go_simp
  have HLO := Hid.mk' (And.intro hlo hhi)
  clear hlo hhi
  have HREN := Hid.mk' (renumbered_any N (N - 1) lo hi (.slice ad L.length cap) L _ _ W3 (h.later hb3) hl hs h0 l0)
  have HR0 := Hid.mk' (And.intro (And.intro r0 r1) (And.intro z0 z1))
  have HB3 := Hid.mk' hb3
  clear h hs hb3 r0 r1 z0 z1 l0 h0
  go_enter Tryd.func29, Tryd.ntmps29
  go_upto_region 2 with fail
  rw [HLO.out.1, HLO.out.2, ← hW3]
  clear hW3
  go_wp2_with fail
  refine HREN.out.mono ?_
  rintro e w5 ⟨v', rfl, hv', hb5, hge⟩
  obtain ⟨va, vc, rfl⟩ := hv'.form
  have r0 : w5.cell? ⟨w.heap.size + 1, 0, none⟩ = some (.int .i64 0) := by rw [hb5.cell (cell_lt HR0.out.1.1)]; exact HR0.out.1.1
  have r1 : w5.cell? ⟨w.heap.size + 1, 1, none⟩ = some (.slice none 0 0) := by rw [hb5.cell (cell_lt HR0.out.1.2)]; exact HR0.out.1.2
  have z0 : w5.frozen? ⟨w.heap.size + 1, 0, none⟩ = false := by rw [hb5.frozen (cell_lt HR0.out.1.1)]; exact HR0.out.2.1
  have z1 : w5.frozen? ⟨w.heap.size + 1, 1, none⟩ = false := by rw [hb5.frozen (cell_lt HR0.out.1.2)]; exact HR0.out.2.2
  have hlt := cell_lt HR0.out.1.1
  have hsz := HB3.out.size
  have HV := Hid.mk' hv'
  have HGE : Hid (∀ b o k c, (.slice va (shortL lo hi L).length vc : Value) = .slice (some ⟨b, o, none⟩) k c → W3.heap.size ≤ b) := hge
  have HF : Hid (FarW (.slice va (shortL lo hi L).length vc) (shortL lo hi L) (w.heap.size + 1)) := Or.inr fun b o k c e => by have := hge b o k c e; have : w.heap.size + 1 < W3.heap.size := hlt; omega
  have r1' : (w5.setCell ⟨w.heap.size + 1, 0, none⟩ (.int .i64 (N - 1))).cell? ⟨w.heap.size + 1, 1, none⟩ = some (.slice none 0 0) := by rw [World.cell?_setCell_other _ _ _ _ (by simp)]; exact r1
  have HQ : Hid (((w5.setCell ⟨w.heap.size + 1, 0, none⟩ (.int .i64 (N - 1))).setCell ⟨w.heap.size + 1, 1, none⟩ (.slice va (shortL lo hi L).length vc)).cell? ⟨w.heap.size + 1, 0, none⟩ = some (.int .i64 (N - 1)) ∧ ((w5.setCell ⟨w.heap.size + 1, 0, none⟩ (.int .i64 (N - 1))).setCell ⟨w.heap.size + 1, 1, none⟩ (.slice va (shortL lo hi L).length vc)).cell? ⟨w.heap.size + 1, 1, none⟩ = some (.slice va (shortL lo hi L).length vc)) := ⟨by rw [World.cell?_setCell_other _ _ _ _ (by simp), World.cell?_setCell_same _ _ _ r0], by rw [World.cell?_setCell_same _ _ _ r1']⟩
  have HBF := Hid.mk' (((below_chain HB3.out hb5).setCell (show w.heap.size ≤ w.heap.size + 1 by omega) (p := ⟨w.heap.size + 1, 0, none⟩) (.int .i64 (N - 1))).setCell (show w.heap.size ≤ w.heap.size + 1 by omega) (p := ⟨w.heap.size + 1, 1, none⟩) (.slice va (shortL lo hi L).length vc))
  clear hv' hge hb5 HREN HR0
  go_wp2_with fail
  exact bodyPost_ret (v := .agg #[.int .i64 (N - 1), .slice va (shortL lo hi L).length vc]) (by simp [results, Tryd.results29, go_sem, HQ.out.1, HQ.out.2]) rfl ⟨_, rfl, (HV.out.put HF.out _ _).put HF.out _ _, HBF.out, fun b o k c e => by have := HGE.out b o k c e; omega⟩
end Go.Proofs.YtlnhpkmcinohdaaDoor
