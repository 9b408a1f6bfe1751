/- The program's loads and Far. -/
import Derived.Test.YtiegobkbinojeaaDoorRyUni
import Derived.Test.YtiegobkbinojeaaDoorRyNum
import Derived.Test.YtiegobkbinojeaaDoorRyGs
import Derived.Test.YtiegobkbinojeaaDoorFills
import Derived.Test.YtiegobkbinojeaaDoorLastOp
namespace Go.Proofs.YtiegobkbinojeaaDoor
open Go.RowKit

/-- What goes to each value. -/
def ldF (zr z : Nat → Int) : Nat → Nat → Int
  | 0, _ => 0
  | k + 1, v => if zr k = (v : Int) then ldF zr z k v + z k else ldF zr z k v
theorem ldF_part {zr z : Nat → Int} {n : Nat} (h : ∀ i, i < n → 0 ≤ z i) (v : Nat) : ∀ k, k ≤ n → 0 ≤ ldF zr z k v ∧ ldF zr z k v ≤ sumN z k
  | 0, _ => ⟨Int.le_refl _, Int.le_refl _⟩
  | k + 1, hk => by
    have ih := ldF_part (zr := zr) h v k (by omega)
    have h1 := h k (by omega)
    show 0 ≤ (if zr k = (v : Int) then ldF zr z k v + z k else ldF zr z k v) ∧ (if zr k = (v : Int) then ldF zr z k v + z k else ldF zr z k v) ≤ sumN z k + z k
    split <;> omega
/-- How far one function is from even. -/
def apR (M S : Int) (f : Nat → Int) : Nat → Nat
  | 0 => 0
  | v + 1 => apR M S f v + (f v * M - S).natAbs
/-- How far all are. -/
def apA (M S : Int) (n : Nat) (zs : Nat → Nat → Int) (z : Nat → Int) : Nat → Nat
  | 0 => 0
  | i + 1 => apA M S n zs z i + apR M S (ldF (zs i) z n) M.toNat
theorem ap_one {f S : Int} {M : Int} (h0 : 0 ≤ f) (h1 : f ≤ 4096) (s0 : 0 ≤ S) (s1 : S ≤ 4096) (m1 : 1 ≤ M) (m2 : M ≤ 16) : 0 ≤ f * M ∧ f * M ≤ 65536 ∧ (f * M - S).natAbs ≤ 70000 := by
  have a1 : 0 ≤ f * M := Int.mul_nonneg h0 (by omega)
  have a2 : f * M ≤ 4096 * 16 := Int.mul_le_mul h1 m2 (by omega) (by omega)
  omega
theorem apR_le {M S : Int} {f : Nat → Int} (hf : ∀ v, 0 ≤ f v ∧ f v ≤ 4096) (s0 : 0 ≤ S) (s1 : S ≤ 4096) (m1 : 1 ≤ M) (m2 : M ≤ 16) : ∀ v, apR M S f v ≤ v * 70000
  | 0 => Nat.le_refl _
  | v + 1 => by
    have ih := apR_le hf s0 s1 m1 m2 v
    have := (ap_one (hf v).1 (hf v).2 s0 s1 m1 m2).2.2
    show apR M S f v + (f v * M - S).natAbs ≤ _
    omega
theorem apA_le {M S : Int} {n : Nat} {zs : Nat → Nat → Int} {z : Nat → Int} (hf : ∀ i v, 0 ≤ ldF (zs i) z n v ∧ ldF (zs i) z n v ≤ 4096) (s0 : 0 ≤ S) (s1 : S ≤ 4096) (m1 : 1 ≤ M) (m2 : M ≤ 16) : ∀ i, apA M S n zs z i ≤ i * 1120000
  | 0 => Nat.le_refl _
  | i + 1 => by
    have ih := apA_le hf s0 s1 m1 m2 i
    have h1 := apR_le (hf i) s0 s1 m1 m2 M.toNat
    have h2 : M.toNat * 70000 ≤ 16 * 70000 := Nat.mul_le_mul_right _ (by omega)
    show apA M S n zs z i + apR M S (ldF (zs i) z n) M.toNat ≤ _
    omega

set_option maxRecDepth 100000 in
set_option maxHeartbeats 4000000 in
theorem loads_any (rv wv : Value) (n M : Nat) (zr z : Nat → Int) (w : World) (hr : NumsAt w rv n zr) (hw : NumsAt w wv n z) (hn : n ≤ 16) (hM1 : 1 ≤ M) (hM : M ≤ 16) (hz : ∀ i, i < n → 0 ≤ z i ∧ z i ≤ 4096) (hsum : ∀ k, k ≤ n → sumN z k ≤ 4096) (hb : ∀ i, i < n → 0 ≤ zr i ∧ zr i < (M : Int)) :
    Calls Tryd.prog 43 #[rv, wv, .int .i64 (M : Int)] w fun e w' => ∃ g, e = .returned (.slice (some ⟨g, 0, none⟩) M M) ∧ RowAt w' g 0 M (ldF zr z n) ∧ Below w.heap.size w w' := by
  obtain ⟨i0, hii, hz0, hz1, hz2⟩ := info_parts Tryd.infoInt
  have HINF : Hid (Tryd.prog.info? 3 = some i0 ∧ i0.zero = some (.int .i64 0) ∧ i0.size = 1 ∧ i0.bytes = 8) := ⟨hii, hz0, hz1, hz2⟩
  obtain ⟨ra, rc, rfl⟩ := hr.form
  obtain ⟨wa, wc, rfl⟩ := hw.form
  have HR := Hid.mk' (fun (W : World) (hb : Below w.heap.size w W) => hr.later hb)
  have HW := Hid.mk' (fun (W : World) (hb : Below w.heap.size w W) => hw.later hb)
  have HZ := Hid.mk' hz
  have HBD := Hid.mk' hb
  have HPT : Hid (∀ v k, k ≤ n → 0 ≤ ldF zr z k v ∧ ldF zr z k v ≤ 4096) := fun v k hk => by
    have h1 := ldF_part (zr := zr) (fun i hi => (hz i hi).1) v k hk
    have h2 := hsum k hk
    omega
  clear hii hz0 hz1 hz2 hr hw hz hb hsum
  go_enter Tryd.func43, Tryd.ntmps43
  go_wp2_with (at_make; go_must (refine wpList_make_full _ rfl _ _ _ rfl w.heap.size 3 i0 _ 1 Tryd.underlying39 HINF.out.1 HINF.out.2.1 HINF.out.2.2.1 .i64 .i64 _ _ M rfl rfl rfl rfl (by rw [HINF.out.2.2.2]; omega) (by unfold maxLen; omega) (Nat.le_refl _) ?_; intro w3 hown3 hgrow3; have HF3 := Hid.mk' (fills_made hown3 (made_zero M) hgrow3); clear hown3 hgrow3))
  go_loopw [14] (fun t wr => ∃ k : Nat, k ≤ n ∧ t = .int .i64 k ∧ Hid (Fills w wr w.heap.size M (ldF zr z k))) (fun t _ => n - (intOf t).toNat)
  case atStart => exact ⟨0, Nat.zero_le _, rfl, HF3.out⟩
  case round =>
    clear HF3
    obtain ⟨k, hk, rfl, HF⟩ := hrel
    rcases Nat.lt_or_ge k n with h1 | h1
    · have hkI : (k : Int) < (n : Int) := by omega
      have hk0 : (0 : Int) ≤ (k : Int) := by omega
      obtain ⟨rb, ro, hrc⟩ : ∃ rb ro, ra = some ⟨rb, ro, none⟩ ∧ ∀ W, Below w.heap.size w W → W.cell? ⟨rb, ro + k, none⟩ = some (.int .i64 (zr k)) := by
        rcases HR.out w (Below.refl _ _) with ⟨_, _, _, h0⟩ | ⟨b, o, c, hv, _, hrow⟩
        · omega
        · simp only [Value.slice.injEq, true_and] at hv
          exact ⟨b, o, hv.1, fun W hb => (hrow.later hb) k h1⟩
      obtain ⟨wb, wo, hwc⟩ : ∃ wb wo, wa = some ⟨wb, wo, none⟩ ∧ ∀ W, Below w.heap.size w W → W.cell? ⟨wb, wo + k, none⟩ = some (.int .i64 (z k)) := by
        rcases HW.out w (Below.refl _ _) with ⟨_, _, _, h0⟩ | ⟨b, o, c, hv, _, hrow⟩
        · omega
        · simp only [Value.slice.injEq, true_and] at hv
          exact ⟨b, o, hv.1, fun W hb => (hrow.later hb) k h1⟩
      obtain ⟨rfl, hrc⟩ := hrc
      obtain ⟨rfl, hwc⟩ := hwc
      obtain ⟨v, hv⟩ : ∃ v : Nat, zr k = (v : Int) := ⟨(zr k).toNat, by have := HBD.out k h1; omega⟩
      have hvM : v < M := by have := HBD.out k h1; omega
      have hx := HZ.out k h1
      have hp := HPT.out v k (by omega)
      have hq := HPT.out v (k + 1) (by omega)
      have HSET := Hid.mk' (HF.out.set hvM (ldF zr z k v + z k) (f' := ldF zr z (k + 1)) (fun i hi => by
        show (if zr k = (i : Int) then ldF zr z k i + z k else ldF zr z k i) = _
        by_cases e : i = v
        · rw [if_pos e, e, if_pos hv]
        · rw [if_neg e, if_neg (by omega)]))
      have HN : Hid (ldF zr z (k + 1) v = ldF zr z k v + z k) := by show (if zr k = (v : Int) then ldF zr z k v + z k else ldF zr z k v) = _; rw [if_pos hv]
      rw [HN.out] at hq
      have hcr := hrc wr HF.out.below
      rw [hv] at hcr
      have HKW : Hid (∀ W, Below wr.heap.size wr W → W.cell? ⟨wb, wo + k, none⟩ = some (.int .i64 (z k)) ∧ W.cell? ⟨w.heap.size, v, none⟩ = some (.int .i64 (ldF zr z k v))) := fun W hb => ⟨hwc W (below_chain HF.out.below hb), by have := (HF.out.row.later hb) v hvM; rwa [Nat.zero_add] at this⟩
      have hvI : (v : Int) < (M : Int) := by omega
      have hv0 : (0 : Int) ≤ (v : Int) := by omega
      have hfz := HF.out.fz v hvM
      rw [Nat.zero_add] at hfz
      clear hrc hwc hv HF HN
      generalize ldF zr z k v = s at *
      generalize z k = x at *
      go_wp2_with fail
      clear hcr
      have hcur : Below wr.heap.size wr wr.drew := (Below.refl _ _).drew
      refine region_but_last (n := 10) (S := fun W => W.cell? ⟨wb, wo + k, none⟩ = some (.int .i64 x) ∧ W.cell? ⟨w.heap.size, v, none⟩ = some (.int .i64 s)) (by kernel_rfl) (by kernel_rfl) (by kernel_rfl) (HKW.out _ hcur) (fun hHeld => ?_)
      refine wpAnyH_take (i := 0) (v := ?v0l) rfl (by kernel_rfl) (by kernel_rfl) (by kernel_rfl) (fun _ _ _ h => h) (Or.inl ⟨by rfl, ?hy0l⟩) (by assumption) ?rest0l
      case hy0l => (intro w hSw; (try dsimp only at hSw); go_simp <;> (try with_reducible rfl))
      simp only [Act.put]
      refine wpAnyH_take (i := 1) (v := ?v1l) rfl (by kernel_rfl) (by kernel_rfl) (by kernel_rfl) (fun _ _ _ h => h) (Or.inl ⟨by rfl, ?hy1l⟩) (by assumption) ?rest1l
      case hy1l => (intro w hSw; (try dsimp only at hSw); go_simp <;> (try with_reducible rfl))
      simp only [Act.put]
      refine wpAnyH_take (i := 2) (v := ?v2l) rfl (by kernel_rfl) (by kernel_rfl) (by kernel_rfl) (fun _ _ _ h => h) (Or.inl ⟨by rfl, ?hy2l⟩) (by assumption) ?rest2l
      case hy2l => (intro w hSw; (try dsimp only at hSw); go_simp <;> (try with_reducible rfl))
      simp only [Act.put]
      refine wpAnyH_take (i := 3) (v := ?v3l) rfl (by kernel_rfl) (by kernel_rfl) (by kernel_rfl) (fun _ _ _ h => h) (Or.inl ⟨by rfl, ?hy3l⟩) (by assumption) ?rest3l
      case hy3l => (intro w hSw; (try dsimp only at hSw); go_simp <;> (try with_reducible rfl))
      simp only [Act.put]
      refine wpAnyH_take (i := 4) (v := ?v4l) rfl (by kernel_rfl) (by kernel_rfl) (by kernel_rfl) (fun _ _ _ h => h) (Or.inl ⟨by rfl, ?hy4l⟩) (by assumption) ?rest4l
      case hy4l => (intro w hSw; (try dsimp only at hSw); go_simp <;> (try with_reducible rfl))
      simp only [Act.put]
      refine wpAnyH_take (i := 5) (v := ?v5l) rfl (by kernel_rfl) (by kernel_rfl) (by kernel_rfl) (fun _ _ _ h => h) (Or.inl ⟨by rfl, ?hy5l⟩) (by assumption) ?rest5l
      case hy5l => (intro w hSw; (try dsimp only at hSw); go_simp <;> (try with_reducible rfl))
      simp only [Act.put]
      refine wpAnyH_take (i := 6) (v := ?v6l) rfl (by kernel_rfl) (by kernel_rfl) (by kernel_rfl) (fun _ _ _ h => h) (Or.inl ⟨by rfl, ?hy6l⟩) (by assumption) ?rest6l
      case hy6l => (intro w hSw; (try dsimp only at hSw); go_simp <;> (try with_reducible rfl))
      simp only [Act.put]
      refine wpAnyH_take (i := 7) (v := ?v7l) rfl (by kernel_rfl) (by kernel_rfl) (by kernel_rfl) (fun _ _ _ h => h) (Or.inl ⟨by rfl, ?hy7l⟩) (by assumption) ?rest7l
      case hy7l => (intro w hSw; (try dsimp only at hSw); go_simp <;> (try with_reducible rfl))
      simp only [Act.put]
      refine wpAnyH_take (i := 8) (v := ?v8l) rfl (by kernel_rfl) (by kernel_rfl) (by kernel_rfl) (fun _ _ _ h => h) (Or.inl ⟨by rfl, ?hy8l⟩) (by assumption) ?rest8l
      case hy8l => (intro w hSw; (try dsimp only at hSw); go_simp <;> (try with_reducible rfl))
      simp only [Act.put]
      refine wpAnyH_take (i := 9) (v := ?v9l) rfl (by kernel_rfl) (by kernel_rfl) (by kernel_rfl) (fun _ _ _ h => h) (Or.inl ⟨by rfl, ?hy9l⟩) (by assumption) ?rest9l
      case hy9l => (intro w hSw; (try dsimp only at hSw); go_simp <;> (try with_reducible rfl))
      simp only [Act.put]
      have HSD : Hid (Fills w (wr.drew.setCell ⟨w.heap.size, v, none⟩ (.int .i64 (s + x))) w.heap.size M (ldF zr z (k + 1))) := HSET.out.drew
      have hfd : wr.drew.frozen? ⟨w.heap.size, v, none⟩ = false := hfz
      obtain ⟨_, hcd⟩ := HKW.out _ hcur
      clear HSET HKW hfz hHeld hcur
      generalize wr.drew = WD at *
      refine wpAnyH_done (by kernel_rfl) ?_ _
      refine ahead_last rfl (fun K hK => ?_)
      go_simp
      refine hK _ _ ?_
      clear hK K
      go_wp2_with fail
      exact ⟨⟨k + 1, h1, by go_num, HSD⟩, by simp [intOf]; omega⟩
    · obtain rfl : k = n := by omega
      have hkI : ¬ (k : Int) < (k : Int) := by omega
      go_wp2_with fail
      go_ret
      exact ⟨_, rfl, HF.out.row, HF.out.below⟩
end Go.Proofs.YtiegobkbinojeaaDoor
