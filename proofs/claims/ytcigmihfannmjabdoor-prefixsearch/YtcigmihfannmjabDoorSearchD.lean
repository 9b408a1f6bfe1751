/- The document's SearchOf: by all roots. -/
import Derived.Test.YtcigmihfannmjabDoorSearchE
namespace Go.Proofs.YtcigmihfannmjabDoor
open Go.RowKit

theorem argLeast_min (f : Nat → Int) : ∀ c r, r ≤ c → f (argLeast f c) ≤ f r
  | 0, r, h => by obtain rfl : r = 0 := by omega
                  exact Int.le_refl _
  | c + 1, r, h => by
    rw [argLeast]
    split
    · rename_i hlt
      rcases Nat.lt_or_ge r (c + 1) with h' | h'
      · have := argLeast_min f c r (by omega); omega
      · obtain rfl : r = c + 1 := by omega
        exact Int.le_refl _
    · rename_i hlt
      rcases Nat.lt_or_ge r (c + 1) with h' | h'
      · exact argLeast_min f c r (by omega)
      · obtain rfl : r = c + 1 := by omega
        omega
theorem deepC_bound {ks gs : Nat → Int} (hk : ∀ i, 0 ≤ ks i ∧ ks i ≤ 4096) (hg : ∀ i, 0 ≤ gs i ∧ gs i ≤ 4096) (i m d : Nat) (hm : m ≤ 16) (hd : d ≤ 20) : 0 ≤ deepC ks gs i m d ∧ deepC ks gs i m d ≤ 6000000 := by
  have h1 := cst_bound hk hg m i m (Nat.le_refl _) hm
  have h2 := wSum_bound hk hg i m hm
  have h3 : (d : Int) * wSum ks gs i m ≤ 20 * 140000 := by
    have e1 : (d : Int) * wSum ks gs i m ≤ 20 * wSum ks gs i m := Int.mul_le_mul_of_nonneg_right (by omega) h2.1
    omega
  have h4 : 0 ≤ (d : Int) * wSum ks gs i m := Int.mul_nonneg (by omega) h2.1
  unfold deepC; omega
/-- What is told of a root, at a depth. -/
def rootV (ks gs : Nat → Int) (i : Nat) : Nat → Int
  | 0 => -1
  | m + 1 => (i : Int) + (rootOf ks gs i m : Nat)
theorem mul_small {q : Int} {d : Nat} (hq : 0 ≤ q ∧ q ≤ 4096) (hd : d ≤ 20) : 0 ≤ q * (d : Int) ∧ q * (d : Int) ≤ 81920 := by
  have h1 : q * (d : Int) ≤ 4096 * (d : Int) := Int.mul_le_mul_of_nonneg_right hq.2 (by omega)
  have h2 : 0 ≤ q * (d : Int) := Int.mul_nonneg hq.1 (by omega)
  omega
set_option maxRecDepth 100000 in
theorem SearchOf_leaf (v v' : Value) (b' o' cap' n : Nat) (ks gs : Nat → Int) (i d : Nat) (w : World) (hv : v' = .slice (some ⟨b', o', none⟩) (n + 1) cap') (hr' : RowAt w b' o' (n + 1) gs) (hg : 0 ≤ gs i ∧ gs i ≤ 4096) (hi : i ≤ n) (hd : d ≤ 17) :
    Calls Tryd.prog 19 #[v, v', .int .i64 i, .int .i64 i, .int .i64 d] w fun e w' => e = .returned (.tuple #[.int .i64 (deepC ks gs i 0 d), .int .i64 (rootV ks gs i 0)]) ∧ w' = w := by
  subst hv
  have y0 := hr' i (by omega)
  have HD := Hid.mk' (deepC_zero ks gs i d)
  have hiI : (i : Int) < (n : Int) + 1 := by omega
  have hi0 : (0 : Int) ≤ (i : Int) := by omega
  have HM := Hid.mk' (mul_small hg (show d ≤ 20 by omega))
  clear hr' hg
  generalize gs i = q at *
  go_enter Tryd.func19, Tryd.ntmps19
  go_wp2_with fail
  go_ret2
  exact ⟨ret2_int (by rw [HD.out]; exact w64 _ (by have := HM.out; omega)) rfl, rfl⟩
set_option maxRecDepth 100000 in
set_option maxHeartbeats 2000000 in
theorem SearchOf_any (b o cap b' o' cap' n : Nat) (ks gs : Nat → Int) (w : World) (hr : RowAt w b o n ks) (hr' : RowAt w b' o' (n + 1) gs) (hk : ∀ i, 0 ≤ ks i ∧ ks i ≤ 4096) (hg : ∀ i, 0 ≤ gs i ∧ gs i ≤ 4096) (hn : n ≤ 16) :
    ∀ (u i m d : Nat), m ≤ u → i + m ≤ n → d + m ≤ 17 → Calls Tryd.prog 19 #[.slice (some ⟨b, o, none⟩) n cap, .slice (some ⟨b', o', none⟩) (n + 1) cap', .int .i64 i, .int .i64 ((i + m : Nat) : Int), .int .i64 d] w fun e w' => e = .returned (.tuple #[.int .i64 (deepC ks gs i m d), .int .i64 (rootV ks gs i m)]) ∧ w' = w := by
  have HR := Hid.mk' hr
  have HR' := Hid.mk' hr'
  have HK := Hid.mk' hk
  have HG := Hid.mk' hg
  clear hr hr' hk hg
  intro u
  induction u with
  | zero =>
    intro i m d hm hi hd
    obtain rfl : m = 0 := by omega
    exact SearchOf_leaf _ _ b' o' cap' n ks gs i d w rfl HR'.out (HG.out i) (by omega) (by omega)
  | succ u ih =>
    intro i m d hm hi hd
    cases m with
    | zero => exact SearchOf_leaf _ _ b' o' cap' n ks gs i d w rfl HR'.out (HG.out i) (by omega) (by omega)
    | succ M =>
      have HIH := Hid.mk' ih
      clear ih
      have hiM : ((i + (M + 1) : Nat) : Int) = (i : Int) + (M : Int) + 1 := by omega
      rw [hiM]
      have hne : ((i : Int) == (i : Int) + (M : Int) + 1) = false := by rw [beq_eq_false_iff_ne]; omega
      have hneP : ¬ ((i : Int) = (i : Int) + (M : Int) + 1) := by omega
      have hi0 : (0 : Int) ≤ (i : Int) := by omega
      have hM0 : (0 : Int) ≤ (M : Int) := by omega
      have hnI : (i : Int) + (M : Int) + 1 ≤ (n : Int) := by omega
      have hdI : (d : Int) ≤ 17 := by omega
      have hd0 : (0 : Int) ≤ (d : Int) := by omega
      have HDS := Hid.mk' (deepC_succ ks gs i M d)
      have HWB := Hid.mk' (wSum_bound HK.out HG.out i (M + 1) (by omega))
      clear hiM
      go_enter Tryd.func19, Tryd.ntmps19
      go_wp2_with fail
      go_loop [12, 13, 14] (fun be ro t => ∃ (c : Nat) (B R : Int), c ≤ M + 1 ∧ t = .int .i64 ((i : Int) + (c : Int)) ∧ be = .int .i64 B ∧ ro = .int .i64 R ∧ Hid (0 ≤ B ∧ B ≤ 1125899906842624) ∧ Hid ((c = 0 ∧ B = 1125899906842624) ∨ ∃ c', c = c' + 1 ∧ B = sides2 ks gs i M (argLeast (sides2 ks gs i M) c') + ((d : Int) + 1) * wSum ks gs i (M + 1) ∧ R = (i : Int) + (argLeast (sides2 ks gs i M) c' : Nat))) (fun _ _ t => ((i : Int) + (M : Int) + 1 - intOf t).toNat)
      case atStart => exact ⟨0, _, _, by omega, by simp, rfl, rfl, ⟨by omega, by omega⟩, Or.inl ⟨rfl, rfl⟩⟩
      case round =>
        obtain ⟨c, B, R, hc, rfl, rfl, rfl, HB, HS⟩ := hrel
        rcases Nat.lt_or_ge c (M + 1) with h1 | h1
        · have hcI : (i : Int) + (c : Int) < (i : Int) + (M : Int) + 1 := by omega
          have hc0 : (0 : Int) ≤ (c : Int) := by omega
          have hcn : (i : Int) + (c : Int) < (n : Int) := by omega
          have y0 := HR.out (i + c) (by omega)
          have hq := HK.out (i + c)
          have HM := Hid.mk' (mul_small hq (show d + 1 ≤ 20 by omega))
          have HC := Hid.mk' (deepC_root ks gs i M c d (by omega))
          have k1 := HIH.out i c (d + 1) (by omega) (by omega) (by omega)
          have k2 := HIH.out (i + c + 1) (M - c) (d + 1) (by omega) (by omega) (by omega)
          have a1 := deepC_bound HK.out HG.out i c (d + 1) (by omega) (by omega)
          have a2 := deepC_bound HK.out HG.out (i + c + 1) (M - c) (d + 1) (by omega) (by omega)
          rw [show i + c + 1 + (M - c) = i + (M + 1) by omega] at k2
          simp only [Int.natCast_add, Int.cast_ofNat_Int] at k1 k2 HM
          rw [show (i : Int) + ((M : Int) + 1) = (i : Int) + (M : Int) + 1 by omega] at k2
          have y0' : w.cell? ⟨b, o + (i + c), none⟩ = some (.int .i64 (ks (i + c))) := y0
          have hic : ((i + c : Nat) : Int) = (i : Int) + (c : Int) := by omega
          generalize deepC ks gs i c (d + 1) = A1 at *
          generalize deepC ks gs (i + c + 1) (M - c) (d + 1) = A2 at *
          generalize rootV ks gs i c = R1 at *
          generalize rootV ks gs (i + c + 1) (M - c) = R2 at *
          generalize ks (i + c) = q at *
          go_wp2_with fail
          refine k1.mono ?_
          rintro e w1 ⟨rfl, hw1⟩
          rw [hw1]
          clear hw1 k1
          go_wp2_with fail
          refine k2.mono ?_
          rintro e w2 ⟨rfl, hw2⟩
          rw [hw2]
          clear hw2 k2
          have HW : Hid (wrap64 (A1 + A2 + wrap64 (q * ((d : Int) + 1))) = sides2 ks gs i M c + ((d : Int) + 1) * wSum ks gs i (M + 1)) := by
            show _ = _
            have h5 := HM.out
            rw [w64 (q * ((d : Int) + 1)) (by omega), HC.out, w64 _ (by rw [← HC.out]; omega)]
          have HXB : Hid (0 ≤ sides2 ks gs i M c + ((d : Int) + 1) * wSum ks gs i (M + 1) ∧ sides2 ks gs i M c + ((d : Int) + 1) * wSum ks gs i (M + 1) ≤ 20000000) := by
            have h5 := HM.out
            rw [← HC.out]
            exact ⟨by omega, by omega⟩
          by_cases hlt : wrap64 (A1 + A2 + wrap64 (q * ((d : Int) + 1))) < B
          · go_wp2_with fail
            rw [HW.out] at hlt ⊢
            refine ⟨⟨c + 1, _, _, by omega, by go_num, rfl, rfl, ⟨HXB.out.1, by have := HXB.out.2; omega⟩, Or.inr ⟨c, rfl, ?_⟩⟩, by simp [intOf]; omega⟩
            have e1 : argLeast (sides2 ks gs i M) c = c := by
              rcases HS.out with ⟨rfl, _⟩ | ⟨c', rfl, hB, _⟩
              · rfl
              · rw [argLeast, if_pos (by omega)]
            rw [e1]
            exact ⟨rfl, rfl⟩
          · have hge : B ≤ wrap64 (A1 + A2 + wrap64 (q * ((d : Int) + 1))) := by omega
            go_wp2_with fail
            rw [HW.out] at hlt hge
            rcases HS.out with ⟨_, hB⟩ | ⟨c', rfl, hB, hRR⟩
            · have := HXB.out.2; omega
            · have e1 : argLeast (sides2 ks gs i M) (c' + 1) = argLeast (sides2 ks gs i M) c' := by rw [argLeast, if_neg (by omega)]
              exact ⟨⟨c' + 1 + 1, B, R, by omega, by go_num, rfl, rfl, HB, Or.inr ⟨c' + 1, rfl, by rw [e1]; exact hB, by rw [e1]; exact hRR⟩⟩, by simp [intOf]; omega⟩
        · obtain rfl : c = M + 1 := by omega
          have HBR : Hid (B = deepC ks gs i (M + 1) d ∧ R = rootV ks gs i (M + 1)) := by
            rcases HS.out with ⟨h0, _⟩ | ⟨c', hc', hB, hRR⟩
            · omega
            · obtain rfl : M = c' := by omega
              exact ⟨by rw [HDS.out]; exact hB, hRR⟩
          have hcI : ¬ ((i : Int) + ((M + 1 : Nat) : Int) < (i : Int) + (M : Int) + 1) := by omega
          have hcE : (i : Int) + ((M + 1 : Nat) : Int) = (i : Int) + (M : Int) + 1 := by omega
          rw [hcE]
          clear hcI hcE
          go_wp2_with fail
          go_ret2
          exact ⟨ret2_int HBR.out.1 HBR.out.2, rfl⟩
end Go.Proofs.YtcigmihfannmjabDoor
