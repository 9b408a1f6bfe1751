/- The document's LeastOf. -/
import Derived.Test.YtdfcipdknfebpaaDoorMacY
namespace Go.Proofs.YtdfcipdknfebpaaDoor
open Go.RowKit

def strSz (v : Value) : Nat := match v with | .string b => b.size | _ => 0
theorem strSz_of (b : ByteArray) : strSz (.string b) = b.size := rfl
theorem pow_room {a b m : Nat} (h : a ≤ 9) (hb : b ≤ 10) (hm : m ≤ b) : a * 2 ^ m ≤ 1000000 := by
  have h1 : 2 ^ m ≤ 2 ^ 10 := Nat.pow_le_pow_right (by decide) (by omega)
  have h2 := Nat.mul_le_mul h h1
  have h3 : 9 * 2 ^ 10 ≤ 1000000 := by decide
  omega
set_option maxRecDepth 100000 in
set_option maxHeartbeats 8000000 in
theorem LeastOf_any (x : List UInt8) (p : Pg) (w : World) (h : DocL x p) :
    Calls Tryd.prog 14 #[.string (bt x)] w fun e w' => e = .returned (.string (bt (fla p))) ∧ Below w.heap.size w w' := by
  obtain ⟨N, hN⟩ : ∃ N, N = (fla p).length := ⟨_, rfl⟩
  have hN10 : N ≤ 10 := by rw [hN]; exact h.len
  have HW0 : Hid (∀ n, n ≤ N → ∀ W, Calls Tryd.prog 23 #[.string ⟨#[]⟩, .string (bt x), .int .i64 (n : Int)] W fun e w' => e = .returned (.bool (wrt 20 [] x n)) ∧ Below W.heap.size W w') := fun n hn W => Writes_any 20 [] x n W (by omega) rfl (pow_room (a := 1) (b := 10) (by omega) (by omega) (by omega)) (by omega)
  have HF := Hid.mk' h.fail
  have HH := Hid.mk' h.hit
  rw [← hN] at HF HH
  have HST : Hid (∀ j, (stp (p.take j)).length ≤ 8) := fun j => by
    have h1 := fla_take p j
    have h2 := stp_small _ (p.take j) rfl (by omega)
    have h3 := bT_8 (fla (p.take j)).length (by omega)
    omega
  have HPO : Hid (∀ (j : Nat) (k : Fin 6) (W : World), Calls Tryd.prog 19 #[.string (bt (mW k)), .string (bt (stp (p.take j)))] W fun e w' => e = .returned (.string (bt (mD k (stp (p.take j))))) ∧ w' = W) := fun j k W => PartOf_any k (stp (p.take j)) W (by have := HST.out j; omega) (stp_bit _)
  have HWR : Hid (∀ (j : Nat) (k : Fin 6) (q : Nat) (W : World), q ≤ 8 → Calls Tryd.prog 23 #[.string (bt (mD k (stp (p.take j)))), .string (bt x), .int .i64 (q : Int)] W fun e w' => e = .returned (.bool (wrt 20 (mD k (stp (p.take j))) x q)) ∧ Below W.heap.size W w') := fun j k q W hq => by
    have h1 := HST.out j
    have h2 := mD_len k (stp (p.take j))
    refine Writes_any 20 _ x q W (by omega) (mD_bit k (stp_bit _)) ?_ (by omega)
    have h3 : 2 ^ q ≤ 2 ^ 8 := Nat.pow_le_pow_right (by decide) hq
    have h4 := Nat.mul_le_mul (show (mD k (stp (p.take j))).length + 1 ≤ 18 by omega) h3
    have h5 : 18 * 2 ^ 8 ≤ 1000000 := by decide
    omega
  have HSK := Hid.mk' h.skip
  have HTA := Hid.mk' h.take
  rw [← hN] at HSK HTA
  have HFT : Hid (∀ j, (fla (p.take j)).length ≤ N) := fun j => by rw [hN]; exact fla_take p j
  have HNN := Hid.mk' hN
  clear hN h
  generalize hX : bt x = X at *
  clear hX
  have hNI : (N : Int) ≤ 10 := by omega
  go_enter Tryd.func14, Tryd.ntmps14
  go_wp2_with fail
  go_loopw [3] (fun t wr => ∃ n : Nat, n ≤ N ∧ t = .int .i64 (n : Int) ∧ Hid (Below w.heap.size w wr)) (fun t _ => N - (intOf t).toNat)
  case atStart => exact ⟨0, Nat.zero_le _, rfl, Below.refl _ _⟩
  case round =>
    obtain ⟨n, hn, rfl, HB⟩ := hrel
    have n0 : (0 : Int) ≤ (n : Int) := by omega
    have nI : (n : Int) ≤ 10 := by omega
    have HWn := Hid.mk' (HW0.out n hn wr)
    rcases Nat.lt_or_ge n N with h1 | h1
    · rw [HF.out n h1] at HWn
      go_wp2_with fail
      refine HWn.out.mono ?_
      clear HWn
      rintro e w2 ⟨rfl, hB2⟩
      have HB2 := Hid.mk' (below_chain HB.out hB2)
      clear hB2
      go_wp2_with fail
      go_roundw
      case rel => exact ⟨n + 1, by omega, by simp, HB2⟩
      case measure => simp [intOf]; omega
    · obtain rfl : n = N := by omega
      rw [HH.out] at HWn
      go_wp2_with fail
      refine HWn.out.mono ?_
      clear HWn
      rintro e w2 ⟨rfl, hB2⟩
      have HB2 := Hid.mk' (below_chain HB.out hB2)
      clear hB2
      obtain ⟨W1, hW1⟩ : ∃ W1, W1 = w2.alloc (.cells #[.string ⟨#[48, 48]⟩, .string ⟨#[48, 49]⟩, .string ⟨#[49, 48, 48]⟩, .string ⟨#[49, 48, 49]⟩, .string ⟨#[49, 49, 48]⟩, .string ⟨#[49, 49, 49]⟩] 9) := ⟨_, rfl⟩
      have HT1 : Hid (TabW W1 w2.heap.size) := by rw [hW1]; exact tab_new w2
      have HB1 : Hid (Below w.heap.size w W1) := by rw [hW1]; exact HB2.out.alloc HB2.out.size _
      obtain ⟨wo, rfl⟩ : ∃ wo, wr = wo := ⟨_, rfl⟩
      go_wp2_with fail
      rw [← hW1]
      clear hW1
      go_loopw [5, 6] (fun ov sv wr => ∃ j : Nat, j ≤ p.length ∧ ov = .string (bt (fla (p.take j))) ∧ sv = .string (bt (stp (p.take j))) ∧ Hid (Below W1.heap.size W1 wr)) (fun ov _ _ => n - strSz ov)
      case atStart => exact ⟨0, Nat.zero_le _, rfl, rfl, Below.refl _ _⟩
      case round =>
        obtain ⟨j, hj, rfl, rfl, HBj⟩ := hrel
        have hft := HFT.out j
        have hzo := bt_size (fla (p.take j))
        rcases Nat.lt_or_ge j p.length with hjp | hjp
        · obtain ⟨k', hk'⟩ : ∃ k', p[j]? = some k' := ⟨_, List.getElem?_eq_getElem hjp⟩
          obtain ⟨ht1, ht2⟩ := HTA.out j k' hk'
          have HS1 : Hid (bt (fla (p.take j)) ++ bt (mW k') = bt (fla (p.take (j + 1)))) := by
            show _ = _
            have : p.take (j + 1) = p.take j ++ [k'] := by rw [List.take_add_one, hk']; rfl
            rw [this, fla_snoc, bt_app]
          have HS2 : Hid (bt (mD k' (stp (p.take j))) = bt (stp (p.take (j + 1)))) := by
            show _ = _
            have : p.take (j + 1) = p.take j ++ [k'] := by rw [List.take_add_one, hk']; rfl
            rw [this, stp_snoc]
          have HSKJ := Hid.mk' (fun k => HSK.out j k k' hk')
          have HPOJ := Hid.mk' (HPO.out j)
          have HWRJ := Hid.mk' (HWR.out j)
          have hmp := mW_pos k'
          obtain ⟨al, hal⟩ : ∃ al, al = (fla (p.take j)).length := ⟨_, rfl⟩
          rw [← hal] at hft hzo ht1 ht2 HSKJ
          generalize hO : bt (fla (p.take j)) = O at *
          generalize hSj : bt (stp (p.take j)) = Sj at *
          have aI : (al : Int) < (n : Int) := by omega
          have a0 : (0 : Int) ≤ (al : Int) := by omega
          clear hO hSj hal hk'
          obtain ⟨wo2, rfl⟩ : ∃ wo, wr = wo := ⟨_, rfl⟩
          go_wp2_with fail
          go_loopw [5, 6, 8] (fun ov sv t wr => ov = .string O ∧ sv = .string Sj ∧ ∃ i : Nat, i ≤ k'.val ∧ t = .int .i64 (i : Int) ∧ Hid (Below W1.heap.size W1 wr)) (fun _ _ t _ => 6 - (intOf t).toNat)
          case atStart => exact ⟨rfl, rfl, 0, Nat.zero_le _, rfl, HBj⟩
          case round =>
            obtain ⟨rfl, rfl, i, hi, rfl, HBi⟩ := hrel
            have i0 : (0 : Int) ≤ (i : Int) := by omega
            have hi6 : i < 6 := by have := k'.isLt; omega
            have iI : (i : Int) < 6 := by omega
            obtain ⟨k, hk⟩ : ∃ k : Fin 6, k.val = i := ⟨⟨i, hi6⟩, rfl⟩
            have x0 := (HT1.out.later HBi.out) k
            rw [hk] at x0
            have hzm := bt_size (mW k)
            have hmk := mW_pos k
            have HPK := Hid.mk' (HPOJ.out k)
            have HWK := Hid.mk' (HWRJ.out k)
            have HKX : Hid (∀ W, Below W1.heap.size W1 W → W.cell? ⟨w2.heap.size, i, none⟩ = some (.string (bt (mW k)))) := fun W hb => by
              have := (HT1.out.later hb) k
              rwa [hk] at this
            rcases Nat.lt_or_ge i k'.val with hik | hik
            · have HSF := Hid.mk' (HSKJ.out k (by omega))
              by_cases hml : (mW k).length ≤ n - al
              · have hf := HSF.out hml
                obtain ⟨q, hq⟩ : ∃ q, q = n - al - (mW k).length := ⟨_, rfl⟩
                rw [← hq] at hf
                have HWQ := Hid.mk' (fun W => HWK.out q W (by omega))
                rw [hf] at HWQ
                generalize hmm : (mW k).length = m at *
                have hqI : (n : Int) - (al : Int) - (m : Int) = (q : Int) := by omega
                have hq0 : (0 : Int) ≤ (q : Int) := by omega
                have hm3 : (m : Int) ≤ 3 := by omega
                have hwq : IntKind.i64.wrap (q : Int) = (q : Int) := by rw [IntKind.wrap_i64]; omega
                generalize bt (mW k) = M at *
                generalize bt (mD k (stp (p.take j))) = S2 at *
                clear hq hf hmm hml hmk HWK HSF HSKJ
                go_wp2_with fail
                refine (HPK.out _).mono ?_
                clear HPK
                rintro e w4 ⟨rfl, hw4⟩
                rw [hw4]
                clear hw4
                go_wp2_with fail
                refine (HWQ.out _).mono ?_
                clear HWQ
                rintro e w5 ⟨rfl, hB5⟩
                have HB5 := Hid.mk' (below_chain HBi.out hB5)
                clear hB5
                go_wp2_with fail
                go_roundw
                case rel => exact ⟨rfl, rfl, i + 1, by omega, by simp, HB5⟩
                case measure => simp [intOf]; omega
              · generalize hmm : (mW k).length = m at *
                have hqI : (n : Int) - (al : Int) - (m : Int) < 0 := by omega
                have hqJ : ¬ (0 : Int) ≤ (n : Int) - (al : Int) - (m : Int) := by omega
                have hm3 : (m : Int) ≤ 3 := by omega
                generalize bt (mW k) = M at *
                clear hmm hml hmk HWK HSF HSKJ HPK
                go_wp2_with fail
                go_roundw
                case rel => exact ⟨rfl, rfl, i + 1, by omega, by simp, HBi⟩
                case measure => simp [intOf]; omega
            · have hkk : k = k' := Fin.ext (by omega)
              subst hkk
              obtain ⟨q, hq⟩ : ∃ q, q = n - al - (mW k).length := ⟨_, rfl⟩
              rw [← hq] at ht2
              have HWQ := Hid.mk' (fun W => HWK.out q W (by omega))
              rw [ht2] at HWQ
              have hO16 : O.size ≤ 16 := by omega
              generalize hmm : (mW k).length = m at *
              have hqI : (n : Int) - (al : Int) - (m : Int) = (q : Int) := by omega
              have hq0 : (0 : Int) ≤ (q : Int) := by omega
              have hm3 : (m : Int) ≤ 3 := by omega
              have hm3n : m ≤ 3 := by omega
              have hwq : IntKind.i64.wrap (q : Int) = (q : Int) := by rw [IntKind.wrap_i64]; omega
              have HOM : Hid (O.size = al ∧ 2 ≤ m) := ⟨hzo, by omega⟩
              generalize bt (mW k) = M at *
              generalize bt (mD k (stp (p.take j))) = S2 at *
              have HMM : Hid (M.size = m) := hzm
              clear hq ht1 ht2 hmm hmk HWK HSKJ
              go_wp2_with fail
              refine (HPK.out _).mono ?_
              rintro e w4 ⟨rfl, hw4⟩
              rw [hw4]
              clear hw4
              go_wp2_with fail
              refine (HWQ.out _).mono ?_
              clear HWQ
              rintro e w5 ⟨rfl, hB5⟩
              have HB5 := Hid.mk' (below_chain HBi.out hB5)
              clear hB5
              have x5 := HKX.out w5 HB5.out
              clear x0
              go_wp2_with fail
              refine (HPK.out _).mono ?_
              clear HPK
              rintro e w6 ⟨rfl, hw6⟩
              rw [hw6]
              clear hw6
              go_wp2_with fail
              go_roundw
              case rel => exact ⟨j + 1, by omega, by rw [HS1.out], by rw [HS2.out], HB5⟩
              case measure =>
                show n - strSz (.string _) < n - strSz (.string _)
                rw [strSz_of, strSz_of, ByteArray.size_append, HMM.out, HOM.out.1]
                have := HOM.out.2
                omega
        · obtain rfl : j = p.length := by omega
          have HE : Hid (bt (fla (p.take p.length)) = bt (fla p)) := by show _ = _; rw [List.take_length]
          have hzO : (bt (fla (p.take p.length))).size = n := by rw [hzo, List.take_length]; exact HNN.out.symm
          clear hzo
          generalize bt (fla (p.take p.length)) = O at *
          generalize bt (stp (p.take p.length)) = Sj at *
          have hnn : ¬ (n : Int) < (n : Int) := by omega
          go_wp2_with fail
          go_ret
          exact ⟨ret_str HE.out, below_chain HB1.out HBj.out⟩
end Go.Proofs.YtdfcipdknfebpaaDoor
