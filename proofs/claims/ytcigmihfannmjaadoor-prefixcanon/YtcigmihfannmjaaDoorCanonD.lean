/- The document's CanonOf. -/
import Derived.Test.YtcigmihfannmjaaDoorCanonP
import Derived.Test.YtcigmihfannmjaaDoorCanFree
import Derived.Test.YtcigmihfannmjaaDoorDecimal
namespace Go.Proofs.YtcigmihfannmjaaDoor
open Go.RowKit

theorem Decimal_bit (b : Nat) (w : World) (hb : b < 2) : Calls Tryd.prog 40 #[.int .i64 b] w fun e w' => e = .returned (.string ⟨#[UInt8.ofNat (48 + b)]⟩) ∧ Below w.heap.size w w' := by
  have h := Decimal_small b w (by omega)
  rw [show (Lib.decDigits b).toArray = #[UInt8.ofNat (48 + b)] by rw [Lib.decDigits, dif_pos (by omega)]] at h
  exact h
theorem bit_at (T d : Nat) : ((T : Int) / 2 ^ (39 - d)).tmod 2 = ((T / 2 ^ (40 - (d + 1)) % 2 : Nat) : Int) := by
  have h1 : (2 : Int) ^ (39 - d) = ((2 ^ (39 - d) : Nat) : Int) := by simp
  have h2 : (T : Int) / ((2 ^ (39 - d) : Nat) : Int) = ((T / 2 ^ (39 - d) : Nat) : Int) := by simp
  rw [h1, h2, show 40 - (d + 1) = 39 - d by omega, Int.tmod_eq_emod_of_nonneg (Int.natCast_nonneg _)]
  generalize T / 2 ^ (39 - d) = q
  omega
theorem text_push (l : List UInt8) (u : UInt8) : (⟨l.toArray⟩ : ByteArray) ++ (⟨#[u]⟩ : ByteArray) = ⟨(l ++ [u]).toArray⟩ := by
  apply ByteArray.ext
  simp
set_option maxRecDepth 100000 in
set_option maxHeartbeats 4000000 in
theorem CanonOf_any (v : Value) (n : Nat) (z : Nat → Int) (w : World) (h : NumsAt w v n z) (hn0 : 0 < n) (hn : n ≤ 16) (hz : ∀ i, i < n → 1 ≤ z i ∧ z i ≤ 40) (hk : shareSum z n ≤ 1099511627776) :
    Calls Tryd.prog 21 #[v] w fun e w' => ∃ g, e = .returned (.slice (some ⟨g, 0, none⟩) n n) ∧ RowIs w' g n (fun i => strV (wordsN z (ordL z n 40) n i)) ∧ Below w.heap.size w w' := by
  obtain ⟨i0, hii, hz0, hz1, hz2⟩ := info_parts Tryd.infoStr
  have HINF : Hid (Tryd.prog.info? 9 = some i0 ∧ i0.zero = some (.string ⟨#[]⟩) ∧ i0.size = 1 ∧ i0.bytes = 16) := ⟨hii, hz0, hz1, hz2⟩
  clear hii hz0 hz1 hz2
  have HTA : Hid (∀ k, k ≤ n → takenN z (ordL z n 40) k ≤ 1099511627776) := fun k hk' => by
    have h1 := takenN_mono z (ordL z n 40) hk'
    rw [takenN_all hz, ← shareSum_list] at h1
    omega
  rcases h with ⟨_, _, _, h0⟩ | ⟨b, o, cap, rfl, _, hr⟩
  · omega
  have HR : Hid (∀ W, Below w.heap.size w W → RowAt W b o n z) := fun W hb => RowAt.later hr hb
  have hbw : b < w.heap.size := cell_lt (hr 0 hn0)
  have HLEN : Hid ((ordL z n 40).length = n) := ordL_len hz
  have HGL : Hid (∀ V i, V < 40 → i ≤ n → (gone z n V i).length ≤ n) := fun V i hV hi => by have := (gone_pre z hV hi).length_le; rw [ordL_len hz] at this; exact this
  have HOS0 : Hid (∀ V i : Nat, V < 40 → i < n → z i = (V : Int) + 1 → (ordL z n 40).getD (gone z n V i).length 0 = i) := fun V i hV hi h => gone_next hV hi h
  have HEND : Hid ((ordL z n 40).length = n) := ordL_len hz
  clear hr hk
  obtain ⟨OS, hOS⟩ : ∃ OS, OS = ordL z n 40 := ⟨_, rfl⟩
  rw [← hOS] at HTA HLEN HOS0 HEND ⊢
  have HOE := Hid.mk' hOS
  clear hOS
  have HS0 : Hid (Value.int .i64 0 = Value.int .i64 (takenN z OS (ordL z n 0).length : Nat)) := rfl
  go_enter Tryd.func21, Tryd.ntmps21
  go_wp2_with (at_make; go_must (refine wpList_make_full _ rfl _ _ _ rfl w.heap.size 9 i0 _ 1 Tryd.underlying22 HINF.out.1 HINF.out.2.1 HINF.out.2.2.1 .i64 .i64 _ _ n rfl rfl rfl rfl (by rw [HINF.out.2.2.2]; omega) (by unfold maxLen; omega) (Nat.le_refl _) ?_; intro w3 hown3 hgrow3; have HF3 : Hid (Words w w3 w.heap.size n (fun _ => [])) := ⟨rowIs_made hown3 (made_one _ rfl n), made_below hgrow3, Nat.le_refl _⟩; clear hown3 hgrow3))
  go_loopw [4, 5] (fun s t wr => ∃ V : Nat, V ≤ 40 ∧ t = .int .i64 ((V : Int) + 1) ∧ s = .int .i64 (takenN z (OS) (ordL z n V).length : Nat) ∧ Hid (Words w wr w.heap.size n (wordsN z (OS) (ordL z n V).length))) (fun _ t _ => 41 - (intOf t).toNat)
  case atStart => exact ⟨0, by omega, rfl, HS0.out, HF3⟩
  case round =>
    clear HF3
    obtain ⟨V, hV, rfl, rfl, HF⟩ := hrel
    rcases Nat.lt_or_ge V 40 with h1 | h1
    · have hVI : (V : Int) < 40 := by omega
      have hV0 : (0 : Int) ≤ (V : Int) := by omega
      have hV1 : (V : Int) + 1 ≤ 40 := by omega
      rw [← gone_zero z n V] at HF ⊢
      go_wp2_with fail
      go_loopw [4, 6] (fun s t wr => ∃ i : Nat, i ≤ n ∧ t = .int .i64 i ∧ s = .int .i64 (takenN z (OS) (gone z n V i).length : Nat) ∧ Hid (Words w wr w.heap.size n (wordsN z (OS) (gone z n V i).length))) (fun _ t _ => n - (intOf t).toNat)
      case atStart => exact ⟨0, Nat.zero_le _, rfl, rfl, HF⟩
      case round =>
        clear HF
        obtain ⟨i, hi, rfl, rfl, HF⟩ := hrel
        rcases Nat.lt_or_ge i n with h2 | h2
        · have hiI : (i : Int) < (n : Int) := by omega
          have hi0 : (0 : Int) ≤ (i : Int) := by omega
          have y0 := HR.out wr HF.out.below i h2
          by_cases hzi : z i = (V : Int) + 1
          · have hnx := HOS0.out V i h1 h2 hzi
            have hK : (gone z n V i).length + 1 ≤ n := by have := HGL.out V (i + 1) h1 h2; rw [gone_yes hzi] at this; simpa using this
            have HGY : Hid ((gone z n V (i + 1)).length = (gone z n V i).length + 1) := by show _ = _; rw [gone_yes hzi]; simp
            rw [hzi] at y0
            have hT := HTA.out (gone z n V i).length (by omega)
            have HTK : Hid (takenN z (OS) ((gone z n V i).length + 1) = takenN z (OS) (gone z n V i).length + 2 ^ (40 - (V + 1))) := by
              show _ = _
              rw [takenN, hnx, shareOf, hzi]
              rfl
            have HWA : Hid (wordAt z (OS) (gone z n V i).length = bitsL (takenN z (OS) (gone z n V i).length / 2 ^ (40 - (V + 1))) (V + 1)) := by
              show _ = _
              unfold wordAt
              rw [hnx, shareOf, hzi]
              rfl
            have HSET : Hid (∀ W, Below wr.heap.size wr W → Words w (W.setCell ⟨w.heap.size, i, none⟩ (strV (wordAt z (OS) (gone z n V i).length))) w.heap.size n (wordsN z (OS) ((gone z n V i).length + 1))) := fun W hb => (HF.out.later hb).set h2 _ (fun i' _ => by rw [wordsN, hnx])
            have HCE : Hid (∀ W, Below wr.heap.size wr W → (∃ u, W.cell? ⟨w.heap.size, i, none⟩ = some u) ∧ W.frozen? ⟨w.heap.size, i, none⟩ = false) := fun W hb => ⟨⟨_, (HF.out.later hb).row.row i h2⟩, (HF.out.later hb).row.fz i h2⟩
            have HB0 := Hid.mk' HF.out.below
            clear hzi hnx HF
            generalize (gone z n V i).length = K at *
            obtain ⟨T, hTe⟩ : ∃ T, T = takenN z (OS) K := ⟨_, rfl⟩
            rw [← hTe] at HTK HWA hT ⊢
            have HTE := Hid.mk' hTe
            clear hTe
            go_wp2_with fail
            obtain ⟨Wr, hWr⟩ : ∃ Wr, Wr = wr := ⟨_, rfl⟩
            rw [← hWr] at HB0 HSET HCE ⊢
            clear hWr y0
            go_loopw [7, 8] (fun s t wr => ∃ (d : Nat) (x : ByteArray), d ≤ V + 1 ∧ t = .int .i64 ((d : Int) + 1) ∧ s = .string x ∧ Hid (x = ⟨(bitsL (T / 2 ^ (40 - d)) d).toArray⟩) ∧ Hid (Below Wr.heap.size Wr wr)) (fun _ t _ => V + 2 - (intOf t).toNat)
            case atStart => exact ⟨0, ⟨#[]⟩, by omega, rfl, rfl, rfl, Below.refl _ _⟩
            case round =>
              obtain ⟨d, x, hd, rfl, rfl, HX, HBr⟩ := hrel
              have hxs : x.size = d := by rw [HX.out]; simp [ByteArray.size, bitsL_length]
              rcases Nat.lt_or_ge d (V + 1) with h3 | h3
              · have hdI : (d : Int) < (V : Int) + 1 := by omega
                have hd0 : (0 : Int) ≤ (d : Int) := by omega
                have HM := Hid.mk' (bit_at T d)
                have HX2 : Hid (x ++ ⟨#[UInt8.ofNat (48 + T / 2 ^ (40 - (d + 1)) % 2)]⟩ = ⟨(bitsL (T / 2 ^ (40 - (d + 1))) (d + 1)).toArray⟩) := by show _ = _; rw [HX.out, text_push, bitsL_next T d (by omega)]
                have hdec := Decimal_bit (T / 2 ^ (40 - (d + 1)) % 2) wr (Nat.mod_lt _ (by omega))
                have hus : (⟨#[UInt8.ofNat (48 + T / 2 ^ (40 - (d + 1)) % 2)]⟩ : ByteArray).size = 1 := rfl
                generalize UInt8.ofNat (48 + T / 2 ^ (40 - (d + 1)) % 2) = u at *
                generalize T / 2 ^ (40 - (d + 1)) % 2 = bt at *
                go_wp2_with fail
                rw [HM.out]
                refine hdec.mono ?_
                clear hdec
                rintro e w5 ⟨rfl, hb5⟩
                go_wp2_with fail
                exact ⟨⟨d + 1, _, by omega, by go_num, rfl, HX2, below_chain HBr.out hb5⟩, by simp [intOf]; omega⟩
              · obtain rfl : d = V + 1 := by omega
                have HXW : Hid (Value.string x = strV (wordAt z OS K)) := by show _ = _; rw [HX.out, HWA.out]; rfl
                obtain ⟨⟨u0, hu0⟩, hf0⟩ := HCE.out wr HBr.out
                have HSF := Hid.mk' (HSET.out wr HBr.out)
                rw [← HXW.out] at HSF
                have hp := pow40 (V + 1)
                have HWP := Hid.mk' (wrap_pow (V + 1))
                have hTI : (T : Int) ≤ 1099511627776 := by omega
                clear hxs
                go_wp2_with fail
                refine ⟨⟨i + 1, h2, by go_num, ?_, by rw [HGY.out]; exact HSF⟩, by simp [intOf]; omega⟩
                have hp2 := hp.2
                rw [HGY.out, HTK.out, show 39 - V = 40 - (V + 1) by omega, HWP.out]
                generalize 2 ^ (40 - (V + 1)) = P at *
                rw [w64 _ (by omega)]
                go_num
          · have HGN : Hid (gone z n V (i + 1) = gone z n V i) := gone_no hzi
            have hb : (z i != (V : Int) + 1) = true := by rw [bne_iff_ne]; exact hzi
            clear hzi
            generalize z i = q at *
            go_wp2_with fail
            exact ⟨⟨i + 1, h2, by go_num, by rw [HGN.out], by rw [HGN.out]; exact HF⟩, by simp [intOf]; omega⟩
        · obtain rfl : n = i := by omega
          rw [gone_all] at HF ⊢
          go_wp2_with fail
          exact ⟨⟨V + 1, by omega, by go_num, rfl, HF⟩, by simp [intOf]; omega⟩
    · have h40 : (ordL z n V).length = n := by rw [show V = 40 by omega, ← HOE.out]; exact HEND.out
      rw [h40] at HF ⊢
      have hV40 : (V : Int) = 40 := by omega
      rw [hV40]
      clear h40 hV40
      go_wp2_with fail
      go_ret
      exact ⟨_, rfl, HF.out.row, HF.out.below⟩
end Go.Proofs.YtcigmihfannmjaaDoor
