/- prefix.digits. -/
import Derived.Test.YtcigmihfannmjabDoorFmtBits
import Derived.Test.YtcigmihfannmjabDoorLaysP
namespace Go.Proofs.YtcigmihfannmjabDoor
open Go.RowKit

theorem below_chainP {w0 W W' : World} (h : Below w0.heap.size w0 W) (hb : Below W.heap.size W W') : Below w0.heap.size w0 W' := h.trans (hb.mono h.size)
theorem repeat_one (d : Nat) : Lib.repeatL [48] d = List.replicate d 48 := by
  induction d with
  | zero => rfl
  | succ d ih => rw [Lib.repeatL, ih, List.replicate_succ]; rfl
theorem join_bits (m d k : Nat) (hm : m < 2 ^ k) : (⟨(Lib.repeatL [48] d).toArray⟩ : ByteArray) ++ (⟨(bitsL m k).toArray⟩ : ByteArray) = ⟨(bitsL m (d + k)).toArray⟩ := by
  rw [bitsL_more k m d hm, repeat_one]
  apply ByteArray.ext
  simp
set_option maxRecDepth 100000 in
theorem digits_any (m len : Nat) (w : World) (hl : 1 ≤ len) (hl2 : len ≤ 40) (hm : m < 2 ^ len) (hd : w.cell? ⟨14, 1, none⟩ = some (.int .u8 1)) :
    Calls Tryd.prog 42 #[.int .i64 m, .int .i64 len] w fun e w' => e = .returned (.string ⟨(bitsL m len).toArray⟩) ∧ Below w.heap.size w w' := by
  have h40 : m < 4611686018427387904 := by
    have : 2 ^ len ≤ 2 ^ 40 := Nat.pow_le_pow_right (by omega) hl2
    omega
  have hf := FormatInt_two m w h40 hd
  have HM := Hid.mk' hm
  clear hm hd h40
  go_enter Tryd.func42, Tryd.ntmps42
  go_wp2_with fail
  refine hf.mono ?_
  clear hf
  rintro e w1 ⟨k, rfl, hk1, hk2, hk3, hb1⟩
  have hkl : k ≤ len := by
    rcases hk3 with h0 | h0
    · omega
    · refine Classical.byContradiction fun hn => ?_
      have h1 : 2 ^ len ≤ 2 ^ (k - 1) := Nat.pow_le_pow_right (by omega) (by omega)
      have h2 := HM.out
      omega
  obtain ⟨d, rfl⟩ : ∃ d, len = d + k := ⟨len - k, by omega⟩
  have hsz : (⟨(bitsL m k).toArray⟩ : ByteArray).size = k := by simp [ByteArray.size, bitsL_length]
  have HJ := Hid.mk' (join_bits m d k hk2)
  have hrep := Any.strings_Repeat Tryd.repeatA Tryd.repeatX ⟨#[48]⟩ d w1 (by omega) (by show 1 * d ≤ _; omega)
  have HB1 := Hid.mk' hb1
  have hdk : ((d + k : Nat) : Int) - (k : Int) = (d : Int) := by omega
  clear hk2 hk3 hb1
  generalize (⟨(bitsL m k).toArray⟩ : ByteArray) = tx at *
  go_wp2_with fail
  refine hrep.mono ?_
  clear hrep
  rintro e w2 ⟨rfl, hb2⟩
  have HB2 := Hid.mk' (below_chainP HB1.out hb2)
  clear hb2
  have hrs : (⟨(Lib.repeatL [48] d).toArray⟩ : ByteArray).size = d := by simp [ByteArray.size, repeat_one]
  generalize (⟨(Lib.repeatL [48] d).toArray⟩ : ByteArray) = rp at *
  go_wp2_with fail
  go_ret
  exact ⟨by rw [← HJ.out]; rfl, HB2.out⟩
end Go.Proofs.YtcigmihfannmjabDoor
