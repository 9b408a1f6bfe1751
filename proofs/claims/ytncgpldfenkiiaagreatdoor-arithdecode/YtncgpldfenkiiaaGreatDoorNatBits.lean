/- The number that a text of 0 and 1 writes. -/
import Derived.Test.YtncgpldfenkiiaaGreatDoorNbMath
import Derived.Test.YtncgpldfenkiiaaGreatDoorValueD
import Derived.Test.YtncgpldfenkiiaaGreatDoorNatPlus
import Derived.Test.YtncgpldfenkiiaaGreatDoorLastOp
import Derived.Deep.LoopGhost
namespace Go.Proofs.YtncgpldfenkiiaaGreatDoor
open Go.RowKit

def cutT (t : ByteArray) (j : Nat) : ByteArray := t.extract j t.size
theorem cutT_size (t : ByteArray) (j : Nat) : (cutT t j).size = t.size - j := by unfold cutT; rw [ByteArray.size_extract]; omega
theorem cutT_get {t : ByteArray} {j i : Nat} (h : i < (cutT t j).size) (h' : j + i < t.size) : (cutT t j)[i]'h = t[j + i]'h' := by
  exact ByteArray.getElem_extract h
theorem cutT_next {t : ByteArray} {j : Nat} (h : j < t.size) : (cutT t j).extract 1 (t.size - j) = cutT t (j + 1) := by
  unfold cutT
  rw [ByteArray.extract_extract]
  congr 1
  omega
set_option maxRecDepth 100000 in
theorem trimLeftByte_any (t : ByteArray) (w : World) (_ : t.size ≤ 100000) :
    Calls Tryz.prog 45 #[.string t, .int .u8 48] w fun e w' => ∃ j, j ≤ t.size ∧ (∀ i (hi : i < t.size), i < j → (t[i]'hi) = 48) ∧ (∀ hj : j < t.size, (t[j]'hj) ≠ 48) ∧ e = .returned (.string (cutT t j)) ∧ Below w.heap.size w w' := by
  go_enter Tryz.func45, Tryz.ntmps45
  go_wp2_with fail
  go_loopg [0] t.size (fun gk s wr => ∃ j : Nat, gk + j = t.size ∧ s = .string (cutT t j) ∧ Hid (∀ i (hi : i < t.size), i < j → (t[i]'hi) = 48) ∧ Hid (Below w.heap.size w wr))
  case atStart => exact ⟨0, rfl, by unfold cutT; simp, fun i hi h => by omega, Below.refl _ _⟩
  case round =>
    obtain ⟨j, hj, rfl, HZ, HB⟩ := hrel
    have hsz := cutT_size t j
    rcases Nat.lt_or_ge j t.size with h1 | h1
    · have h0 : 0 < (cutT t j).size := by omega
      have hg := cutT_get (i := 0) h0 (by omega)
      have HN := Hid.mk' (cutT_next h1)
      by_cases hx : (t[j]'h1) = 48
      · have hn : (((cutT t j)[0]'h0).toNat : Int) = 48 := by rw [hg]; simp only [Nat.add_zero]; rw [hx]; rfl
        have HZ2 : Hid (∀ i (hi : i < t.size), i < j + 1 → (t[i]'hi) = 48) := fun i hi h => by
          rcases Nat.lt_or_ge i j with h2 | h2
          · exact HZ.out i hi h2
          · obtain rfl : i = j := by omega
            exact hx
        clear hg hx
        obtain ⟨x, hxe⟩ : ∃ x, x = cutT t j := ⟨_, rfl⟩
        have HN2 : Hid (x.extract 1 (t.size - j) = cutT t (j + 1)) := by show _ = _; rw [hxe]; exact HN.out
        have hxs : x.size = t.size - j := by rw [hxe]; exact hsz
        have hx0 : 0 < x.size := by omega
        have hnx : ((x[0]'hx0).toNat : Int) = 48 := by subst hxe; exact hn
        rw [← hxe]
        have HXS := Hid.mk' hxs
        clear hn hsz h0 HN hxe
        have hxI : (0 : Int) < (x.size : Int) := by omega
        have hx1 : (1 : Int) ≤ (x.size : Int) := by omega
        clear hxs
        go_wp2_with fail
        go_roundg (t.size - (j + 1))
        case measure => omega
        case rel => exact ⟨j + 1, by omega, by rw [← HN2.out, ← HXS.out], HZ2.out, HB.out⟩
      · have hn : ¬ (((cutT t j)[0]'h0).toNat : Int) = 48 := fun h => hx (UInt8.toNat_inj.1 (by rw [hg] at h; simp only [Nat.add_zero] at h; show _ = 48; omega))
        have HX : Hid (∀ hj : j < t.size, (t[j]'hj) ≠ 48) := fun _ => hx
        have hle : j ≤ t.size := by omega
        clear hg hx
        obtain ⟨x, hxe⟩ : ∃ x, x = cutT t j := ⟨_, rfl⟩
        have hx0 : 0 < x.size := by rw [hxe]; omega
        have hnx : (((x[0]'hx0).toNat : Int) == 48) = false := by subst hxe; simpa using hn
        have HXE := Hid.mk' hxe
        have hxI : (0 : Int) < (x.size : Int) := by omega
        rw [← hxe]
        clear hn hsz h0 HN hxe
        go_wp2_with fail
        go_ret
        exact ⟨j, hle, HZ.out, HX.out, by rw [← HXE.out]; rfl, HB.out⟩
    · obtain rfl : j = t.size := by omega
      have hx0 : (cutT t t.size).size = 0 := by omega
      obtain ⟨x, hxe⟩ : ∃ x, x = cutT t t.size := ⟨_, rfl⟩
      rw [← hxe] at hx0
      have HXE := Hid.mk' hxe
      rw [← hxe]
      have hxI : ¬ (0 : Int) < (x.size : Int) := by omega
      clear hsz hxe
      go_wp2_with fail
      go_ret
      exact ⟨t.size, Nat.le_refl _, HZ.out, fun h => by omega, by rw [← HXE.out]; rfl, HB.out⟩
set_option maxRecDepth 100000 in
theorem TrimLeft_zero (t : ByteArray) (w : World) (ht : t.size ≤ 100000) :
    Calls Tryz.prog 52 #[.string t, .string ⟨#[48]⟩] w fun e w' => ∃ j, j ≤ t.size ∧ (∀ i (hi : i < t.size), i < j → (t[i]'hi) = 48) ∧ (∀ hj : j < t.size, (t[j]'hj) ≠ 48) ∧ e = .returned (.string (cutT t j)) ∧ Below w.heap.size w w' := by
  have hL := trimLeftByte_any t w ht
  cases he : t.toList.isEmpty with
  | true =>
    have h0 : t.size = 0 := by
      have : t.toList = [] := by simpa using he
      have h2 : t.toList.length = 0 := by rw [this]; rfl
      rw [ByteArray.toList_eq, Array.length_toList] at h2
      exact h2
    go_enter Tryz.func52, Tryz.ntmps52
    go_wp2_with fail
    go_ret
    exact ⟨0, Nat.zero_le _, fun i hi h => by omega, fun h => by omega, by unfold cutT; simp, Below.refl _ _⟩
  | false =>
    go_enter Tryz.func52, Tryz.ntmps52
    go_wp2_with fail
    refine hL.mono ?_
    clear hL
    rintro e w1 ⟨j, h1, h2, h3, rfl, hb⟩
    have H2 := Hid.mk' h2
    have H3 := Hid.mk' h3
    clear h2 h3
    go_wp2_with fail
    go_ret
    exact ⟨j, h1, H2.out, H3.out, rfl, hb⟩

theorem bitAt_cut {t : ByteArray} {j i : Nat} : bitAt (cutT t j) i = bitAt t (j + i) := by
  unfold bitAt
  have hs := cutT_size t j
  by_cases h : j + i < t.size
  · have h' : i < (cutT t j).size := by omega
    rw [dif_pos h, dif_pos h', cutT_get h' h]
  · rw [dif_neg h, dif_neg (by omega)]
theorem valT_zeros {t : ByteArray} {j : Nat} (h : ∀ i (hi : i < t.size), i < j → (t[i]'hi) = 48) (hj : j ≤ t.size) : ∀ i, i ≤ j → valT t i = 0
  | 0, _ => rfl
  | i + 1, hi => by
    show 2 * valT t i + (bitAt t i).getD 0 = 0
    rw [valT_zeros h hj i (by omega), bitAt_zero (by omega) (h i (by omega) (by omega))]
    rfl
theorem valT_cut {t : ByteArray} {j : Nat} (h : ∀ i (hi : i < t.size), i < j → (t[i]'hi) = 48) (hj : j ≤ t.size) : ∀ i, valT (cutT t j) i = valT t (j + i)
  | 0 => by show 0 = _; rw [Nat.add_zero, valT_zeros h hj j (Nat.le_refl _)]
  | i + 1 => by
    show 2 * valT (cutT t j) i + (bitAt (cutT t j) i).getD 0 = 2 * valT t (j + i) + (bitAt t (j + i)).getD 0
    rw [valT_cut h hj i, bitAt_cut]
theorem valT_ge {t : ByteArray} (h : bitAt t 0 = some 1) : ∀ i, 2 ^ i ≤ valT t (i + 1)
  | 0 => by show 1 ≤ 2 * 0 + (bitAt t 0).getD 0; rw [h]; decide
  | i + 1 => by
    have := valT_ge h i
    show 2 ^ (i + 1) ≤ 2 * valT t (i + 1) + _
    rw [Nat.pow_succ]; omega
/-- The words while bits are put in. -/
def WordsOf (l : List Nat) (m V : Nat) : Prop := l.length = m ∧ ∀ q, q < m → l.getD q 0 = wordAt V q
theorem wordsOf_zero (m : Nat) : WordsOf (List.replicate m 0) m 0 := by
  refine ⟨List.length_replicate, fun q hq => ?_⟩
  rw [List.getD_eq_getElem?_getD]
  simp [hq, wordAt]
theorem wordsOf_put {l : List Nat} {m X p : Nat} (h : WordsOf l m (2 * X * 2 ^ p)) (hp : p / 64 < m) : WordsOf (l.set (p / 64) (wordAt (2 * X * 2 ^ p) (p / 64) ||| 2 ^ (p % 64))) m ((2 * X + 1) * 2 ^ p) := by
  refine ⟨by rw [List.length_set]; exact h.1, fun q hq => ?_⟩
  rw [getD_set l _ _ q (by rw [h.1]; exact hp), word_put]
  by_cases hqp : q = p / 64
  · rw [if_pos hqp, if_pos hqp, hqp]
  · rw [if_neg hqp, if_neg hqp]; exact h.2 q hq
theorem wrap_small {q : Nat} (h : q ≤ 100000) : IntKind.i64.wrap (q : Int) = (q : Int) := by
  simp only [IntKind.wrap_i64]
  omega
theorem wordAt_lt (V q : Nat) : wordAt V q < 18446744073709551616 := Nat.mod_lt _ (by decide)
set_option maxRecDepth 100000 in
set_option maxHeartbeats 2000000 in
theorem NatOfBits_any (t : ByteArray) (w : World) (ht : t.size ≤ 4000) (hbits : ∀ i (hi : i < t.size), (t[i]'hi) = 48 ∨ (t[i]'hi) = 49) :
    Calls Tryz.prog 23 #[.string t] w fun e w' => ∃ v, e = .returned v ∧ NatAt w' v (valT t t.size) ∧ Below w.heap.size w w' := by
  have hT := TrimLeft_zero t w (by omega)
  obtain ⟨i0, hii, hz0, hz1, hz2⟩ := info_parts Tryz.infoWord
  have HINF : Hid (Tryz.prog.info? 51 = some i0 ∧ i0.zero = some (.int .u64 0) ∧ i0.size = 1 ∧ i0.bytes = 8) := ⟨hii, hz0, hz1, hz2⟩
  clear hii hz0 hz1 hz2
  go_enter Tryz.func23, Tryz.ntmps23
  go_wp2_with fail
  refine hT.mono ?_
  clear hT
  rintro e w1 ⟨j, hj, hz, hnz, rfl, hb1⟩
  have hsz := cutT_size t j
  have HVAL : Hid (valT (cutT t j) (cutT t j).size = valT t t.size) := by show _ = _; rw [valT_cut hz hj, hsz, show j + (t.size - j) = t.size by omega]
  have HTOP : Hid (0 < (cutT t j).size → bitAt (cutT t j) 0 = some 1) := fun h => by
    have hjt : j < t.size := by omega
    rw [bitAt_cut, Nat.add_zero]
    rcases hbits j hjt with h2 | h2
    · exact absurd h2 (hnz hjt)
    · exact bitAt_one hjt h2
  have HBT : Hid (∀ i (hi : i < (cutT t j).size), ((cutT t j)[i]'hi) = 48 ∨ ((cutT t j)[i]'hi) = 49) := fun i hi => by
    rw [cutT_get hi (by omega)]; exact hbits _ _
  have hxs : (cutT t j).size ≤ 4000 := by omega
  have HB1 := Hid.mk' hb1
  clear hz hnz hbits hb1 hsz
  generalize cutT t j = x at *
  obtain ⟨n, hn⟩ : ∃ n, n = x.size := ⟨_, rfl⟩
  obtain ⟨m, hm⟩ : ∃ m, m = (n + 63) / 64 := ⟨_, rfl⟩
  have hmI : ((n : Int) + 63) / 64 = (m : Int) := by omega
  rw [← hn] at HVAL HTOP hxs
  have hnx := hn.symm
  have HMN : Hid (n ≤ 64 * m ∧ 64 * m ≤ n + 63) := ⟨by omega, by omega⟩
  have hm100 : m ≤ 100 := by omega
  clear hn hm hj
  go_wp2_with (at_make; go_must (refine wpList_make_full _ rfl _ _ _ rfl w1.heap.size 51 i0 _ 1 Tryz.underlying53 HINF.out.1 HINF.out.2.1 HINF.out.2.2.1 .i64 .i64 _ _ m rfl rfl hmI hmI (by rw [HINF.out.2.2.2]; omega) (by unfold maxLen; omega) (Nat.le_refl _) ?_; intro w2 hown hgrow; have HW := Hid.mk' (wfill_made hown (made_word m) hgrow); clear hown hgrow))
  generalize w1.heap.size = g at *
  go_loopw [15] (fun i wr => ∃ (k : Nat) (l : List Nat), k ≤ n ∧ i = .int .i64 k ∧ Hid (WFill w1 wr g l) ∧ Hid (WordsOf l m (valT x k * 2 ^ (n - k)))) (fun i _ => n - (intOf i).toNat)
  case atStart => exact ⟨0, _, Nat.zero_le _, rfl, HW.out, by show WordsOf _ m (0 * _); rw [Nat.zero_mul]; exact wordsOf_zero m⟩
  case round =>
    clear HW
    obtain ⟨k, l, hk, rfl, HW, HO⟩ := hrel
    have hk0 : (0 : Int) ≤ (k : Int) := by omega
    rcases Nat.lt_or_ge k n with h1 | h1
    · have hkn : (k : Int) < (n : Int) := by omega
      have hkx : k < x.size := by omega
      have HV : Hid (valT x k * 2 ^ (n - k) = 2 * valT x k * 2 ^ (n - 1 - k)) := by
        show _ = _
        rw [show n - k = (n - 1 - k) + 1 by omega, Nat.pow_succ, Nat.mul_comm (2 ^ (n - 1 - k)) 2, ← Nat.mul_assoc, Nat.mul_comm _ 2]
      rcases HBT.out k hkx with hx | hx
      · have hnb : ((x[k]'hkx).toNat : Int) = 48 := by rw [hx]; rfl
        have HV1 : Hid (valT x (k + 1) = 2 * valT x k) := by show 2 * valT x k + (bitAt x k).getD 0 = _; rw [bitAt_zero hkx hx]; rfl
        clear hx
        go_wp2_with fail
        exact ⟨⟨k + 1, l, h1, by go_num, HW.out, by rw [HV1.out, show n - (k + 1) = n - 1 - k by omega, ← HV.out]; exact HO.out⟩, by simp [intOf]; omega⟩
      · have hnb : ((x[k]'hkx).toNat : Int) = 49 := by rw [hx]; rfl
        have HV1 : Hid (valT x (k + 1) = 2 * valT x k + 1) := by show 2 * valT x k + (bitAt x k).getD 0 = _; rw [bitAt_one hkx hx]; rfl
        obtain ⟨p, hp⟩ : ∃ p, p = n - 1 - k := ⟨_, rfl⟩
        have hpI : (n : Int) - 1 - (k : Int) = (p : Int) := by omega
        have HO2 : Hid (WordsOf l m (2 * valT x k * 2 ^ p)) := by rw [hp, ← HV.out]; exact HO.out
        have HP := Hid.mk' hp
        have hp6 : p ≤ 4000 := by omega
        have hqm : p / 64 < m := by have := HMN.out; omega
        have HPUT := Hid.mk' (wordsOf_put HO2.out hqm)
        have hlq : l.getD (p / 64) 0 = wordAt (2 * valT x k * 2 ^ p) (p / 64) := HO2.out.2 _ hqm
        have hrow := HW.out.row (p / 64) (by rw [HO2.out.1]; exact hqm)
        have hfz := HW.out.fz (p / 64) (by rw [HO2.out.1]; exact hqm)
        have HSET := Hid.mk' (HW.out.set (j := p / 64) (by rw [HO2.out.1]; exact hqm) (wordAt (2 * valT x k * 2 ^ p) (p / 64) ||| 2 ^ (p % 64)))
        rw [hlq] at hrow
        have hwl := wordAt_lt (2 * valT x k * 2 ^ p) (p / 64)
        have hsh := shl_word (show p % 64 < 64 by omega)
        generalize wordAt (2 * valT x k * 2 ^ p) (p / 64) = W at *
        obtain ⟨q, hq⟩ : ∃ q, q = p / 64 := ⟨_, rfl⟩
        obtain ⟨r, hr⟩ : ∃ r, r = p % 64 := ⟨_, rfl⟩
        have hqI : (p : Int) / 64 = (q : Int) := by omega
        have hrI : (p : Int) % 64 = (r : Int) := by omega
        rw [← hq] at hrow hfz HSET HPUT hqm
        rw [← hr] at HSET HPUT hsh
        have hor := bits_or_u64_nat W (2 ^ r) hwl hsh.2
        have hs1 := hsh.1
        have hor2 : bits BinOp.or IntKind.u64 (W : Int) ((2 : Int) ^ r) = ((W ||| 2 ^ r : Nat) : Int) := by rw [← hor, show ((2 ^ r : Nat) : Int) = (2 : Int) ^ r by simp]
        have HOR2 := Hid.mk' hor2
        have hqmI : (q : Int) < (m : Int) := by omega
        have hq0 : (0 : Int) ≤ (q : Int) := by omega
        have hr0 : (0 : Int) ≤ (r : Int) := by omega
        have hr64 : (r : Int) < 64 := by omega
        have hwq : IntKind.i64.wrap (q : Int) = (q : Int) := wrap_small (by omega)
        have hwr : IntKind.i64.wrap (r : Int) = (r : Int) := wrap_small (by omega)
        have hrT : (p : Int).tmod 64 = (r : Int) := by rw [Int.tmod_eq_emod_of_nonneg (by omega)]; exact hrI
        clear hx hp hq hr hlq hsh hor2 hor
        have hcur : Below wr.heap.size wr wr.drew := (Below.refl _ _).drew
        go_wp2_with fail
        refine region_but_last (n := 10) (S := fun W' => W'.cell? ⟨g, q, none⟩ = some (.int .u64 (W : Int))) (by kernel_rfl) (by kernel_rfl) (by kernel_rfl) hrow (fun hHeld => ?_)
        refine wpAnyH_take (i := 0) (v := ?v0) rfl (by kernel_rfl) (by kernel_rfl) (by kernel_rfl) (fun _ _ _ h => h) (Or.inl ⟨by rfl, ?hy0⟩) (by assumption) ?rest0
        case hy0 => (intro w hSw; (try dsimp only at hSw); go_simp <;> (try with_reducible rfl))
        simp only [Act.put]
        refine wpAnyH_take (i := 1) (v := ?v1) rfl (by kernel_rfl) (by kernel_rfl) (by kernel_rfl) (fun _ _ _ h => h) (Or.inl ⟨by rfl, ?hy1⟩) (by assumption) ?rest1
        case hy1 => (intro w hSw; (try dsimp only at hSw); go_simp <;> (try with_reducible rfl))
        simp only [Act.put]
        refine wpAnyH_take (i := 2) (v := ?v2) rfl (by kernel_rfl) (by kernel_rfl) (by kernel_rfl) (fun _ _ _ h => h) (Or.inl ⟨by rfl, ?hy2⟩) (by assumption) ?rest2
        case hy2 => (intro w hSw; (try dsimp only at hSw); go_simp <;> (try with_reducible rfl))
        simp only [Act.put]
        refine wpAnyH_take (i := 3) (v := ?v3) rfl (by kernel_rfl) (by kernel_rfl) (by kernel_rfl) (fun _ _ _ h => h) (Or.inl ⟨by rfl, ?hy3⟩) (by assumption) ?rest3
        case hy3 => (intro w hSw; (try dsimp only at hSw); go_simp <;> (try with_reducible rfl))
        simp only [Act.put]
        refine wpAnyH_take (i := 4) (v := ?v4) rfl (by kernel_rfl) (by kernel_rfl) (by kernel_rfl) (fun _ _ _ h => h) (Or.inl ⟨by rfl, ?hy4⟩) (by assumption) ?rest4
        case hy4 => (intro w hSw; (try dsimp only at hSw); go_simp <;> (try with_reducible rfl))
        simp only [Act.put]
        refine wpAnyH_take (i := 5) (v := ?v5) rfl (by kernel_rfl) (by kernel_rfl) (by kernel_rfl) (fun _ _ _ h => h) (Or.inl ⟨by rfl, ?hy5⟩) (by assumption) ?rest5
        case hy5 => (intro w hSw; (try dsimp only at hSw); go_simp <;> (try with_reducible rfl))
        simp only [Act.put]
        refine wpAnyH_take (i := 6) (v := ?v6) rfl (by kernel_rfl) (by kernel_rfl) (by kernel_rfl) (fun _ _ _ h => h) (Or.inl ⟨by rfl, ?hy6⟩) (by assumption) ?rest6
        case hy6 => (intro w hSw; (try dsimp only at hSw); go_simp <;> (try with_reducible rfl))
        simp only [Act.put]
        refine wpAnyH_take (i := 7) (v := ?v7) rfl (by kernel_rfl) (by kernel_rfl) (by kernel_rfl) (fun _ _ _ h => h) (Or.inl ⟨by rfl, ?hy7⟩) (by assumption) ?rest7
        case hy7 => (intro w hSw; (try dsimp only at hSw); go_simp <;> (try with_reducible rfl))
        simp only [Act.put]
        refine wpAnyH_take (i := 8) (v := ?v8) rfl (by kernel_rfl) (by kernel_rfl) (by kernel_rfl) (fun _ _ _ h => h) (Or.inl ⟨by rfl, ?hy8⟩) (by assumption) ?rest8
        case hy8 => (intro w hSw; (try dsimp only at hSw); go_simp <;> (try with_reducible rfl))
        simp only [Act.put]
        refine wpAnyH_take (i := 9) (v := ?v9) rfl (by kernel_rfl) (by kernel_rfl) (by kernel_rfl) (fun _ _ _ h => h) (Or.inl ⟨by rfl, ?hy9⟩) (by assumption) ?rest9
        case hy9 => (intro w hSw; (try dsimp only at hSw); go_simp <;> (try with_reducible rfl))
        simp only [Act.put]
        refine wpAnyH_done (by kernel_rfl) ?_ _
        refine ahead_last rfl (fun K hK => ?_)
        go_simp
        rw [HOR2.out]
        refine hK _ _ ?_
        clear hK K
        go_wp2_with fail
        refine ⟨⟨k + 1, _, h1, by go_num, ⟨HSET.out.row, HSET.out.fz, HSET.out.below.drew, HSET.out.hg⟩, ?_⟩, by simp [intOf]; omega⟩
        rw [HV1.out, show n - (k + 1) = n - 1 - k by omega, ← HP.out]
        exact HPUT.out
    · obtain rfl : k = n := by omega
      have HFIN : Hid (NatAt wr (.slice (some ⟨g, 0, none⟩) m m) (valT t t.size)) := by
        have hO := HO.out
        rw [Nat.sub_self, Nat.pow_zero, Nat.mul_one, HVAL.out] at hO
        have hVlt : valT t t.size < 18446744073709551616 ^ m := by
          rw [← HVAL.out, word_two]
          exact Nat.lt_of_lt_of_le (valT_lt k) (Nat.pow_le_pow_right (by decide) HMN.out.1)
        have hwv : wv l = valT t t.size := by
          rw [wv_of_words l (valT t t.size) (fun q hq => hO.2 q (by rw [← hO.1]; exact hq)), hO.1, Nat.mod_eq_of_lt hVlt]
        have hwrd : Wrd l := fun q hq => by rw [hO.2 q (by rw [← hO.1]; exact hq)]; exact wordAt_lt _ _
        have hw := HW.out.words (n := m) (cap := m) (by rw [hO.1]; exact Nat.le_refl _) (Nat.le_refl _)
        rw [List.take_of_length_le (by rw [hO.1]; exact Nat.le_refl _)] at hw
        refine ⟨l, hwrd, ?_, hwv, hw⟩
        rcases Nat.eq_zero_or_pos m with h0 | h0
        · intro q hq; rw [hO.1] at hq; omega
        · refine noEnd_of_le hwrd (by rw [hO.1]; exact h0) ?_
          rw [hwv, hO.1, ← HVAL.out, word_two]
          have hk1 : 0 < k := by have := HMN.out.2; omega
          have h2 := valT_ge (HTOP.out hk1) (k - 1)
          rw [Nat.sub_add_cancel hk1] at h2
          exact Nat.le_trans (Nat.pow_le_pow_right (by decide) (by have := HMN.out.2; omega)) h2
      have HBF := Hid.mk' (below_chain HB1.out HW.out.below)
      go_wp2_with fail
      go_ret
      exact ⟨_, rfl, HFIN.out, HBF.out⟩
end Go.Proofs.YtncgpldfenkiiaaGreatDoor
