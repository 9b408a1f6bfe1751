/- sample.readLeaf: the leaf that bits lead to. -/
import Derived.Test.YtobmngkaoahmiaaDoorSmMath
import Derived.Test.YtobmngkaoahmiaaDoorTab
import Derived.Deep.LoopGhost
namespace Go.Proofs.YtobmngkaoahmiaaDoor
open Go.RowKit

/-- What is left of a text from a place on. -/
def bhT (t : ByteArray) (p : Nat) : ByteArray := t.extract p t.size
theorem bhT_size (t : ByteArray) (p : Nat) : (bhT t p).size = t.size - p := by unfold bhT; rw [ByteArray.size_extract]; omega
theorem bhT_get {t : ByteArray} {p i : Nat} (h : i < (bhT t p).size) (h' : p + i < t.size) : (bhT t p)[i]'h = t[p + i]'h' := by
  exact ByteArray.getElem_extract h
/-- The bits of a text. -/
def bitN (t : ByteArray) (i : Nat) : Nat := if h : i < t.size then (if t[i]'h = 49 then 1 else 0) else 0
theorem bitN_le (t : ByteArray) (i : Nat) : bitN t i ≤ 1 := by unfold bitN; split; split <;> omega; omega
theorem bitN_byte {t : ByteArray} {i : Nat} (h : i < t.size) (hb : (t[i]'h) = 48 ∨ (t[i]'h) = 49) : ((t[i]'h).toNat : Int) = 48 + ((bitN t i : Nat) : Int) := by
  unfold bitN
  rw [dif_pos h]
  rcases hb with e | e <;> rw [e] <;> decide
theorem lowS_le (x : Nat → Nat) (k : Nat) : ∀ m, lowS x k m ≤ sumX x m
  | 0 => Nat.le_refl _
  | m + 1 => by
    have := lowS_le x k m
    have := Nat.mod_le (x m) (2 ^ k)
    rw [lowS, sumX]; omega
theorem inT_lt {x : Nat → Nat} {k m v D : Nat} (h : inT x k m v) (hs : sumX x m = 2 ^ D) : v < 2 ^ D := by
  unfold inT at h
  have h1 := lowS_le x (k + 1) m
  have h2 : v * 1 ≤ v * 2 ^ k := Nat.mul_le_mul_left _ (Nat.two_pow_pos k)
  omega
/-- What readLeaf tells. -/
def LeafR (x : Nat → Nat) (n D L : Nat) (s : Nat → Nat) (p lf rd : Nat) (ok : Bool) : Prop :=
  (ok = false → Comes x n D L s 0 0 p none) ∧ (ok = true → p + rd ≤ L ∧ lf ≤ n ∧ (lf < n → Comes x n D L s 0 0 p (some (lf, p + rd))) ∧ (lf = n → 0 < rd ∧ ∀ r, Comes x n D L s 0 0 (p + rd) r → Comes x n D L s 0 0 p r))
def LeafE (x : Nat → Nat) (n D L : Nat) (s : Nat → Nat) (p : Nat) (e : Ending) : Prop := ∃ (lf rd : Nat) (ok : Bool), e = .returned (.tuple #[.int .i64 (lf : Int), .int .i64 (rd : Int), .bool ok]) ∧ LeafR x n D L s p lf rd ok
/-- A tree in memory. -/
def LvsAt (w : World) (v : Value) (x : Nat → Nat) (n D : Nat) : Prop := ∃ vs, TabAt w v (D + 1) vs (fun d => (lvs x (D - d) (n + 1)).length) (fun d i => (((lvs x (D - d) (n + 1)).getD i 0 : Nat) : Int))
set_option maxRecDepth 100000 in
set_option maxHeartbeats 4000000 in
theorem readLeaf_any (v : Value) (x : Nat → Nat) (n D p : Nat) (t : ByteArray) (w : World) (h : LvsAt w v x n D) (hx : sumX x (n + 1) = 2 ^ D) (hn : x n < 2 ^ D) (hD : D ≤ 12) (hp : p ≤ t.size) (_ : t.size ≤ 4000) (hb : ∀ i (hi : i < t.size), (t[i]'hi) = 48 ∨ (t[i]'hi) = 49) :
    Calls Tryd.prog 39 #[v, .string (bhT t p)] w fun e w' => LeafE x n D t.size (bitN t) p e ∧ w' = w := by
  obtain ⟨vs, h⟩ := h
  obtain ⟨b, o, cap, rfl, hrows⟩ : ∃ b o cap, v = .slice (some ⟨b, o, none⟩) (D + 1) cap ∧ ∀ d, d < D + 1 → w.cell? ⟨b, o + d, none⟩ = some (vs d) ∧ NumsAt w (vs d) (lvs x (D - d) (n + 1)).length (fun i => (((lvs x (D - d) (n + 1)).getD i 0 : Nat) : Int)) := by
    rcases h with ⟨_, _, _, h0⟩ | ⟨b, o, c, h1, _, h2⟩
    · omega
    · exact ⟨b, o, c, h1, h2⟩
  have HR := Hid.mk' hrows
  have HB := Hid.mk' hb
  have HSX := Hid.mk' hx
  have HXN := Hid.mk' hn
  have HPD : Hid (2 ^ D ≤ 4096) := by
    have := Nat.pow_le_pow_right (n := 2) (by decide) hD
    exact Nat.le_trans this (by decide)
  have hsz := bhT_size t p
  have HLL : Hid (∀ k, (lvs x k (n + 1)).length ≤ n + 1) := fun k => lvs_length _
  clear h hrows hb hx hn
  obtain ⟨S, hS⟩ : ∃ S, S = bhT t p := ⟨_, rfl⟩
  have HS := Hid.mk' hS
  rw [← hS] at hsz ⊢
  clear hS
  go_enter Tryd.func39, Tryd.ntmps39
  go_wp2_with fail
  go_loop [7, 12] (fun q i => ∃ d v : Nat, d ≤ D ∧ p + d ≤ t.size ∧ q = .int .i64 v ∧ i = .int .i64 d ∧ Hid (inT x (D - d) (n + 1) v) ∧ Hid (∀ r, Comes x n D t.size (bitN t) d v (p + d) r → Comes x n D t.size (bitN t) 0 0 p r)) (fun _ i => D + 1 - (intOf i).toNat)
  case atStart => exact ⟨0, 0, Nat.zero_le _, by omega, rfl, rfl, inT_root HSX.out, fun r h => h⟩
  case round =>
    obtain ⟨d, v, hd, hpd, rfl, rfl, HI, HC⟩ := hrel
    have hdI : (d : Int) < (D : Int) + 1 := by omega
    have hd0 : (0 : Int) ≤ (d : Int) := by omega
    have hv0 : (0 : Int) ≤ (v : Int) := by omega
    have hvl := inT_lt HI.out HSX.out
    have hv4 : v < 4096 := by have := HPD.out; omega
    obtain ⟨hc, hnum⟩ := HR.out d (by omega)
    obtain ⟨rad, rcap, hre⟩ := hnum.form
    rw [hre] at hc hnum
    clear hvl hre
    rcases Nat.lt_or_ge v (lvs x (D - d) (n + 1)).length with h1 | h1
    · obtain ⟨rb, ro, rfl, hcv⟩ : ∃ rb ro, rad = some ⟨rb, ro, none⟩ ∧ w.cell? ⟨rb, ro + v, none⟩ = some (.int .i64 (((lvs x (D - d) (n + 1)).getD v 0 : Nat) : Int)) := by
        rcases hnum with ⟨_, _, _, h0⟩ | ⟨rb, ro, c, h2, _, h3⟩
        · omega
        · simp only [Value.slice.injEq, true_and] at h2
          exact ⟨rb, ro, h2.1, h3 v h1⟩
      have hle := (lvs_at h1).1
      have HRES : Hid (LeafR x n D t.size (bitN t) p ((lvs x (D - d) (n + 1)).getD v 0) d true) := by
        refine ⟨fun h => by (cases h), fun _ => ⟨hpd, by omega, fun h2 => HC.out _ (comes_leaf h1 h2), fun h2 => ⟨?_, fun r hr => HC.out _ (comes_again h1 (by omega) hr)⟩⟩⟩
        rcases Nat.eq_zero_or_pos d with h0 | h0
        · subst h0
          have h3 := root_leaf HSX.out (D := D) (v := v) h1
          rw [Nat.sub_zero] at h2
          rw [h2] at h3
          have := HXN.out
          omega
        · exact h0
      have hI : (v : Int) < ((lvs x (D - d) (n + 1)).length : Int) := by omega
      clear hnum hle
      generalize (lvs x (D - d) (n + 1)).getD v 0 = lf at *
      generalize (lvs x (D - d) (n + 1)).length = ll at *
      go_wp2_with fail
      go_ret3
      exact ⟨⟨lf, d, true, rfl, HRES.out⟩, rfl⟩
    · have hlt : d < D := by
        rcases Nat.lt_or_ge d D with h2 | h2
        · exact h2
        · obtain rfl : d = D := by omega
          have h3 := HI.out
          rw [Nat.sub_self] at h3 h1
          have := inT_end h3
          omega
      have hI : ¬ (v : Int) < ((lvs x (D - d) (n + 1)).length : Int) := by omega
      have hI2 : decide ((v : Int) < ((lvs x (D - d) (n + 1)).length : Int)) = false := decide_eq_false hI
      have hno : ¬ v < (lvs x (D - d) (n + 1)).length := by omega
      have HL := HLL.out (D - d)
      clear hnum
      by_cases he : p + d = t.size
      · have hse : ((d : Int) == (S.size : Int)) = true := by rw [beq_iff_eq]; omega
        have HRES : Hid (LeafR x n D t.size (bitN t) p 0 0 false) := ⟨fun _ => HC.out _ (by rw [he]; exact comes_none hno), fun h => by (cases h)⟩
        clear hno HI HC he
        generalize (lvs x (D - d) (n + 1)).length = ll at *
        go_wp2_with fail
        go_ret3
        exact ⟨⟨0, 0, false, rfl, HRES.out⟩, rfl⟩
      · have hse : ((d : Int) == (S.size : Int)) = false := by rw [beq_eq_false_iff_ne]; omega
        have h3 : d < S.size := by omega
        have h4 : p + d < t.size := by omega
        have hby : ((S[d]'h3).toNat : Int) = 48 + ((bitN t (p + d) : Nat) : Int) := by
          have h5 := bitN_byte h4 (HB.out _ h4)
          have h6 : S[d]'h3 = t[p + d]'h4 := by
            have hS := HS.out
            subst hS
            exact bhT_get _ h4
          rw [h6]; exact h5
        have hbl := bitN_le t (p + d)
        have HI2 : Hid (inT x (D - (d + 1)) (n + 1) (2 * (v - (lvs x (D - d) (n + 1)).length) + bitN t (p + d))) := by
          have h7 := HI.out
          obtain ⟨k, hk⟩ : ∃ k, D - d = k + 1 := ⟨D - d - 1, by omega⟩
          rw [show D - (d + 1) = k by omega]
          rw [hk] at h7 h1 ⊢
          exact inT_next HSX.out (by omega) h7 h1 hbl
        have HC2 : Hid (∀ r, Comes x n D t.size (bitN t) (d + 1) (2 * (v - (lvs x (D - d) (n + 1)).length) + bitN t (p + d)) (p + (d + 1)) r → Comes x n D t.size (bitN t) 0 0 p r) := fun r hr => HC.out r (comes_step hno he hr)
        have hsI : (d : Int) < (S.size : Int) := by omega
        clear hno HI HC
        generalize bitN t (p + d) = bt at *
        generalize (lvs x (D - d) (n + 1)).length = ll at *
        obtain ⟨y, hy⟩ : ∃ y, v = ll + y := ⟨v - ll, by omega⟩
        rw [show v - ll = y by omega] at HI2 HC2
        have hyI : (v : Int) - (ll : Int) = (y : Int) := by omega
        clear hy
        go_wp2_with fail
        refine ⟨⟨d + 1, 2 * y + bt, by omega, by omega, by go_num, by go_num, HI2, HC2⟩, by simp [intOf]; omega⟩
end Go.Proofs.YtobmngkaoahmiaaDoor
