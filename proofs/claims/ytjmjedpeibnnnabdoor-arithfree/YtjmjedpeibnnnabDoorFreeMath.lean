/- What is written is read, whatever stands behind it. -/
import Derived.Test.YtjmjedpeibnnnabDoorEliasMath
import Derived.Test.YtjmjedpeibnnnabDoorReaderO
namespace Go.Proofs.YtjmjedpeibnnnabDoor

theorem txt_get {l : List UInt8} {k : Nat} (h : k < (txt l).size) (h' : k < l.length) : (txt l)[k]'h = l[k] := by
  show l.toArray[k]'(by simpa using h') = l[k]
  simp
theorem bitAt_txt {p s : List UInt8} {b : Nat} (hb : b < 2) : bitAt (txt (p ++ UInt8.ofNat (48 + b) :: s)) p.length = some b := by
  have h' : p.length < (p ++ UInt8.ofNat (48 + b) :: s).length := by simp
  have h : p.length < (txt (p ++ UInt8.ofNat (48 + b) :: s)).size := by rw [txt_size]; exact h'
  have e : (txt (p ++ UInt8.ofNat (48 + b) :: s))[p.length]'h = UInt8.ofNat (48 + b) := by
    rw [txt_get h h']
    simp
  rcases (show b = 0 ∨ b = 1 by omega) with rfl | rfl
  · exact bitAt_zero h e
  · exact bitAt_one h e
theorem digR_bits (n : Nat) (s : List UInt8) : ∀ (c x : Nat) (p : List UInt8), digR (txt (p ++ (bitsL n c ++ s))) c x p.length = .inr (x * 2 ^ c + n % 2 ^ c, p.length + c)
  | 0, x, p => by simp [digR, Nat.mod_one]
  | c + 1, x, p => by
    have hb : n / 2 ^ c % 2 < 2 := Nat.mod_lt _ (by decide)
    rw [bitsL_front, List.cons_append, digR_some (bitAt_txt hb)]
    have ih := digR_bits n s c (2 * x + n / 2 ^ c % 2) (p ++ [UInt8.ofNat (48 + n / 2 ^ c % 2)])
    rw [List.length_append, List.append_assoc] at ih
    simp only [List.length_singleton, List.singleton_append] at ih
    rw [ih, Nat.mod_pow_succ, Nat.pow_succ, Nat.add_mul]
    congr 2
    · have e1 : 2 * x * 2 ^ c = x * (2 ^ c * 2) := by rw [Nat.mul_comm 2 x, Nat.mul_assoc, Nat.mul_comm 2]
      rw [e1, Nat.mul_comm (n / 2 ^ c % 2)]
      omega
    · omega
/-- The first digit is 1, and the others tell the rest. -/
theorem binL_front {n : Nat} (h : 1 ≤ n) : binL n = UInt8.ofNat (48 + 1) :: bitsL n (nd n - 1) := by
  have h1 := nd_lt n
  have h2 := nd_le h
  have h3 := nd_pos n
  unfold binL
  obtain ⟨j, hj⟩ : ∃ j, nd n = j + 1 := ⟨nd n - 1, by omega⟩
  rw [hj] at h1 h2 ⊢
  rw [Nat.add_sub_cancel] at h2 ⊢
  rw [bitsL_front]
  have e : n / 2 ^ j = 1 := by
    have a1 : 1 ≤ n / 2 ^ j := (Nat.le_div_iff_mul_le (Nat.pow_pos (by decide))).2 (by rw [Nat.one_mul]; exact h2)
    have a2 : n / 2 ^ j < 2 := (Nat.div_lt_iff_lt_mul (Nat.pow_pos (by decide))).2 (by rw [Nat.mul_comm, ← Nat.pow_succ]; exact h1)
    omega
  rw [e]
theorem nd_rest {n : Nat} (h : 1 ≤ n) : 1 * 2 ^ (nd n - 1) + n % 2 ^ (nd n - 1) = n := by
  have h1 := nd_lt n
  have h2 := nd_le h
  have h3 := nd_pos n
  have e : n / 2 ^ (nd n - 1) = 1 := by
    have a1 : 1 ≤ n / 2 ^ (nd n - 1) := (Nat.le_div_iff_mul_le (Nat.pow_pos (by decide))).2 (by rw [Nat.one_mul]; exact h2)
    have a2 : n / 2 ^ (nd n - 1) < 2 := (Nat.div_lt_iff_lt_mul (Nat.pow_pos (by decide))).2 (by rw [Nat.mul_comm, ← Nat.pow_succ, Nat.succ_eq_add_one, Nat.sub_add_cancel h3]; exact h1)
    omega
  have h4 := Nat.div_add_mod n (2 ^ (nd n - 1))
  rw [e] at h4
  omega
theorem digR_number {n : Nat} (h : 1 ≤ n) (p s : List UInt8) : digR (txt (p ++ (bitsL n (nd n - 1) ++ s))) (nd n - 1) 1 p.length = .inr (n, p.length + (nd n - 1)) := by
  rw [digR_bits, nd_rest h]
theorem gamR_zeros (s : List UInt8) : ∀ (j f z : Nat) (p : List UInt8), j < f → gamR (txt (p ++ (List.replicate j 48 ++ UInt8.ofNat (48 + 1) :: s))) f z p.length = digR (txt (p ++ (List.replicate j 48 ++ UInt8.ofNat (48 + 1) :: s))) (z + j) 1 (p.length + j + 1)
  | 0, f, z, p, h => by
    obtain ⟨g, rfl⟩ : ∃ g, f = g + 1 := ⟨f - 1, by omega⟩
    have := bitAt_txt (p := p) (s := s) (b := 1) (by decide)
    rw [List.replicate_zero, List.nil_append, gamR_one this]
    rfl
  | j + 1, f, z, p, h => by
    obtain ⟨g, rfl⟩ : ∃ g, f = g + 1 := ⟨f - 1, by omega⟩
    have hb := bitAt_txt (p := p) (s := List.replicate j 48 ++ UInt8.ofNat (48 + 1) :: s) (b := 0) (by decide)
    have e : List.replicate (j + 1) (48 : UInt8) ++ UInt8.ofNat (48 + 1) :: s = UInt8.ofNat (48 + 0) :: (List.replicate j 48 ++ UInt8.ofNat (48 + 1) :: s) := by rw [List.replicate_succ]; rfl
    rw [e, gamR_zero hb]
    have ih := gamR_zeros s j g (z + 1) (p ++ [UInt8.ofNat (48 + 0)]) (by omega)
    rw [List.length_append, List.append_assoc] at ih
    simp only [List.length_singleton, List.singleton_append] at ih
    rw [ih, show z + 1 + j = z + (j + 1) by omega, show p.length + 1 + j + 1 = p.length + (j + 1) + 1 by omega]
theorem gamR_word {n : Nat} (h : 1 ≤ n) (hn : nd n ≤ 31) (s : List UInt8) : gamR (txt (gamL n ++ s)) 31 0 0 = .inr (n, (gamL n).length) := by
  have h3 := nd_pos n
  have e : gamL n ++ s = [] ++ (List.replicate (nd n - 1) 48 ++ UInt8.ofNat (48 + 1) :: (bitsL n (nd n - 1) ++ s)) := by
    unfold gamL
    rw [binL_front h, List.append_assoc, List.cons_append, List.nil_append]
  have h4 := gamR_zeros (bitsL n (nd n - 1) ++ s) (nd n - 1) 31 0 [] (by omega)
  rw [e]
  rw [List.length_nil] at h4
  rw [h4]
  have h5 := digR_number h (List.replicate (nd n - 1) 48 ++ [UInt8.ofNat (48 + 1)]) s
  have e2 : [] ++ (List.replicate (nd n - 1) 48 ++ UInt8.ofNat (48 + 1) :: (bitsL n (nd n - 1) ++ s)) = (List.replicate (nd n - 1) 48 ++ [UInt8.ofNat (48 + 1)]) ++ (bitsL n (nd n - 1) ++ s) := by simp
  rw [e2, show 0 + (nd n - 1) = nd n - 1 by omega, show nd n - 1 + 1 = (List.replicate (nd n - 1) 48 ++ [UInt8.ofNat (48 + 1)]).length by simp, h5]
  congr 2
  unfold gamL
  rw [List.length_append, List.length_append, List.length_replicate, binL_length, List.length_singleton]
  omega
theorem delR_word {n : Nat} (h : 1 ≤ n) (hn : nd n ≤ 30) (s : List UInt8) : delR (txt (delL n ++ s)) 0 = .inr (n, (delL n).length) := by
  have h3 := nd_pos n
  have hk : nd (nd n) ≤ 31 := nd_small h3 (by have : 2 ^ 31 > 30 := by decide
                                              omega)
  have e : delL n ++ s = gamL (nd n) ++ (bitsL n (nd n - 1) ++ s) := by unfold delL; rw [List.append_assoc]
  rw [e, delR_ok (gamR_word h3 hk _) (by omega), digR_number h]
  congr 2
  unfold delL
  rw [List.length_append, bitsL_length]
/-- The groups of an Omega word. -/
def omC : Nat → Nat → List UInt8
  | 0, _ => []
  | f + 1, n => if n ≤ 1 then [] else omC f (nd n - 1) ++ binL n
def omN : Nat → Nat → Nat
  | 0, _ => 0
  | f + 1, n => if n ≤ 1 then 0 else omN f (nd n - 1) + 1
theorem omL_omC : ∀ (f n : Nat) (acc : List UInt8), omL f n acc = omC f n ++ acc
  | 0, n, acc => rfl
  | f + 1, n, acc => by
    by_cases h : n ≤ 1
    · rw [omL_end h]; show acc = (if n ≤ 1 then [] else _) ++ acc; rw [if_pos h]; rfl
    · rw [omL_step h, omL_omC f]
      show _ = (if n ≤ 1 then [] else omC f (nd n - 1) ++ binL n) ++ acc
      rw [if_neg h, List.append_assoc]
theorem omN_le : ∀ (f n : Nat), omN f n ≤ (omC f n).length
  | 0, n => Nat.le_refl _
  | f + 1, n => by
    show (if n ≤ 1 then 0 else omN f (nd n - 1) + 1) ≤ (if n ≤ 1 then [] else omC f (nd n - 1) ++ binL n).length
    by_cases h : n ≤ 1
    · rw [if_pos h]; exact Nat.zero_le _
    · rw [if_neg h, if_neg h, List.length_append, binL_length]
      have := omN_le f (nd n - 1)
      have := nd_pos n
      omega
theorem omR_groups (s : List UInt8) : ∀ (f n F : Nat), 1 ≤ n → n ≤ f → nd n ≤ 30 → omR (txt (omC f n ++ s)) (F + omN f n) 1 0 = omR (txt (omC f n ++ s)) F n (omC f n).length := by
  intro f
  induction f generalizing s with
  | zero => intro n F h1 h2 _; omega
  | succ f ih =>
    intro n F h1 h2 h3
    by_cases h : n ≤ 1
    · obtain rfl : n = 1 := by omega
      show omR _ (F + (if 1 ≤ 1 then 0 else _)) 1 0 = omR _ F 1 (if 1 ≤ 1 then [] else _ : List UInt8).length
      rw [if_pos (Nat.le_refl _), if_pos (Nat.le_refl _)]
      rfl
    · obtain ⟨q1, q2⟩ := nd_less (n := n) (by omega)
      have eC : omC (f + 1) n = omC f (nd n - 1) ++ binL n := if_neg h
      have eN : omN (f + 1) n = omN f (nd n - 1) + 1 := if_neg h
      have h4 : nd (nd n - 1) ≤ 30 := nd_small q1 (by have : 2 ^ 30 > 30 := by decide
                                                      omega)
      have hi := ih (binL n ++ s) (nd n - 1) (F + 1) q1 (by omega) h4
      rw [eC, eN, List.append_assoc, show F + (omN f (nd n - 1) + 1) = F + 1 + omN f (nd n - 1) by omega, hi]
      generalize omC f (nd n - 1) = p
      rw [binL_front h1, List.cons_append]
      have hb := bitAt_txt (p := p) (s := bitsL n (nd n - 1) ++ s) (b := 1) (by decide)
      have hd := digR_number h1 (p ++ [UInt8.ofNat (48 + 1)]) s
      rw [List.append_assoc, List.singleton_append, List.length_append, List.length_singleton] at hd
      rw [omR_next hb (by omega) hd]
      congr 1
      rw [List.length_append, List.length_cons, bitsL_length]
      omega
theorem omR_word {n : Nat} (h : 1 ≤ n) (hn : nd n ≤ 30) (s : List UInt8) : omR (txt (ommL n ++ s)) (txt (ommL n ++ s)).size 1 0 = .inr (n, (ommL n).length) := by
  have e : ommL n ++ s = omC n n ++ (UInt8.ofNat (48 + 0) :: s) := by
    unfold ommL
    rw [omL_omC, List.append_assoc]
    rfl
  have hl : (ommL n).length = (omC n n).length + 1 := by unfold ommL; rw [omL_omC, List.length_append]; rfl
  have hN := omN_le n n
  have hs : (txt (ommL n ++ s)).size = ((txt (ommL n ++ s)).size - 1 - omN n n + 1 - 1 + 1) + omN n n := by
    rw [txt_size, List.length_append, hl]; omega
  rw [hs, hl, e, omR_groups _ n n _ h (Nat.le_refl _) hn]
  have hb := bitAt_txt (p := omC n n) (s := s) (b := 0) (by decide)
  exact omR_zero hb
def eliL : Nat → Nat → List UInt8
  | 0 => gamL
  | 1 => delL
  | _ => ommL
theorem wordR_word {i n : Nat} (h : 1 ≤ n) (hn : n ≤ 1000000000) (s : List UInt8) : wordR (txt (eliL i n ++ s)) i = .inr (n, (eliL i n).length) := by
  have h3 := nd_small (d := 30) h (by omega)
  rcases i with _ | _ | i
  · exact gamR_word h (by omega) s
  · exact delR_word h h3 s
  · exact omR_word h h3 s
end Go.Proofs.YtjmjedpeibnnnabDoor
