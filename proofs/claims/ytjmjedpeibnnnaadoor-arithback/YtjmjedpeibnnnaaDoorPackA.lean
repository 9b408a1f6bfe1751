/- The library contract of strings.Trim laid at the numbers of this translation. -/
import Derived.Shelf.SlGeneric
import Derived.Shelf.Strings.SlTrimAscii
import Derived.Ground.NamesProg
import Derived.Test.YtjmjedpeibnnnaaDoorProg
import Derived.Test.YtjmjedpeibnnnaaDoorOwn
import Derived.Test.YtjmjedpeibnnnaaDoorWeights
import Derived.Test.YtjmjedpeibnnnaaDoorNatBits
import Derived.Test.YtjmjedpeibnnnaaDoorDecM
import Derived.Test.YtjmjedpeibnnnaaDoorCutP
import Derived.Test.YtjmjedpeibnnnaaDoorTextP
import Derived.Test.YtjmjedpeibnnnaaDoorTextL
import Derived.Test.YtjmjedpeibnnnaaDoorIntervalP
import Derived.Test.YtjmjedpeibnnnaaDoorMsgP
import Derived.Test.YtjmjedpeibnnnaaDoorValidWalk
import Derived.Test.YtjmjedpeibnnnaaDoorBig
import Derived.Test.YtjmjedpeibnnnaaDoorInts
import Derived.BigQuiet
import Derived.Test.YtjmjedpeibnnnaaDoorBigMul
import Derived.Test.YtjmjedpeibnnnaaDoorRows
import Derived.Test.YtjmjedpeibnnnaaDoorCode
import Derived.ChangeSame
import Derived.ChangeVars
import Derived.JoinedOf
import Derived.LaidLaws
import Derived.LaidHandle
import Derived.LaidMore
import Derived.Stop.Joined
import Derived.Lib.LaidTab
import Derived.Lay
import Derived.Test.YtjmjedpeibnnnaaDoorCards
import Derived.Test.YtjmjedpeibnnnaaDoorTie
import Derived.SevenTiedAt
import Derived.ProofKit
import Derived.OpenShut
import Derived.ChangeOld
import Derived.Lib.SmallJoins
import Derived.Deep.Matrix
namespace Go.Proofs
open Go.Shelf
def Tryd.trimA_ren : Go.Shelf.Ren := ⟨fun | 160 => 51 | 232 => 90 | 231 => 89 | 227 => 91 | 234 => 93 | 233 => 92 | 236 => 95 | 235 => 94 | 228 => 124 | 271 => 127 | 151 => 126 | 197 => 125 | 120 => 145 | 152 => 144 | 260 => 143 | 137 => 151 | 119 => 152 | 224 => 153 | 225 => 154 | 217 => 161 | 266 => 166 | n => n, fun | 9 => 9 | 4 => 4 | 3 => 3 | 5 => 5 | 117 => 124 | 116 => 123 | 0 => 0 | 124 => 127 | 21 => 21 | 105 => 156 | 46 => 159 | 119 => 195 | 139 => 198 | 138 => 197 | n => n, fun | 3 => 10 | 4 => 11 | n => n⟩
theorem Tryd.trimA : Go.Proofs.Lays.n160 Tryd.prog Tryd.trimA_ren := {
  mixed := by kernel_rfl
  f119 := Tryd.func152.trans (congrArg some (by kernel_rfl))
  f120 := Tryd.func145.trans (congrArg some (by kernel_rfl))
  f137 := Tryd.func151.trans (congrArg some (by kernel_rfl))
  f151 := Tryd.func126.trans (congrArg some (by kernel_rfl))
  f152 := Tryd.func144.trans (congrArg some (by kernel_rfl))
  f160 := Tryd.func51.trans (congrArg some (by kernel_rfl))
  f197 := Tryd.func125.trans (congrArg some (by kernel_rfl))
  f217 := Tryd.func161.trans (congrArg some (by kernel_rfl))
  f224 := Tryd.func153.trans (congrArg some (by kernel_rfl))
  f225 := Tryd.func154.trans (congrArg some (by kernel_rfl))
  f227 := Tryd.func91.trans (congrArg some (by kernel_rfl))
  f228 := Tryd.func124.trans (congrArg some (by kernel_rfl))
  f231 := Tryd.func89.trans (congrArg some (by kernel_rfl))
  f232 := Tryd.func90.trans (congrArg some (by kernel_rfl))
  f233 := Tryd.func92.trans (congrArg some (by kernel_rfl))
  f234 := Tryd.func93.trans (congrArg some (by kernel_rfl))
  f235 := Tryd.func94.trans (congrArg some (by kernel_rfl))
  f236 := Tryd.func95.trans (congrArg some (by kernel_rfl))
  f260 := Tryd.func143.trans (congrArg some (by kernel_rfl))
  f266 := Tryd.func166.trans (congrArg some (by kernel_rfl))
  f271 := Tryd.func127.trans (congrArg some (by kernel_rfl))
  t0 := Tryd.underlying0
  a0 := Tryd.isAgg0
  z0 := Tryd.sizeOf0
  v0 := Tryd.zeroValue0
  t3 := Tryd.underlying3
  a3 := Tryd.isAgg3
  z3 := Tryd.sizeOf3
  v3 := Tryd.zeroValue3
  t4 := Tryd.underlying4
  a4 := Tryd.isAgg4
  z4 := Tryd.sizeOf4
  v4 := Tryd.zeroValue4
  t5 := Tryd.underlying5
  a5 := Tryd.isAgg5
  z5 := Tryd.sizeOf5
  v5 := Tryd.zeroValue5
  t9 := Tryd.underlying9
  a9 := Tryd.isAgg9
  z9 := Tryd.sizeOf9
  v9 := Tryd.zeroValue9
  t21 := Tryd.underlying21
  a21 := Tryd.isAgg21
  z21 := Tryd.sizeOf21
  v21 := Tryd.zeroValue21
  t46 := Tryd.underlying159
  a46 := Tryd.isAgg159
  z46 := Tryd.sizeOf159
  v46 := Tryd.zeroValue159
  t105 := Tryd.underlying156
  a105 := Tryd.isAgg156
  z105 := Tryd.sizeOf156
  v105 := Tryd.zeroValue156
  t116 := Tryd.underlying123
  a116 := Tryd.isAgg123
  z116 := Tryd.sizeOf123
  t117 := Tryd.underlying124
  a117 := Tryd.isAgg124
  z117 := Tryd.sizeOf124
  v117 := Tryd.zeroValue124
  t119 := Tryd.underlying195
  a119 := Tryd.isAgg195
  z119 := Tryd.sizeOf195
  t124 := Tryd.underlying127
  a124 := Tryd.isAgg127
  z124 := Tryd.sizeOf127
  v124 := Tryd.zeroValue127
  t138 := Tryd.underlying197
  a138 := Tryd.isAgg197
  z138 := Tryd.sizeOf197
  v138 := Tryd.zeroValue197
  t139 := Tryd.underlying198
  a139 := Tryd.isAgg198
  z139 := Tryd.sizeOf198
  v139 := Tryd.zeroValue198
  g3 := by kernel_rfl
  g4 := by kernel_rfl }
end Go.Proofs

/- Texts of 0 and 1: strings.Trim. -/
namespace Go.Proofs.YtjmjedpeibnnnaaDoor
open Go.RowKit

/-- Is a text of 0 and 1 alone? -/
def bitB (s : ByteArray) : Bool := s.data.toList.all (fun c => [48, 49].contains c)
theorem drop_head (p : UInt8 → Bool) : ∀ (l : List UInt8) (a : UInt8) (t : List UInt8), l.dropWhile p = a :: t → p a = false
  | [], a, t, h => by simp at h
  | x :: l, a, t, h => by
    rw [List.dropWhile_cons] at h
    split at h
    · exact drop_head p l a t h
    · rename_i hx
      obtain ⟨rfl, -⟩ : x = a ∧ l = t := by simpa using h
      simpa using hx
theorem drop_nil (p : UInt8 → Bool) : ∀ (l : List UInt8), l.dropWhile p = [] ↔ ∀ x ∈ l, p x = true
  | [] => by simp
  | x :: l => by
    rw [List.dropWhile_cons]
    split
    · rename_i hx
      rw [drop_nil p l]
      simp [hx]
    · rename_i hx
      simp [hx]
theorem trim_all {l cs : List UInt8} (h : l.all (fun c => cs.contains c) = true) : Lib.trimS l cs = [] := by
  have h1 : Lib.trimRightS l cs = [] := by
    unfold Lib.trimRightS
    rw [List.reverse_eq_nil_iff, drop_nil]
    intro x hx
    exact List.all_eq_true.1 h x (List.mem_reverse.1 hx)
  unfold Lib.trimS
  rw [h1]; rfl
theorem trim_not {l cs : List UInt8} (h : l.all (fun c => cs.contains c) = false) : Lib.trimS l cs ≠ [] := by
  intro h1
  unfold Lib.trimS Lib.trimLeftS Lib.trimRightS at h1
  rw [drop_nil] at h1
  cases hm : l.reverse.dropWhile (cs.contains ·) with
  | nil =>
    rw [drop_nil] at hm
    have : l.all (fun c => cs.contains c) = true := List.all_eq_true.2 fun x hx => hm x (List.mem_reverse.2 hx)
    rw [this] at h; cases h
  | cons a t =>
    have h2 := drop_head _ _ a t hm
    have h3 := h1 a (by rw [hm]; simp)
    have h4 : cs.contains a = false := h2
    rw [h4] at h3; cases h3
theorem trim01 (s : ByteArray) (w : World) (hs : s.size ≤ 1000000) : Calls Tryd.prog 51 #[.string s, .string ⟨#[48, 49]⟩] w fun e w' => e = .returned (.string ⟨(Lib.trimS s.data.toList [48, 49]).toArray⟩) ∧ Below w.heap.size w w' :=
  Any.strings_Trim_laid Tryd.trimA (by kernel_rfl) s ⟨#[48, 49]⟩ w (by omega) (by decide) (ascii_of_all (by decide))
theorem trim_bits (s : ByteArray) (w : World) (hs : s.size ≤ 1000000) (hb : bitB s = true) : Calls Tryd.prog 51 #[.string s, .string ⟨#[48, 49]⟩] w fun e w' => e = .returned (.string ⟨#[]⟩) ∧ Below w.heap.size w w' := by
  have := trim01 s w hs
  rw [trim_all hb] at this
  exact this
theorem trim_other (s : ByteArray) (w : World) (hs : s.size ≤ 1000000) (hb : bitB s = false) : Calls Tryd.prog 51 #[.string s, .string ⟨#[48, 49]⟩] w fun e w' => ∃ t : ByteArray, e = .returned (.string t) ∧ t.toList.isEmpty = false ∧ Below w.heap.size w w' := by
  refine (trim01 s w hs).mono ?_
  rintro e w' ⟨rfl, h⟩
  refine ⟨_, rfl, ?_, h⟩
  rw [ByteArray.toList_eq]
  have := trim_not hb
  cases h2 : Lib.trimS s.data.toList [48, 49] with
  | nil => exact absurd h2 this
  | cons x l => rfl
end Go.Proofs.YtjmjedpeibnnnaaDoor

/- The document's Bits and WordsError; the law's some and strs. -/
namespace Go.Proofs.YtjmjedpeibnnnaaDoor
open Go.RowKit

theorem ret_bool2 {a b : Bool} (h : a = b) : Ending.returned (.bool a) = .returned (.bool b) := by rw [h]
theorem ret_nat4 {a b : Nat} (h : b = a) : Ending.returned (.int .i64 (a : Int)) = .returned (.int .i64 (b : Int)) := by rw [h]
theorem bit_at {s : ByteArray} {i : Nat} (h : i < s.size) (hb : bitB s = true) : (s[i]'h) = 48 ∨ (s[i]'h) = 49 := by
  have h1 : (s[i]'h) ∈ s.data.toList := by
    have h2 : i < s.data.size := h
    rw [Array.mem_toList_iff]
    exact Array.getElem_mem h2
  have := List.all_eq_true.1 hb _ h1
  simpa using this
theorem bit_all {s : ByteArray} (h : ∀ i (hi : i < s.size), (s[i]'hi) = 48 ∨ (s[i]'hi) = 49) : bitB s = true := by
  refine List.all_eq_true.2 fun x hx => ?_
  rw [Array.mem_toList_iff] at hx
  obtain ⟨i, hi, rfl⟩ := Array.getElem_of_mem hx
  have := h i hi
  have e : s.data[i] = (s[i]'hi) := rfl
  rw [e]
  simpa using this
set_option maxRecDepth 100000 in
theorem DocBits_any (s : ByteArray) (w : World) (hs : s.size ≤ 9223372036854775807) : Calls Tryd.prog 19 #[.string s] w fun e w' => e = .returned (.bool (bitB s)) ∧ Below w.heap.size w w' := by
  go_enter Tryd.func19, Tryd.ntmps19
  go_wp2_with fail
  go_loopw [3] (fun t wr => ∃ k : Nat, k ≤ s.size ∧ t = .int .i64 k ∧ Hid (Below w.heap.size w wr) ∧ Hid (∀ i (hi : i < s.size), i < k → (s[i]'hi) = 48 ∨ (s[i]'hi) = 49)) (fun t _ => s.size - (intOf t).toNat)
  case atStart => exact ⟨0, Nat.zero_le _, rfl, Below.refl _ _, fun i _ h => by omega⟩
  case round =>
    obtain ⟨k, hk, rfl, HB, HI⟩ := hrel
    have hk0 : (0 : Int) ≤ (k : Int) := by omega
    rcases Nat.lt_or_ge k s.size with h1 | h1
    · have hkI : (k : Int) < (s.size : Int) := by omega
      by_cases hx : (s[k]'h1) = 48 ∨ (s[k]'h1) = 49
      · have HI1 : Hid (∀ i (hi : i < s.size), i < k + 1 → (s[i]'hi) = 48 ∨ (s[i]'hi) = 49) := fun i hi hik => by
          rcases Nat.lt_or_ge i k with h2 | h2
          · exact HI.out i hi h2
          · obtain rfl : i = k := by omega
            exact hx
        rcases hx with hx | hx
        · have hn : ((s[k]'h1).toNat : Int) = 48 := by rw [hx]; rfl
          go_wp2_with fail
          exact ⟨⟨k + 1, h1, by go_num, HB, HI1⟩, by simp [intOf]; omega⟩
        · have hn : ((s[k]'h1).toNat : Int) = 49 := by rw [hx]; rfl
          go_wp2_with fail
          exact ⟨⟨k + 1, h1, by go_num, HB, HI1⟩, by simp [intOf]; omega⟩
      · have HF : Hid (bitB s = false) := by
          show _ = _
          cases hb : bitB s with
          | false => rfl
          | true => exact absurd (bit_at h1 hb) hx
        have hn1 : ¬ (((s[k]'h1).toNat : Int) = 48) := fun h => hx (Or.inl (UInt8.toNat_inj.1 (by show _ = 48; omega)))
        have hn2 : ¬ (((s[k]'h1).toNat : Int) = 49) := fun h => hx (Or.inr (UInt8.toNat_inj.1 (by show _ = 49; omega)))
        have hm1 : (((s[k]'h1).toNat : Int) != 48) = true := by rw [bne_iff_ne]; exact hn1
        have hm2 : (((s[k]'h1).toNat : Int) != 49) = true := by rw [bne_iff_ne]; exact hn2
        clear hx hn1 hn2
        go_wp2_with fail
        go_ret
        exact ⟨ret_bool2 (by rw [HF.out] <;> rfl), HB.out⟩
    · obtain rfl : s.size = k := by omega
      have HT : Hid (bitB s = true) := bit_all fun i hi => HI.out i hi hi
      go_wp2_with fail
      go_ret
      exact ⟨ret_bool2 (by rw [HT.out] <;> rfl), HB.out⟩
end Go.Proofs.YtjmjedpeibnnnaaDoor

/- A row of numbers that is made and filled. -/
namespace Go.Proofs.YtjmjedpeibnnnaaDoor
open Go.RowKit

/-- The row that is filled. -/
structure Fills (w wr : World) (g T : Nat) (f : Nat → Int) : Prop where
  row : RowAt wr g 0 T f
  fz : ∀ i, i < T → wr.frozen? ⟨g, 0 + i, none⟩ = false
  below : Below w.heap.size w wr
  hg : w.heap.size ≤ g
theorem Fills.set {w wr : World} {g T : Nat} {f : Nat → Int} (h : Fills w wr g T f) {j : Nat} (hj : j < T) (x : Int) {f' : Nat → Int} (hf : ∀ i, i < T → f' i = if i = j then x else f i) : Fills w (wr.setCell ⟨g, j, none⟩ (.int .i64 x)) g T f' := by
  refine ⟨fun i hi => ?_, fun i hi => ?_, h.below.setCell h.hg _, h.hg⟩
  · rw [hf i hi]
    by_cases hij : i = j
    · subst hij
      rw [if_pos rfl, Nat.zero_add]
      exact World.cell?_setCell_same _ _ _ (by have := h.row i hi; rwa [Nat.zero_add] at this)
    · rw [if_neg hij, World.cell?_setCell_other _ _ _ _ (fun e => hij (by have := congrArg Addr.off e; simp at this; omega))]
      exact h.row i hi
  · rw [World.frozen?_setCell]
    exact h.fz i hi
theorem Fills.drew {w wr : World} {g T : Nat} {f : Nat → Int} (h : Fills w wr g T f) : Fills w wr.drew g T f := ⟨h.row, h.fz, h.below.drew, h.hg⟩
theorem fills_made {w w2 : World} {g n : Nat} {t : TypeId} {xs : List Value} (h : w2.ownsRow w.heap.size t 1 (.slice (some ⟨g, 0, none⟩) n n) n xs) (hx : ∀ i, i < n → xs[i]? = some (.int .i64 0)) (hg : w.grownBy w2 none) : Fills w w2 g n (fun _ => 0) := by
  obtain ⟨hl, hr⟩ := h
  rcases hr with ⟨hx, _⟩ | ⟨g', cap', cur, hv, hb, hh, _, _, hs, ht⟩
  · cases hx
  · obtain ⟨rfl, rfl⟩ : g = g' ∧ n = cap' := by simpa using hv
    refine ⟨fun i hi => ?_, fun i hi => ?_, (Below.refl _ _).grown hg (Nat.le_refl _) (fun k hk => by cases hk), hb⟩
    · rw [← hx i hi, ← ht, List.getElem?_take_of_lt (by omega)]
      simp [World.cell?, hh]
    · simp [World.frozen?, hh]
theorem made_zero (n i : Nat) (hi : i < n) : (madeCells (Value.int IntKind.i64 0).cells (n * 1)).toList[i]? = some (.int .i64 0) := by
  simp [madeCells, hi, Nat.mod_one, Value.cells]
end Go.Proofs.YtjmjedpeibnnnaaDoor

/- arith.partAt and arith.Decode. -/
namespace Go.Proofs.YtjmjedpeibnnnaaDoor
open Go.RowKit

set_option maxRecDepth 100000 in
set_option maxHeartbeats 1000000 in
theorem partAt_any (b o cap n S a d s : Nat) (z : Nat → Int) (w : World) (hrw : RowAt w b o n z) (hz : OkW z n) (hn : n ≤ 1000) (hs : SymIs z n S a d s) (hp : a * S / d ≤ 4096) :
    Calls Tryd.prog 58 #[.slice (some ⟨b, o, none⟩) n cap, .int .i64 ((a * S / d : Nat) : Int)] w fun e w' => e = .returned (.tuple #[.int .i64 (s : Int), .int .i64 ((a * S / d - (sumN z s).toNat : Nat) : Int)]) ∧ w' = w := by
  have HRW := Hid.mk' hrw
  have HZ := Hid.mk' hz
  have HS := Hid.mk' hs
  obtain ⟨p, hpe⟩ : ∃ p, p = a * S / d := ⟨_, rfl⟩
  rw [← hpe] at hp ⊢
  have HPE := Hid.mk' hpe
  clear hrw hz hpe hs
  go_enter Tryd.func58, Tryd.ntmps58
  go_wp2_with fail
  go_loopw [1, 4] (fun q i wr => ∃ k : Nat, k ≤ s ∧ q = .int .i64 ((p : Int) - sumN z k) ∧ i = .int .i64 k ∧ wr = w) (fun _ i _ => s - (intOf i).toNat)
  case atStart => exact ⟨0, Nat.zero_le _, by show _ = Value.int _ ((p : Int) - 0); rw [Int.sub_zero], rfl, rfl⟩
  case round =>
    obtain ⟨k, hk, rfl, rfl, rfl⟩ := hrel
    have hsn := HS.out.lt
    have hc := HRW.out k (by omega)
    have hkn : (k : Int) < (n : Int) := by omega
    have hk0 : (0 : Int) ≤ (k : Int) := by omega
    have hz1 := HZ.out.lt (i := k) (by omega)
    have hp1 := HZ.out.part (k := k) (by omega)
    have HE : Hid (sumN z (k + 1) = sumN z k + z k) := rfl
    rcases Nat.lt_or_ge k s with h1 | h1
    · have hno := HS.out.no k h1
      rw [HE.out, ← HPE.out] at hno
      obtain ⟨x, hx⟩ : ∃ x, x = z k := ⟨_, rfl⟩
      obtain ⟨y, hy⟩ : ∃ y, y = sumN z k := ⟨_, rfl⟩
      rw [← hx] at hc hz1 hno HE
      rw [← hy] at hp1 hno HE ⊢
      clear hx hy
      have hge : x ≤ (p : Int) - y := by omega
      go_wp2_with fail
      exact ⟨⟨k + 1, h1, by rw [HE.out]; go_num, by go_num, trivial⟩, by simp [intOf]; omega⟩
    · obtain rfl : s = k := by omega
      have hhi := HS.out.hi
      have hlo := HS.out.lo
      rw [HE.out, ← HPE.out] at hhi
      rw [← HPE.out] at hlo
      have HR : Hid ((p : Int) - sumN z s = ((p - (sumN z s).toNat : Nat) : Int)) := by show _ = _; omega
      obtain ⟨x, hx⟩ : ∃ x, x = z s := ⟨_, rfl⟩
      obtain ⟨y, hy⟩ : ∃ y, y = sumN z s := ⟨_, rfl⟩
      rw [← hx] at hc hz1 hhi
      rw [← hy] at hp1 hhi hlo ⊢
      have HY := Hid.mk' hy
      clear hx hy HE
      have hge : ¬ x ≤ (p : Int) - y := by omega
      go_wp2_with fail
      go_ret2
      exact ⟨by rw [HY.out, ← HR.out, ← HY.out]; rfl, rfl⟩

/-- The symbols of a number. -/
def symK (z : Nat → Int) (n S a0 d0 k : Nat) : Nat := symOf z n S (decAD z n S a0 d0 k).1 (decAD z n S a0 d0 k).2
theorem dec_room {L k K : Nat} (h : L + 12 * k < 64 * K) : 2 ^ L * 4096 ^ k < 18446744073709551616 ^ K := by
  have e : (4096 : Nat) ^ k = 2 ^ (12 * k) := by rw [show (4096 : Nat) = 2 ^ 12 by decide, ← Nat.pow_mul]
  rw [e, ← Nat.pow_add, word_two]
  exact Nat.pow_lt_pow_right (by decide) h
theorem part_sum {A S D B : Nat} (hD : 0 < D) (h : B * D ≤ A * S) : A * S % D + D * (A * S / D - B) = A * S - B * D := by
  have h1 := Nat.div_add_mod (A * S) D
  have h2 : B ≤ A * S / D := (Nat.le_div_iff_mul_le hD).2 h
  rw [Nat.mul_sub, Nat.mul_comm D B]
  have h3 : D * B ≤ D * (A * S / D) := Nat.mul_le_mul_left _ h2
  rw [Nat.mul_comm D B] at h3
  omega
set_option maxRecDepth 100000 in
set_option maxHeartbeats 4000000 in
theorem Decode_ok (a : Nat → Addr) (b o cap n S N : Nat) (t : ByteArray) (z : Nat → Int) (w : World) (hE : Errs w a) (hrw : RowAt w b o n z) (hok : weightsErr z n = 0) (hS : sumN z n = (S : Int)) (hN : N ≤ 200) (ht : t.size ≤ 4000) (hbits : bitB t = true) :
    Calls Tryd.prog 20 #[.slice (some ⟨b, o, none⟩) n cap, .string t, .int .i64 (N : Int)] w fun e w' => ∃ v, e = .returned (.tuple #[v, .nilIface]) ∧ NumsAt w' v N (fun k => (symK z n S (valT t t.size) (2 ^ t.size) k : Int)) ∧ Below w.heap.size w w' := by
  have hn16 : n ≤ 16 := by
    unfold weightsErr at hok
    by_cases h6 : 16 < n
    · rw [if_pos h6] at hok; simp at hok
    · omega
  have hz : OkW z n := by
    unfold weightsErr at hok
    rw [if_neg (by omega)] at hok
    exact listErr_ok hok
  have hw : NumsAt w (.slice (some ⟨b, o, none⟩) n cap) n z := Or.inr ⟨b, o, cap, rfl, hz.posN, hrw⟩
  have hV := Valid_weights a _ n z w hE hw (by omega)
  rw [hok, errV_zero] at hV
  have HTR := Hid.mk' (fun (W : World) => trim_bits t W (by omega) hbits)
  have HTO : Hid (∀ W, Below w.heap.size w W → Calls Tryd.prog 52 #[.slice (some ⟨b, o, none⟩) n cap] W fun e w' => e = .returned (.int .i64 (S : Int)) ∧ w' = W) := fun W hb => by
    have h1 := Total_nums b o cap n z W (hrw.later hb) (fun k hk => by have := hz.part hk; omega) (fun i hi => by have := hz.lt hi; omega) (by omega)
    rw [hS] at h1
    exact h1
  have HNB := Hid.mk' (fun (W : World) => NatOfBits_any t W ht (fun i hi => bit_at hi hbits))
  have HN1 := Hid.mk' (fun (W : World) => NatOf_any 1 W (by decide) (by decide))
  have HSF := Hid.mk' (fun (W : World) (u : Value) (hu : NatAt W u 1) => Shift_any u 1 t.size 1 W hu (by decide) (by decide) (by decide) (by omega))
  have HS4 : Hid (0 < S ∧ S ≤ 4096) := by have h1 := hz.pos; have h2 := hz.le; rw [hS] at h1 h2; exact ⟨by omega, by omega⟩
  have HDOK := Hid.mk' (dec_ok (a0 := valT t t.size) (d0 := 2 ^ t.size) hz hS (Nat.pow_pos (by decide)) (valT_lt t.size))
  have HRW := Hid.mk' (fun (W : World) (hb : Below w.heap.size w W) => hrw.later hb)
  have HZ := Hid.mk' hz
  obtain ⟨i0, hii, hz0, hz1, hz2⟩ := info_parts Tryd.infoInt
  have HINF : Hid (Tryd.prog.info? 3 = some i0 ∧ i0.zero = some (.int .i64 0) ∧ i0.size = 1 ∧ i0.bytes = 8) := ⟨hii, hz0, hz1, hz2⟩
  have hsw : IntKind.u64.wrap (S : Int) = (S : Int) := by have := HS4.out; rw [IntKind.wrap_u64]; exact Int.emod_eq_of_lt (by omega) (by omega)
  have hN1 : ¬ (N : Int) < 0 := by omega
  have hN2 : ¬ (200 : Int) < (N : Int) := by omega
  have htI : ¬ (4000 : Int) < (t.size : Int) := by omega
  clear hii hz0 hz1 hz2 hrw hz hE hw hok hbits
  go_enter Tryd.func20, Tryd.ntmps20
  go_wp2_with fail
  refine hV.mono ?_
  clear hV
  rintro e w1 ⟨rfl, hw1⟩
  rw [hw1]
  clear hw1 w1
  go_wp2_with fail
  refine (HTR.out _).mono ?_
  rintro e w1 ⟨rfl, hb1⟩
  have HB := Hid.mk' hb1
  clear hb1
  go_wp2_with fail
  refine (HTO.out _ HB.out).mono ?_
  rintro e w2 ⟨rfl, hw2⟩
  rw [hw2]
  clear hw2 w2
  go_wp2_with fail
  refine (HNB.out _).mono ?_
  rintro e w3 ⟨v3, rfl, hv3, hb3⟩
  have HB := Hid.mk' (below_chain HB.out hb3)
  have HA := Hid.mk' hv3
  obtain ⟨a3, l3, c3, rfl⟩ := hv3.isSl
  clear hv3 hb3
  go_wp2_with fail
  refine (HN1.out _).mono ?_
  rintro e w4 ⟨v4, rfl, hv4, hb4⟩
  have HB := Hid.mk' (below_chain HB.out hb4)
  have HA := Hid.mk' (HA.out.later hb4)
  have HV4 := Hid.mk' hv4
  clear hv4 hb4
  go_wp2_with fail
  refine (HSF.out _ _ HV4.out).mono ?_
  rintro e w5 ⟨v5, rfl, hv5, hb5⟩
  rw [Nat.one_mul] at hv5
  have HB := Hid.mk' (below_chain HB.out hb5)
  have HA := Hid.mk' (HA.out.later hb5)
  have HD := Hid.mk' hv5
  obtain ⟨a5, l5, c5, rfl⟩ := hv5.isSl
  clear hv5 hb5 HV4 HTR HNB HN1 HSF
  go_wp2_with (at_make; go_must (refine wpList_make_full _ rfl _ _ _ rfl w5.heap.size 3 i0 _ 1 Tryd.underlying22 HINF.out.1 HINF.out.2.1 HINF.out.2.2.1 .i64 .i64 _ _ N rfl rfl rfl rfl (by rw [HINF.out.2.2.2]; omega) (by unfold maxLen; omega) (Nat.le_refl _) ?_; intro w6 hown hgrow; have HW := Hid.mk' (fills_made hown (made_zero N) hgrow); clear hown hgrow))
  have HA := Hid.mk' (HA.out.later HW.out.below)
  have HD := Hid.mk' (HD.out.later HW.out.below)
  generalize hg5 : w5.heap.size = g at HW ⊢
  clear hg5
  go_loopw [10, 11, 53] (fun x y i wr => ∃ (k : Nat) (x1 x2 : Option Addr) (l1 c1 l2 c2 : Nat) (f : Nat → Int), k ≤ N ∧ x = .slice x1 l1 c1 ∧ y = .slice x2 l2 c2 ∧ i = .int .i64 k ∧ Hid (NatAt wr (.slice x1 l1 c1) (decAD z n S (valT t t.size) (2 ^ t.size) k).1) ∧ Hid (NatAt wr (.slice x2 l2 c2) (decAD z n S (valT t t.size) (2 ^ t.size) k).2) ∧ Hid (Fills w5 wr g N f) ∧ Hid (∀ j, j < k → f j = (symK z n S (valT t t.size) (2 ^ t.size) j : Int))) (fun _ _ i _ => N - (intOf i).toNat)
  case atStart => exact ⟨0, a3, a5, l3, c3, l5, c5, _, Nat.zero_le _, rfl, rfl, rfl, HA.out, HD.out, HW.out, fun j hj => by omega⟩
  case round =>
    clear HA HD HW
    obtain ⟨k, x1, x2, l1, c1, l2, c2, f, hk, rfl, rfl, rfl, HA, HD, HF, HSY⟩ := hrel
    rcases Nat.lt_or_ge k N with h1 | h1
    · have hkN : (k : Int) < (N : Int) := by omega
      have hk0 : (0 : Int) ≤ (k : Int) := by omega
      obtain ⟨d1, d2, d3⟩ := HDOK.out k
      have HSYM := Hid.mk' (sym_is HZ.out hS d2 d1)
      have HNX : Hid ((decAD z n S (valT t t.size) (2 ^ t.size) (k + 1)).1 = (decAD z n S (valT t t.size) (2 ^ t.size) k).1 * S - (sumN z (symK z n S (valT t t.size) (2 ^ t.size) k)).toNat * (decAD z n S (valT t t.size) (2 ^ t.size) k).2 ∧ (decAD z n S (valT t t.size) (2 ^ t.size) (k + 1)).2 = (decAD z n S (valT t t.size) (2 ^ t.size) k).2 * (z (symK z n S (valT t t.size) (2 ^ t.size) k)).toNat) := ⟨rfl, rfl⟩
      change Hid (SymIs z n S _ _ (symK z n S (valT t t.size) (2 ^ t.size) k)) at HSYM
      have HSYN : Hid (∀ j, j < k + 1 → (if j = k then ((symK z n S (valT t t.size) (2 ^ t.size) k : Nat) : Int) else f j) = (symK z n S (valT t t.size) (2 ^ t.size) j : Int)) := fun j hj => by
        by_cases hjk : j = k
        · rw [if_pos hjk, hjk]
        · rw [if_neg hjk]; exact HSY.out j (by omega)
      have hroom := dec_room (L := t.size) (k := k + 1) (K := 110) (by omega)
      have hroom0 := dec_room (L := t.size) (k := k) (K := 110) (by omega)
      rw [Nat.pow_succ, ← Nat.mul_assoc] at hroom
      generalize (decAD z n S (valT t t.size) (2 ^ t.size) k).1 = A at *
      generalize (decAD z n S (valT t t.size) (2 ^ t.size) k).2 = D at *
      generalize symK z n S (valT t t.size) (2 ^ t.size) k = sy at *
      generalize 2 ^ t.size * 4096 ^ k = R at *
      have hs4 := HS4.out
      have hAS : A * S < D * S := Nat.mul_lt_mul_of_pos_right d1 hs4.1
      have hDS : D * S ≤ R * 4096 := Nat.mul_le_mul d3 hs4.2
      have hpl : A * S / D ≤ 4096 := by
        have : A * S / D < S := (Nat.div_lt_iff_lt_mul d2).2 (by rw [Nat.mul_comm S D]; exact hAS)
        omega
      have HTI := Hid.mk' (fun (W : World) (hb : Below wr.heap.size wr W) => Times_all (.slice x1 l1 c1) A S 110 W (HA.out.later hb) (by omega) (by omega) (by decide))
      have HOV := Hid.mk' (fun (W : World) (u : Value) (hb : Below wr.heap.size wr W) (hu : NatAt W u (A * S)) => Over_any u (.slice x2 l2 c2) (A * S) D 110 W hu (HD.out.later hb) d2 (by omega) (by omega) (by decide))
      have HPA := Hid.mk' (fun (W : World) (hb : Below w.heap.size w W) => partAt_any b o cap n S A D sy z W (HRW.out W hb) HZ.out (by omega) HSYM.out hpl)
      have hsn := HSYM.out.lt
      have hzs := HZ.out.lt hsn
      have hzp := HZ.out.part (k := sy) (by omega)
      obtain ⟨Zy, hZy⟩ : ∃ Zy : Nat, z sy = (Zy : Int) := ⟨(z sy).toNat, by omega⟩
      obtain ⟨By, hBy⟩ : ∃ By : Nat, sumN z sy = (By : Int) := ⟨(sumN z sy).toNat, by omega⟩
      have hle := HSYM.out.le
      have HCELL : Hid (∀ W, Below w.heap.size w W → W.cell? ⟨b, o + sy, none⟩ = some (.int .i64 (Zy : Int))) := fun W hb => by have := HRW.out W hb sy hsn; rw [hZy] at this; exact this
      rw [hZy, hBy, Int.toNat_natCast, Int.toNat_natCast] at HNX
      rw [hBy, Int.toNat_natCast] at HPA hle
      rw [hZy] at hzs
      rw [hBy] at hzp
      have HSUM := Hid.mk' (part_sum d2 hle)
      have HLE := Hid.mk' hle
      have hD2R : D * Zy ≤ R * 4096 := Nat.mul_le_mul d3 (by omega)
      clear hZy hBy hle
      have hmd : A * S % D < D := Nat.mod_lt _ d2
      have hge : By ≤ A * S / D := (Nat.le_div_iff_mul_le d2).2 HLE.out
      generalize A * S / D = pl at *
      generalize A * S % D = md at *
      obtain ⟨it, hit⟩ : ∃ it, it = pl - By := ⟨_, rfl⟩
      rw [← hit] at HPA HSUM
      have hit4 : it ≤ 4096 := by omega
      have hDit : D * it ≤ A * S := by have := HSUM.out; omega
      have HTA := Hid.mk' (fun (W : World) (hu : NatAt W (.slice x2 l2 c2) D) => Times_all (.slice x2 l2 c2) D it 110 W hu (by omega) (by omega) (by decide))
      have HTB := Hid.mk' (fun (W : World) (hu : NatAt W (.slice x2 l2 c2) D) => Times_all (.slice x2 l2 c2) D Zy 110 W hu (by omega) (by omega) (by decide))
      have HPL := Hid.mk' (fun (W : World) (u v : Value) (hu : NatAt W u md) (hv : NatAt W v (D * it)) => Plus_any u v md (D * it) 110 W hu hv (by omega) (by omega) (by decide))
      have hitw : IntKind.u64.wrap (it : Int) = (it : Int) := by rw [IntKind.wrap_u64]; exact Int.emod_eq_of_lt (by omega) (by omega)
      have hZyw : IntKind.u64.wrap (Zy : Int) = (Zy : Int) := by rw [IntKind.wrap_u64]; exact Int.emod_eq_of_lt (by omega) (by omega)
      have hsyI : (sy : Int) < (n : Int) := by omega
      have hsy0 : (0 : Int) ≤ (sy : Int) := by omega
      have HPL0 : Hid (pl ≤ 4096) := hpl
      have HR9 := Hid.mk' (And.intro HNX.out.1 HNX.out.2)
      clear hroom hroom0 hAS hDS hD2R hDit hit hge hmd d1 d3 hs4
      go_wp2_with fail
      refine (HTI.out _ (Below.refl _ _)).mono ?_
      rintro e w7 ⟨v7, rfl, hv7, hb7⟩
      have HV7 := Hid.mk' hv7
      have HC := Hid.mk' hb7
      clear hv7 hb7
      go_wp2_with fail
      refine (HOV.out _ _ HC.out HV7.out).mono ?_
      rintro e w8 ⟨q8, r8, f8, rfl, hf1, hf2, hb8⟩
      have hf : f8 = true := by
        cases f8 with
        | true => rfl
        | false => have := hf2 rfl; omega
      subst hf
      obtain ⟨hq8, _, hr8⟩ := hf1 rfl
      subst hq8
      have HC := Hid.mk' (below_chain HC.out hb8)
      have HR8 := Hid.mk' hr8
      obtain ⟨xr, lr, cr, rfl⟩ := hr8.isSl
      clear hf1 hf2 hr8 hb8 HV7
      have hplI : (0 : Int) ≤ (q8 : Int) ∧ (q8 : Int) ≤ 4096 := by have := HPL0.out; omega
      obtain ⟨hp1, hp2⟩ := hplI
      have HBW := Hid.mk' (below_chain (below_chain HB.out HF.out.below) HC.out)
      go_wp2_with fail
      refine (HPA.out _ HBW.out).mono ?_
      rintro e w9 ⟨rfl, hw9⟩
      rw [hw9]
      clear hw9 w9
      have hF8 : Fills w5 w8 g N f := ⟨HF.out.row.later HC.out, fun i hi => by rw [HC.out.frozen (cell_lt (HF.out.row i hi))]; exact HF.out.fz i hi, below_chain HF.out.below HC.out, HF.out.hg⟩
      have y0 := hF8.row k h1
      rw [Nat.zero_add] at y0
      have y1 := hF8.fz k h1
      rw [Nat.zero_add] at y1
      have HF9 := Hid.mk' (hF8.set h1 (sy : Int) (f' := fun i => if i = k then (sy : Int) else f i) (fun i hi => rfl))
      have HD9 := Hid.mk' ((HD.out.later HC.out).put (y := .int .i64 (sy : Int)) y0)
      have HR9b := Hid.mk' (HR8.out.put (y := .int .i64 (sy : Int)) y0)
      have HB9 : Hid (Below w.heap.size w (w8.setCell ⟨g, k, none⟩ (.int .i64 (sy : Int)))) := below_chain HB.out HF9.out.below
      generalize hW9 : w8.setCell ⟨g, k, none⟩ (.int .i64 (sy : Int)) = W9 at *
      clear hF8
      have hcur0 : Below W9.heap.size W9 W9 := Below.refl _ _
      have hcur : Below W9.heap.size W9 W9.drew := (Below.refl _ _).drew
      have HKS : Hid (∀ W, Below W9.heap.size W9 W → W.cell? ⟨b, o + sy, none⟩ = some (.int .i64 (Zy : Int))) := fun W hb => HCELL.out W (below_chain HB9.out hb)
      go_wp2_with fail
      clear hW9 y0 y1
      go_region_held3 (fun W => W.cell? ⟨b, o + sy, none⟩ = some (.int .i64 (Zy : Int)))
        (first | exact HKS.out _ hcur0 | exact HKS.out _ hcur | exact HKS.out _ hbw1 | exact HKS.out _ hbw2 | exact HKS.out _ hbw3)
        (first
          | (go_at_call 56; have hq2 := hbw2; clear hq2; refine (HTB.out _ (HD9.out.later hbw2)).mono ?_; rintro e w12 ⟨r12, rfl, hr12, hb12⟩; have hbw3 := below_chain hbw2 hb12; have HX3 := Hid.mk' hr12; have HX2 := Hid.mk' (HX2.out.later hb12); obtain ⟨x12, l12, c12, rfl⟩ := hr12.isSl; clear hr12 hb12)
          | (go_at_call 59; refine (HPL.out _ _ _ (HR9b.out.later hbw1) HX1.out).mono ?_; rintro e w11 ⟨r11, rfl, hr11, hb11⟩; have hbw2 := below_chain hbw1 hb11; have HX2 := Hid.mk' hr11; obtain ⟨x11, l11, c11, rfl⟩ := hr11.isSl; clear hr11 hb11)
          | (go_at_call 56; refine (HTA.out _ (HD9.out.later hcur)).mono ?_; rintro e w10 ⟨r10, rfl, hr10, hb10⟩; have hbw1 := below_chain hcur hb10; have HX1 := Hid.mk' hr10; clear hr10 hb10))
      go_wp2_with fail
      have hfin1 := HX2.out
      rw [HSUM.out, ← HR9.out.1] at hfin1
      have hfin2 := HX3.out
      rw [← HR9.out.2] at hfin2
      refine ⟨⟨k + 1, _, _, _, _, _, _, _, h1, rfl, rfl, by go_num, hfin1, hfin2, ⟨HF9.out.row.later hbw3, fun i hi => ?_, below_chain HF9.out.below hbw3, HF9.out.hg⟩, HSYN.out⟩, by simp [intOf]; omega⟩
      rw [hbw3.frozen (cell_lt (HF9.out.row i hi))]; exact HF9.out.fz i hi
    · obtain rfl : k = N := by omega
      have HFIN : Hid (NumsAt wr (.slice (some ⟨g, 0, none⟩) k k) k (fun j => (symK z n S (valT t t.size) (2 ^ t.size) j : Int))) := by
        rcases Nat.eq_zero_or_pos k with h0 | h0
        · subst h0; exact Or.inl ⟨_, _, rfl, rfl⟩
        · refine Or.inr ⟨g, 0, k, rfl, h0, fun i hi => ?_⟩
          rw [HF.out.row i hi, HSY.out i hi]
      have HBF := Hid.mk' (below_chain HB.out HF.out.below)
      go_wp2_with fail
      go_ret2
      exact ⟨_, rfl, HFIN.out, HBF.out⟩
end Go.Proofs.YtjmjedpeibnnnaaDoor

/- A number of a message's interval is decoded to the message. -/
namespace Go.Proofs.YtjmjedpeibnnnaaDoor
open Go.RowKit

structure InCut (z l : Nat → Int) (S a0 d0 k : Nat) : Prop where
  lo : cutL z l S k * d0 ≤ a0 * S ^ k
  hi : a0 * S ^ k < (cutL z l S k + cutW z l k) * d0
/-- A symbol's own part. -/
theorem part_in {z : Nat → Int} {n S s : Nat} (hz : OkW z n) (hS : sumN z n = (S : Int)) (hs : s < n) : (sumN z s).toNat + (z s).toNat ≤ S ∧ (sumN z (s + 1) = (((sumN z s).toNat + (z s).toNat : Nat) : Int)) ∧ 0 ≤ sumN z s := by
  have hm := sumN_mono hz.nn (k := s + 1) hs
  rw [hS] at hm
  have e : sumN z (s + 1) = sumN z s + z s := rfl
  have p1 := hz.part (k := s) (by omega)
  have p2 := hz.lt hs
  omega
theorem cutL_succ (z l : Nat → Int) (S k : Nat) : cutL z l S (k + 1) = cutL z l S k * S + cutW z l k * (sumN z (l k).toNat).toNat := rfl
theorem cutW_succ (z l : Nat → Int) (k : Nat) : cutW z l (k + 1) = cutW z l k * (z (l k).toNat).toNat := rfl
theorem InCut.outer {z l : Nat → Int} {n m S a0 d0 k : Nat} (hz : OkW z n) (hS : sumN z n = (S : Int)) (hl : ∀ i, i < m → 0 ≤ l i ∧ l i < (n : Int)) (hS0 : 0 < S) (hk : k < m) (h : InCut z l S a0 d0 (k + 1)) : InCut z l S a0 d0 k := by
  obtain ⟨h0, h1⟩ := hl k hk
  have hp := (part_in hz hS (s := (l k).toNat) (by omega)).1
  have a1 := h.lo
  have a2 := h.hi
  rw [cutL_succ, cutW_succ] at a2
  rw [cutL_succ] at a1
  suffices hh : cutL z l S k * d0 ≤ a0 * S ^ k ∧ a0 * S ^ k < (cutL z l S k + cutW z l k) * d0 from ⟨hh.1, hh.2⟩
  generalize (sumN z (l k).toNat).toNat = B at *
  generalize (z (l k).toNat).toNat = Z at *
  generalize cutL z l S k = L at *
  generalize cutW z l k = W at *
  have e : a0 * S ^ (k + 1) = a0 * S ^ k * S := by rw [Nat.pow_succ, Nat.mul_assoc]
  rw [e] at a1 a2
  constructor
  · refine Nat.le_of_mul_le_mul_right ?_ hS0
    have : L * d0 * S ≤ (L * S + W * B) * d0 := by rw [Nat.add_mul, Nat.mul_right_comm]; exact Nat.le_add_right _ _
    omega
  · refine Nat.lt_of_mul_lt_mul_right (a := S) ?_
    have h2 : L * S + W * B + W * Z ≤ (L + W) * S := by
      rw [Nat.add_assoc, ← Nat.mul_add, Nat.add_mul]
      exact Nat.add_le_add_left (Nat.mul_le_mul_left _ hp) _
    have h3 := Nat.mul_le_mul_right d0 h2
    rw [Nat.mul_right_comm] at h3
    omega
theorem InCut.down {z l : Nat → Int} {n m S a0 d0 : Nat} (hz : OkW z n) (hS : sumN z n = (S : Int)) (hl : ∀ i, i < m → 0 ≤ l i ∧ l i < (n : Int)) (hS0 : 0 < S) (h : InCut z l S a0 d0 m) : ∀ j, j ≤ m → InCut z l S a0 d0 (m - j)
  | 0, _ => h
  | j + 1, hj => by
    have ih := InCut.down hz hS hl hS0 h j (by omega)
    rw [show m - j = (m - (j + 1)) + 1 by omega] at ih
    exact ih.outer hz hS hl hS0 (by omega)
theorem dec_back {z l : Nat → Int} {n m S a0 d0 : Nat} (hz : OkW z n) (hS : sumN z n = (S : Int)) (hl : ∀ i, i < m → 0 ≤ l i ∧ l i < (n : Int)) (hpos : ∀ i, i < m → 0 < z (l i).toNat) (hS0 : 0 < S) (hd : 0 < d0) (h : InCut z l S a0 d0 m) : ∀ k, k ≤ m → decAD z n S a0 d0 k = (a0 * S ^ k - cutL z l S k * d0, d0 * cutW z l k) ∧ (k < m → (symK z n S a0 d0 k : Int) = l k)
  | k, hk => by
    have hin : ∀ k, k ≤ m → InCut z l S a0 d0 k := fun k hk => by
      have := InCut.down hz hS hl hS0 h (m - k) (by omega)
      rwa [show m - (m - k) = k by omega] at this
    have hsym : ∀ k, k < m → decAD z n S a0 d0 k = (a0 * S ^ k - cutL z l S k * d0, d0 * cutW z l k) → symK z n S a0 d0 k = (l k).toNat := fun k hk e => by
      obtain ⟨h0, h1⟩ := hl k hk
      obtain ⟨p1, p2, p3⟩ := part_in hz hS (s := (l k).toNat) (by omega)
      have hW := cutW_pos (z := z) (l := l) (k := k) (fun i hi => hpos i (by omega))
      have g1 := hin k (by omega)
      have g2 := hin (k + 1) (by omega)
      have a1 := g2.lo
      have a2 := g2.hi
      have a3 := g1.lo
      rw [cutL_succ, cutW_succ] at a2
      rw [cutL_succ] at a1
      have e2 : a0 * S ^ (k + 1) = a0 * S ^ k * S := by rw [Nat.pow_succ, Nat.mul_assoc]
      rw [e2] at a1 a2
      unfold symK
      rw [e]
      show symOf z n S (a0 * S ^ k - cutL z l S k * d0) (d0 * cutW z l k) = _
      have hq : (sumN z (l k).toNat).toNat ≤ (a0 * S ^ k - cutL z l S k * d0) * S / (d0 * cutW z l k) ∧ (a0 * S ^ k - cutL z l S k * d0) * S / (d0 * cutW z l k) < (sumN z (l k).toNat).toNat + (z (l k).toNat).toNat := by
        have hdw : 0 < d0 * cutW z l k := Nat.mul_pos hd hW
        rw [Nat.le_div_iff_mul_le hdw, Nat.div_lt_iff_lt_mul hdw]
        generalize (sumN z (l k).toNat).toNat = B at *
        generalize (z (l k).toNat).toNat = Z at *
        generalize cutL z l S k = L at *
        generalize cutW z l k = W at *
        generalize a0 * S ^ k = X at *
        rw [Nat.mul_sub_right_distrib]
        have e3 : L * d0 * S = L * S * d0 := Nat.mul_right_comm _ _ _
        have e4 : B * (d0 * W) = W * B * d0 := by rw [Nat.mul_comm d0, ← Nat.mul_assoc, Nat.mul_comm B]
        have e5 : (B + Z) * (d0 * W) = (W * B + W * Z) * d0 := by rw [← Nat.mul_add, Nat.mul_comm d0, ← Nat.mul_assoc, Nat.mul_comm (B + Z)]
        have e6 : (L * S + W * B + W * Z) * d0 = L * S * d0 + (W * B + W * Z) * d0 := by rw [Nat.add_assoc, Nat.add_mul]
        rw [Nat.add_mul] at a1
        rw [e6] at a2
        rw [e3, e4, e5]
        omega
      refine fstB_at (fun i hi => decide_eq_false ?_) (decide_eq_true ?_) (by omega)
      · have hm := sumN_mono (z := z) (k := i + 1) (n := (l k).toNat) (fun j hj => hz.nn j (by omega)) (by omega)
        omega
      · rw [p2]
        have := hq.2
        omega
    have hall : ∀ k, k ≤ m → decAD z n S a0 d0 k = (a0 * S ^ k - cutL z l S k * d0, d0 * cutW z l k) := fun k => by
      induction k with
      | zero => intro _; simp [decAD, cutL, cutW]
      | succ k ih =>
        intro hk
        have e := ih (by omega)
        have es := hsym k (by omega) e
        unfold symK at es
        rw [decAD, es, e]
        show ((a0 * S ^ k - cutL z l S k * d0) * S - (sumN z (l k).toNat).toNat * (d0 * cutW z l k), d0 * cutW z l k * (z (l k).toNat).toNat) = _
        rw [cutL_succ, cutW_succ, Nat.mul_assoc d0, Nat.mul_sub_right_distrib, Nat.sub_sub, Nat.pow_succ, Nat.mul_assoc a0, Nat.add_mul, Nat.mul_right_comm (cutL z l S k), Nat.mul_comm d0 (cutW z l k), ← Nat.mul_assoc (sumN z (l k).toNat).toNat, Nat.mul_comm (sumN z (l k).toNat).toNat]
    exact ⟨hall k hk, fun h' => by rw [hsym k h' (hall k hk)]; have := (hl k h').1; omega⟩
/-- All numbers that begin with the text lie in the interval. -/
theorem txt_in {z l : Nat → Int} {m S J u r e : Nat} (h : Txt (cutL z l S m) (cutW z l m) (S ^ m) J u) (hD : 0 < S ^ m) (hLW : cutL z l S m + cutW z l m ≤ S ^ m) (he : e < 2 ^ r) : InCut z l S (u * 2 ^ r + e) (2 ^ (J + r)) m := by
  obtain ⟨h1, h2, h3, _⟩ := txt_room h hD hLW
  suffices hh : cutL z l S m * 2 ^ (J + r) ≤ (u * 2 ^ r + e) * S ^ m ∧ (u * 2 ^ r + e) * S ^ m < (cutL z l S m + cutW z l m) * 2 ^ (J + r) from ⟨hh.1, hh.2⟩
  generalize cutL z l S m = L at *
  generalize cutW z l m = W at *
  constructor
  · show L * 2 ^ (J + r) ≤ _
    have := Nat.mul_le_mul_right (2 ^ r) h2
    rw [Nat.pow_add, ← Nat.mul_assoc, Nat.add_mul, Nat.mul_right_comm u]
    omega
  · show _ < (L + W) * 2 ^ (J + r)
    have a1 := Nat.mul_le_mul_right (2 ^ r) h1
    have a2 : (u * 2 ^ r + e) * S ^ m < (u + 1) * S ^ m * 2 ^ r := by
      rw [Nat.mul_right_comm]
      refine Nat.mul_lt_mul_of_pos_right ?_ hD
      rw [Nat.add_mul, Nat.one_mul]; omega
    rw [Nat.pow_add, ← Nat.mul_assoc]
    omega
/-- It is short. -/
theorem txt_short {L W D J u : Nat} (h : Txt L W D J u) (hJ : 2 ≤ J) : W * 2 ^ (J - 2) < D := by
  have h1 := h.first (J - 1) (by omega)
  have h2 := needN_le (D := D) (r := L * 2 ^ (J - 1) % D)
  generalize needN D (L * 2 ^ (J - 1) % D) = x at *
  rw [show J - 1 = (J - 2) + 1 by omega, Nat.pow_succ, ← Nat.mul_assoc] at h1
  omega
end Go.Proofs.YtjmjedpeibnnnaaDoor

/- arith.Encode of a message that has no fault; the number that its text tells. -/
namespace Go.Proofs.YtjmjedpeibnnnaaDoor
open Go.RowKit

theorem pow_room4 {S j : Nat} (hS : S ≤ 4096) (hj : j ≤ 60) : 4 * S ^ j < 18446744073709551616 ^ 12 := by
  have h1 : S ^ j ≤ 4096 ^ j := Nat.pow_le_pow_left hS j
  have h2 : 4096 ^ j ≤ 4096 ^ 60 := Nat.pow_le_pow_right (by decide) hj
  have h3 : 4 * 4096 ^ 60 < 18446744073709551616 ^ 12 := by decide
  omega
set_option maxRecDepth 100000 in
theorem Encode_ok (a : Nat → Addr) (b o cap : Nat) (vl : Value) (n m S : Nat) (z l : Nat → Int) (w : World) (hE : Errs w a) (hrw : RowAt w b o n z) (hcap : n ≤ cap) (hl : NumsAt w vl m l) (hS : sumN z n = (S : Int)) (hok : (mesE z n m l).1 = 0) (hm60 : m ≤ 60) :
    Calls Tryd.prog 18 #[.slice (some ⟨b, o, none⟩) n cap, vl] w fun e w' => ∃ J u, e = .returned (.tuple #[.string ⟨(bitsL u J).toArray⟩, .nilIface]) ∧ Txt (cutL z l S m) (cutW z l m) (S ^ m) J u ∧ J ≤ 768 ∧ Below w.heap.size w w' := by
  obtain ⟨hwe, hz, hn, hm, hli, hpos⟩ := mesE_ok hok
  have hw : NumsAt w (.slice (some ⟨b, o, none⟩) n cap) n z := Or.inr ⟨b, o, cap, rfl, hz.posN, hrw⟩
  have hC := checkMessage_any a _ vl n m z l _ hE hw hl (by omega) (by omega)
  have HS4 : Hid (0 < S ∧ S ≤ 4096) := by have h1 := hz.pos; have h2 := hz.le; rw [hS] at h1 h2; exact ⟨by omega, by omega⟩
  have HBL := Hid.mk' (cut_le hz hS hli m (Nat.le_refl _))
  have HWP : Hid (0 < cutW z l m) := cutW_pos hpos
  have HRM := Hid.mk' (pow_room4 (j := m) HS4.out.2 hm60)
  have HCUT : Hid (∀ W, Below w.heap.size w W → Calls Tryd.prog 37 #[.slice (some ⟨b, o, none⟩) n cap, vl] W fun e w' => ∃ u0 u1 u2, e = .returned (.agg #[u0, u1, u2]) ∧ NatAt w' u0 (cutL z l S m) ∧ NatAt w' u1 (cutW z l m) ∧ NatAt w' u2 (S ^ m) ∧ Below W.heap.size W w') := fun W hb => cut_any b o cap vl n m S z l W (hrw.later hb) hcap (hl.later hb) hz (by omega) hm hS hli
  generalize cutL z l S m = NL at *
  generalize cutW z l m = NW at *
  generalize S ^ m = ND at *
  clear hE hw hz hli hpos hwe hrw HS4 hl
  go_enter Tryd.func18, Tryd.ntmps18
  go_wp2_with fail
  refine hC.mono ?_
  clear hC
  rintro e w1 ⟨v, rfl, hv, hb1⟩
  obtain rfl := hv.nil0 hok
  have HB1 := Hid.mk' hb1
  clear hv hb1
  go_wp2_with fail
  refine (HCUT.out _ HB1.out).mono ?_
  rintro e w2 ⟨u0, u1, u2, rfl, hu0, hu1, hu2, hb2⟩
  have hT := text_any u0 u1 u2 NL NW ND 12 w2 hu0 hu1 hu2 (by have := HBL.out; have := HWP.out; omega) HWP.out HBL.out HRM.out (by decide)
  have HB2 := Hid.mk' (below_chain HB1.out hb2)
  clear hu0 hu1 hu2 hb2
  go_wp2_with fail
  refine hT.mono ?_
  clear hT
  rintro e w3 ⟨J, u, rfl, h1, h2, h3⟩
  go_wp2_with fail
  go_ret2
  exact ⟨J, u, rfl, h1, h2, below_chain HB2.out h3⟩

/-- What the bytes of a text tell. -/
theorem bitAt_list (x : List UInt8) (i : Nat) : bitAt ⟨x.toArray⟩ i = if x[i]? = some 48 then some 0 else if x[i]? = some 49 then some 1 else none := by
  unfold bitAt
  by_cases h : i < x.length
  · rw [dif_pos (show i < (⟨x.toArray⟩ : ByteArray).size from h)]
    have e : (⟨x.toArray⟩ : ByteArray)[i]'h = x[i]'h := rfl
    rw [e, List.getElem?_eq_getElem h]
    simp
  · rw [dif_neg (show ¬ i < (⟨x.toArray⟩ : ByteArray).size from h), List.getElem?_eq_none (by omega)]
    simp
theorem valT_app (x y : List UInt8) : ∀ k, k ≤ x.length → valT ⟨(x ++ y).toArray⟩ k = valT ⟨x.toArray⟩ k
  | 0, _ => rfl
  | k + 1, h => by
    rw [valT, valT, valT_app x y k (by omega), bitAt_list, bitAt_list, List.getElem?_append_left (by omega)]
theorem valT_behind (x y : List UInt8) : ∀ k, valT ⟨(x ++ y).toArray⟩ (x.length + k) = valT ⟨x.toArray⟩ x.length * 2 ^ k + valT ⟨y.toArray⟩ k
  | 0 => by rw [Nat.add_zero, valT_app x y _ (Nat.le_refl _)]; simp [valT]
  | k + 1 => by
    rw [← Nat.add_assoc, valT, valT_behind x y k, valT, bitAt_list, bitAt_list, List.getElem?_append_right (by omega), Nat.add_sub_cancel_left, Nat.pow_succ, ← Nat.mul_assoc]
    omega
theorem valT_bits : ∀ (d u : Nat), u < 2 ^ d → valT ⟨(bitsL u d).toArray⟩ d = u
  | 0, u, h => by simp at h; subst h; rfl
  | d + 1, u, h => by
    have hl := bitsL_length (u / 2) d
    rw [bitsL, valT]
    have h1 := valT_app (bitsL (u / 2) d) [UInt8.ofNat (48 + u % 2)] d (by omega)
    rw [h1, valT_bits d (u / 2) (by rw [Nat.pow_succ] at h; omega), bitAt_list, List.getElem?_append_right (by omega), hl, Nat.sub_self]
    rcases Nat.mod_two_eq_zero_or_one u with hu | hu
    · rw [hu]; simp; omega
    · rw [hu]; simp; omega
theorem bits_of (d u : Nat) : ∀ c ∈ bitsL u d, c = 48 ∨ c = 49 := by
  induction d generalizing u with
  | zero => intro c h; cases h
  | succ d ih =>
    intro c h
    rw [bitsL, List.mem_append] at h
    rcases h with h | h
    · exact ih _ c h
    · rw [List.mem_singleton] at h
      subst h
      rcases Nat.mod_two_eq_zero_or_one u with hu | hu
      · rw [hu]; exact Or.inl rfl
      · rw [hu]; exact Or.inr rfl
theorem bitB_bits (d u : Nat) : bitB ⟨(bitsL u d).toArray⟩ = true := by
  unfold bitB
  rw [List.all_eq_true]
  intro c hc
  rcases bits_of d u c (by simpa using hc) with rfl | rfl <;> rfl
theorem bitB_app (x : List UInt8) (t : ByteArray) (hx : bitB ⟨x.toArray⟩ = true) (ht : bitB t = true) : bitB ⟨(x ++ t.data.toList).toArray⟩ = true := by
  unfold bitB at *
  rw [List.all_eq_true] at *
  intro c hc
  rcases List.mem_append.1 (show c ∈ x ++ t.data.toList by simpa using hc) with h | h
  · exact hx c (by simpa using h)
  · exact ht c h
end Go.Proofs.YtjmjedpeibnnnaaDoor

/- The closed fact at the head of chapter 5's laws: of two even weights the message 1, 0 begins at a half. -/
namespace Go.Proofs.YtjmjedpeibnnnaaDoor
open Go.RowKit

def quZ (_ : Nat) : Int := 1
def quL (i : Nat) : Int := if i = 0 then 1 else 0
theorem qu_ok : (mesE quZ 2 2 quL).1 = 0 := by decide
theorem qu_told (a : Nat → Addr) : ivV a (cutL quZ quL 2 2) (cutW quZ quL 2) (2 ^ 2) = .tuple #[.agg #[.int .i64 1, .int .i64 2], .agg #[.int .i64 1, .int .i64 4], .nilIface] := by
  have e1 : cutL quZ quL 2 2 = 2 := by decide
  have e2 : cutW quZ quL 2 = 1 := by decide
  rw [e1, e2]
  rfl
set_option maxRecDepth 100000 in
theorem quarter_any (a : Nat → Addr) (w : World) (hE : Errs w a) :
    Calls Tryd.prog 8 #[] w fun e w' => e = .returned (.bool true) ∧ Below w.heap.size w w' := by
  have hb0 : Below w.heap.size w ((w.alloc (.cells #[.int .i64 1, .int .i64 1] 3)).alloc (.cells #[.int .i64 1, .int .i64 0] 3)) := ((Below.refl _ _).alloc (Nat.le_refl _) _).alloc (by simp) _
  have hr : RowAt ((w.alloc (.cells #[.int .i64 1, .int .i64 1] 3)).alloc (.cells #[.int .i64 1, .int .i64 0] 3)) w.heap.size 0 2 quZ := fun i hi => by
    rw [World.cell?_alloc_lt _ _ _ (by simp), World.cell?_alloc_at _ _ _ _ rfl]
    rcases (show i = 0 ∨ i = 1 by omega) with rfl | rfl <;> rfl
  have hl : NumsAt ((w.alloc (.cells #[.int .i64 1, .int .i64 1] 3)).alloc (.cells #[.int .i64 1, .int .i64 0] 3)) (.slice (some ⟨w.heap.size + 1, 0, none⟩) 2 2) 2 quL := Or.inr ⟨_, _, _, rfl, by decide, fun i hi => by
    rw [top_cell _ _ _ _ (by simp)]
    rcases (show i = 0 ∨ i = 1 by omega) with rfl | rfl <;> rfl⟩
  have hI := Interval_ok a w.heap.size 0 2 _ 2 2 2 quZ quL _ (hE.below hb0) hr (Nat.le_refl _) hl rfl qu_ok
  rw [qu_told] at hI
  have HB0 := Hid.mk' hb0
  clear hr hl hE hb0
  go_enter Tryd.func8, Tryd.ntmps8
  go_wp2_with fail
  refine hI.mono ?_
  clear hI
  rintro e w1 ⟨rfl, hb1⟩
  have HB1 := Hid.mk' (below_chain HB0.out hb1)
  clear hb1
  go_wp2_with fail
  go_ret
  exact ⟨rfl, (HB1.out.alloc HB1.out.size _).alloc (by have := HB1.out.size; simp; omega) _⟩
end Go.Proofs.YtjmjedpeibnnnaaDoor

/- Messages in the document. -/
namespace Go.Proofs.YtjmjedpeibnnnaaDoor
open Go.RowKit

set_option maxRecDepth 100000 in
set_option maxHeartbeats 1000000 in
theorem MessageFault_any (vw vl : Value) (n m : Nat) (z l : Nat → Int) (w : World) (hw : NumsAt w vw n z) (hl : NumsAt w vl m l) (hn : n ≤ 1000000) (hm : m ≤ 1000000) :
    Calls Tryd.prog 11 #[vw, vl] w fun e w' => e = .returned (.agg #[.int .i64 ((msgE z n m l).1 : Int), .int .i64 (msgE z n m l).2]) ∧ Below w.heap.size w w' := by
  obtain ⟨ad, cap, rfl, hrw⟩ := hw.rowAt
  obtain ⟨al, cl, rfl, hrl⟩ := hl.rowAt
  have hb0 : Below w.heap.size w (w.alloc (.cells #[.int .i64 0, .int .i64 0] 27)) := (Below.refl _ _).alloc (Nat.le_refl _) _
  have HRW : Hid (∀ i, i < n → ∃ b o, ad = some ⟨b, o, none⟩ ∧ (w.alloc (.cells #[.int .i64 0, .int .i64 0] 27)).cell? ⟨b, o + i, none⟩ = some (.int .i64 (z i))) := fun i hi => by
    obtain ⟨b, o, h1, h2⟩ := hrw i hi
    exact ⟨b, o, h1, by rw [hb0.cell (cell_lt h2)]; exact h2⟩
  have HRL : Hid (∀ i, i < m → ∃ b o, al = some ⟨b, o, none⟩ ∧ (w.alloc (.cells #[.int .i64 0, .int .i64 0] 27)).cell? ⟨b, o + i, none⟩ = some (.int .i64 (l i))) := fun i hi => by
    obtain ⟨b, o, h1, h2⟩ := hrl i hi
    exact ⟨b, o, h1, by rw [hb0.cell (cell_lt h2)]; exact h2⟩
  have HB0 := Hid.mk' hb0
  clear hrw hrl hw hl hb0
  have x0 : (w.alloc (.cells #[.int .i64 0, .int .i64 0] 27)).cell? ⟨w.heap.size, 0, none⟩ = some (.int .i64 0) := by simp
  have x1 : (w.alloc (.cells #[.int .i64 0, .int .i64 0] 27)).cell? ⟨w.heap.size, 1, none⟩ = some (.int .i64 0) := by simp
  have f0 : (w.alloc (.cells #[.int .i64 0, .int .i64 0] 27)).frozen? ⟨w.heap.size, 0, none⟩ = false := by simp
  have f1 : (w.alloc (.cells #[.int .i64 0, .int .i64 0] 27)).frozen? ⟨w.heap.size, 1, none⟩ = false := by simp
  have HP : Hid (∀ (c t : Int), ((((w.alloc (.cells #[.int .i64 0, .int .i64 0] 27)).setCell ⟨w.heap.size, 0, none⟩ (.int .i64 c)).setCell ⟨w.heap.size, 1, none⟩ (.int .i64 t)).cell? ⟨w.heap.size, 0, none⟩ = some (.int .i64 c) ∧ (((w.alloc (.cells #[.int .i64 0, .int .i64 0] 27)).setCell ⟨w.heap.size, 0, none⟩ (.int .i64 c)).setCell ⟨w.heap.size, 1, none⟩ (.int .i64 t)).cell? ⟨w.heap.size, 1, none⟩ = some (.int .i64 t)) ∧ Below w.heap.size w (((w.alloc (.cells #[.int .i64 0, .int .i64 0] 27)).setCell ⟨w.heap.size, 0, none⟩ (.int .i64 c)).setCell ⟨w.heap.size, 1, none⟩ (.int .i64 t))) := fun c t => by
    refine ⟨⟨?_, ?_⟩, (HB0.out.setCell (Nat.le_refl _) _).setCell (Nat.le_refl _) _⟩
    · rw [World.cell?_setCell_other _ _ _ _ (by simp)]
      exact World.cell?_setCell_same _ _ _ x0
    · exact World.cell?_setCell_same _ _ _ (u := .int .i64 0) (by rw [World.cell?_setCell_other _ _ _ _ (by simp)]; exact x1)
  by_cases h200 : 200 < m
  · have HM : Hid (msgE z n m l = (2, -1)) := by unfold msgE; rw [if_pos h200]; exact rfl
    go_enter Tryd.func11, Tryd.ntmps11
    go_wp2_with fail
    exact bodyPost_ret (v := .agg #[.int .i64 2, .int .i64 (-1)]) (by simp [results, Tryd.results11, go_sem]) rfl ⟨by rw [HM.out]; rfl, (Below.refl _ _).alloc (Nat.le_refl _) _⟩
  · have HM2 : Hid (msgE z n m l = if fstB (badS n l) m < m then (3, (fstB (badS n l) m : Int)) else if fstB (zerS z l) m < m then (4, (fstB (zerS z l) m : Int)) else (0, -1)) := by unfold msgE; rw [if_neg h200]; exact rfl
    generalize hW : w.alloc (.cells #[.int .i64 0, .int .i64 0] 27) = W at *
    go_enter Tryd.func11, Tryd.ntmps11
    go_wp2_with fail
    clear hW
    go_loopw [5, 6] (fun s t wr => ∃ i y : Nat, i ≤ m ∧ t = .int .i64 i ∧ wr = W ∧ ((s = .int .i64 (-1) ∧ Hid (∀ j, j < i → zerS z l j = false)) ∨ (s = .int .i64 (y : Int) ∧ y < i ∧ Hid (fstB (zerS z l) m = y))) ∧ Hid (∀ j, j < i → badS n l j = false)) (fun _ t _ => m - (intOf t).toNat)
    case atStart => exact ⟨0, 0, Nat.zero_le _, rfl, rfl, Or.inl ⟨rfl, fun j hj => by omega⟩, fun j hj => by omega⟩
    case round =>
      obtain ⟨i, y, hi, rfl, rfl, hs, HJ⟩ := hrel
      rcases Nat.lt_or_ge i m with h1 | h1
      · obtain ⟨b, o, rfl, hc⟩ := HRL.out i h1
        have him : (i : Int) < (m : Int) := by omega
        by_cases hb : badS n l i = true
        · have HF : Hid (msgE z n m l = (3, (i : Int))) := by rw [HM2.out, fstB_at HJ.out hb h1, if_pos h1]; exact rfl
          have hb' : l i < 0 ∨ (n : Int) ≤ l i := of_decide_eq_true hb
          clear hb
          generalize l i = x at *
          obtain ⟨⟨g0, g1⟩, g2⟩ := HP.out 3 (i : Int)
          have G0 := Hid.mk' g0
          have G1 := Hid.mk' g1
          have G2 := Hid.mk' g2
          clear g0 g1 g2
          rcases hb' with hx | hx
          · rcases hs with ⟨rfl, _⟩ | ⟨rfl, _, _⟩
            all_goals (
              go_wp2_with fail
              exact bodyPost_ret (v := .agg #[.int .i64 3, .int .i64 (i : Int)]) (by simp [results, Tryd.results11, go_sem, G0.out, G1.out]) rfl ⟨by rw [HF.out]; rfl, G2.out⟩)
          · have hx0 : ¬ x < 0 := by omega
            rcases hs with ⟨rfl, _⟩ | ⟨rfl, _, _⟩
            all_goals (
              go_wp2_with fail
              exact bodyPost_ret (v := .agg #[.int .i64 3, .int .i64 (i : Int)]) (by simp [results, Tryd.results11, go_sem, G0.out, G1.out]) rfl ⟨by rw [HF.out]; rfl, G2.out⟩)
        · have hb0 : badS n l i = false := by simpa using hb
          have HJ2 : Hid (∀ j, j < i + 1 → badS n l j = false) := fun j hj => by
            rcases Nat.lt_or_ge j i with h2 | h2
            · exact HJ.out j h2
            · obtain rfl : j = i := by omega
              exact hb0
          have hb' : ¬ (l i < 0 ∨ (n : Int) ≤ l i) := of_decide_eq_false hb0
          have HZ : Hid (zerS z l i = decide (z (l i).toNat = 0)) := rfl
          have hx0 : 0 ≤ l i := by omega
          have hx1 : l i < (n : Int) := by omega
          clear hb hb0 hb'
          obtain ⟨s, hsl⟩ : ∃ s : Nat, l i = (s : Int) := ⟨(l i).toNat, by omega⟩
          rw [hsl] at hc hx0 hx1 HZ
          clear hsl
          obtain ⟨b', o', rfl, hc'⟩ := HRW.out s (by omega)
          rw [Int.toNat_natCast] at HZ
          rcases hs with ⟨rfl, HQ⟩ | ⟨rfl, hy, HQ⟩
          · by_cases hz : z s = 0
            · have HF : Hid (fstB (zerS z l) m = i) := fstB_at HQ.out (by rw [HZ.out]; exact decide_eq_true hz) h1
              rw [hz] at hc'
              clear hz HZ
              go_wp2_with fail
              exact ⟨⟨i + 1, i, h1, by go_num, trivial, Or.inr ⟨rfl, Nat.lt_succ_self _, HF.out⟩, HJ2.out⟩, by simp [intOf]; omega⟩
            · have HK2 : Hid (∀ j, j < i + 1 → zerS z l j = false) := fun j hj => by
                rcases Nat.lt_or_ge j i with h2 | h2
                · exact HQ.out j h2
                · obtain rfl : j = i := by omega
                  rw [HZ.out]; exact decide_eq_false hz
              generalize z s = q at hc' hz
              have hyb : (q == 0) = false := by simpa using hz
              clear hz HZ
              go_wp2_with fail
              exact ⟨⟨i + 1, y, h1, by go_num, trivial, Or.inl ⟨rfl, HK2.out⟩, HJ2.out⟩, by simp [intOf]; omega⟩
          · have hyi : ¬ (y : Int) < 0 := by omega
            go_wp2_with fail
            exact ⟨⟨i + 1, y, h1, by go_num, trivial, Or.inr ⟨rfl, by omega, HQ.out⟩, HJ2.out⟩, by simp [intOf]; omega⟩
      · obtain rfl : i = m := by omega
        have HM3 : Hid (msgE z n i l = if fstB (zerS z l) i < i then (4, (fstB (zerS z l) i : Int)) else (0, -1)) := by rw [HM2.out, fstB_all HJ.out, if_neg (Nat.lt_irrefl _)]; exact rfl
        clear HM2 h1
        rcases hs with ⟨rfl, HQ⟩ | ⟨rfl, hy, HQ⟩
        · have HF : Hid (msgE z n i l = (0, -1)) := by rw [HM3.out, fstB_all HQ.out, if_neg (Nat.lt_irrefl _)]; exact rfl
          obtain ⟨⟨g0, g1⟩, g2⟩ := HP.out 0 (-1)
          have G0 := Hid.mk' g0
          have G1 := Hid.mk' g1
          have G2 := Hid.mk' g2
          clear g0 g1 g2
          go_wp2_with fail
          exact bodyPost_ret (v := .agg #[.int .i64 0, .int .i64 (-1)]) (by simp [results, Tryd.results11, go_sem, G0.out, G1.out]) rfl ⟨by rw [HF.out]; rfl, G2.out⟩
        · have HF : Hid (msgE z n i l = (4, (y : Int))) := by rw [HM3.out, HQ.out, if_pos hy]; exact rfl
          have hy0 : (0 : Int) ≤ (y : Int) := by omega
          obtain ⟨⟨g0, g1⟩, g2⟩ := HP.out 4 (y : Int)
          have G0 := Hid.mk' g0
          have G1 := Hid.mk' g1
          have G2 := Hid.mk' g2
          clear g0 g1 g2
          go_wp2_with fail
          exact bodyPost_ret (v := .agg #[.int .i64 4, .int .i64 (y : Int)]) (by simp [results, Tryd.results11, go_sem, G0.out, G1.out]) rfl ⟨by rw [HF.out]; rfl, G2.out⟩
end Go.Proofs.YtjmjedpeibnnnaaDoor

/- The law's copies of lists. -/
namespace Go.Proofs.YtjmjedpeibnnnaaDoor
open Go.RowKit

theorem append_zeroI (w : World) (ty : TypeId) (ad : Option Addr) (cap : Nat) : (Builtin.append_ #[22, 22] ty #[.slice none 0 0, .slice ad 0 cap]).run Tryd.prog w = .ok (.slice none 0 0) w := by
  obtain ⟨i, hi, hi2⟩ := Option.map_eq_some_iff.1 Tryd.infoInt
  refine run_append_nothing w _ _ ty 3 i Tryd.underlying22 hi none 0 0 (Nat.le_refl _) _ ?_
  cases ad with
  | none => exact Src.ofNil w Tryd.underlying22 cap
  | some a => exact Src.ofSlice w Tryd.underlying22 a 0 cap [] (by simp) (fun j u h => by simp at h) (fun u h => by simp at h)
theorem wpList_append_zeroI {w : World} {ops : Array Oper} {rest : List Oper} {o : Oper} {a : Act} {Q : Exit → Act → World → Prop} (hgd : o.guard = none) (s x : Operand)
    (ho : o.op = .call { callee := .builtin .append, args := #[s, x], argTypes := #[22, 22] })
    (ad : Option Addr) (cap : Nat) (hs : a.eval s = .slice none 0 0) (hx : a.eval x = .slice ad 0 cap)
    (h : wpList Tryd.prog ops Q rest (a.put o.dst (.slice none 0 0)) w) : wpList Tryd.prog ops Q (o :: rest) a w := by
  refine wpList_plain hgd fun K hK => ?_
  have hrun := append_zeroI w o.type ad cap
  unfold Oper.wp
  simp [execOp, ho, resolve, invoke, builtin, hs, hx, hrun, Result.andThen]
  exact hK _ _ h

theorem numsAt_own {w : World} {base : Nat} {v : Value} {n : Nat} {z : Nat → Int} (h : w.ownsRow base 3 1 v n (numCells z n)) : NumsAt w v n z := by
  rcases h.2 with ⟨hv, h0⟩ | ⟨g, cap, cur, hv, _⟩
  · exact Or.inl ⟨none, 0, hv, h0⟩
  · rcases Nat.eq_zero_or_pos n with h0 | h0
    · exact Or.inl ⟨_, _, by rw [hv, h0], h0⟩
    · subst hv
      exact Or.inr ⟨g, 0, cap, rfl, h0, rowAt_of_row h⟩
set_option maxRecDepth 100000 in
set_option maxHeartbeats 1000000 in
theorem ints_row (v : Value) (n : Nat) (z : Nat → Int) (w : World) (h : NumsAt w v n z) (hn : n ≤ 100000) :
    Calls Tryd.prog 13 #[v] w fun e w' => ∃ v', e = .returned v' ∧ w'.ownsRow w.heap.size 3 1 v' n (numCells z n) ∧ Below w.heap.size w w' := by
  rcases h with ⟨ad, cap, rfl, rfl⟩ | ⟨b, o, cap, rfl, h0, hr⟩
  · go_enter Tryd.func13, Tryd.ntmps13
    go_wp2_with (at_builtin; go_must (refine wpList_append_zeroI rfl _ _ rfl ad cap rfl rfl ?_))
    go_ret
    exact ⟨_, rfl, ⟨rfl, Or.inl ⟨rfl, rfl⟩⟩, Below.refl _ _⟩
  · obtain ⟨i, hi, hi2⟩ := Option.map_eq_some_iff.1 Tryd.infoInt
    obtain ⟨hz, hsz, hby⟩ : i.zero = some (.int .i64 0) ∧ i.size = 1 ∧ i.bytes = 8 := by simpa using hi2
    have HR := Hid.mk' hr
    have HI : Hid (Tryd.prog.info? 3 = some i) := hi
    have HZ : Hid (i.zero = some (.int .i64 0)) := hz
    have HS : Hid (i.size = 1) := hsz
    have HY : Hid (i.bytes = 8) := hby
    have HC : Hid (∀ u, u ∈ numCells z n → u.oneCell' = true) := fun u hu => by obtain ⟨x, rfl⟩ := numCells_ints z n u hu; rfl
    have HL : Hid ((numCells z n).length = n * 1) := by show _ = _; rw [numCells_length, Nat.mul_one]
    clear hr hi2 hi hz hsz hby
    go_enter Tryd.func13, Tryd.ntmps13
    go_wp2_with (at_builtin; go_must (refine wpList_append_lies _ rfl _ _ _ rfl w.heap.size 3 i _ 1 8 Tryd.underlying22 HI.out HZ.out HS.out HY.out rfl (by omega) (.slice none 0 0) 0 [] rfl ⟨rfl, Or.inl ⟨rfl, rfl⟩⟩ ⟨b, o, none⟩ n cap (numCells z n) rfl HL.out (fun j u hu => numCells_news HR.out j u hu) HC.out h0 (by unfold maxLen; omega) (by omega) (by simp) _ rfl ?_; intro g cap' w1 hown hgrow hat hlt; have HOWN := Hid.mk' hown; have HG := Hid.mk' hgrow; clear hown hgrow hat))
    go_ret
    exact ⟨_, rfl, by simpa using HOWN.out, (Below.refl _ _).grown HG.out (Nat.le_refl _) (fun k hk => by cases hk)⟩
theorem ints_any (v : Value) (n : Nat) (z : Nat → Int) (w : World) (h : NumsAt w v n z) (hn : n ≤ 100000) :
    Calls Tryd.prog 13 #[v] w fun e w' => ∃ v', e = .returned v' ∧ NumsAt w' v' n z ∧ Below w.heap.size w w' := by
  refine (ints_row v n z w h hn).mono ?_
  rintro e w' ⟨v', rfl, h1, h2⟩
  exact ⟨v', rfl, numsAt_own h1, h2⟩
end Go.Proofs.YtjmjedpeibnnnaaDoor

/- The document's SameInts at equal ones. -/
namespace Go.Proofs.YtjmjedpeibnnnaaDoor
open Go.RowKit

set_option maxRecDepth 100000 in
set_option maxHeartbeats 1000000 in
theorem SameInts_any (v u : Value) (n : Nat) (z : Nat → Int) (w : World) (h : NumsAt w v n z) (k : NumsAt w u n z) (hn : n ≤ 1000000) :
    Calls Tryd.prog 21 #[v, u] w fun e w' => e = .returned (.bool true) ∧ Below w.heap.size w w' := by
  rcases h with ⟨ad, cap, rfl, rfl⟩ | ⟨b, o, cap, rfl, h0, hr⟩
  · obtain ⟨ad', cap', rfl⟩ := k.form
    clear k
    go_enter Tryd.func21, Tryd.ntmps21
    go_wp2_with fail
    refine wp_loop_rounds 1 ?_
    rw [rounds_succ]
    go_wp2_with fail
    go_ret
    exact ⟨rfl, Below.refl _ _⟩
  · rcases k with ⟨_, _, _, h1⟩ | ⟨b', o', cap', rfl, _, kr⟩
    · omega
    · have HR := Hid.mk' hr
      have HK := Hid.mk' kr
      clear hr kr
      go_enter Tryd.func21, Tryd.ntmps21
      go_wp2_with fail
      go_loopw [5] (fun i wr => ∃ k : Nat, k ≤ n ∧ i = .int .i64 k ∧ Hid (Below w.heap.size w wr)) (fun i _ => n - (intOf i).toNat)
      case atStart => exact ⟨0, Nat.zero_le _, rfl, Below.refl _ _⟩
      case round =>
        obtain ⟨k, hk, rfl, HB⟩ := hrel
        rcases Nat.lt_or_ge k n with h1 | h1
        · have hc := (HR.out.later HB.out) k h1
          have hd := (HK.out.later HB.out) k h1
          have hkn : (k : Int) < (n : Int) := by omega
          go_wp2_with fail
          go_region
          all_goals
            go_wp2_with fail
            exact ⟨⟨k + 1, h1, by go_num, HB.out.drew⟩, by simp [intOf]; omega⟩
        · obtain rfl : k = n := by omega
          go_wp2_with fail
          go_ret
          exact ⟨rfl, HB.out⟩
end Go.Proofs.YtjmjedpeibnnnaaDoor

/- The law ArithBack. -/
namespace Go.Proofs.YtjmjedpeibnnnaaDoor
open Go.RowKit

theorem ints_full' (v : Value) (n : Nat) (z : Nat → Int) (w : World) (h : NumsAt w v n z) (hn : n ≤ 100000) :
    Calls Tryd.prog 13 #[v] w fun e w' => ∃ v', e = .returned v' ∧ NumsAt w' v' n z ∧ (0 < n → ∃ b o cap, v' = .slice (some ⟨b, o, none⟩) n cap ∧ n ≤ cap ∧ RowAt w' b o n z) ∧ Below w.heap.size w w' := by
  refine (ints_row v n z w h hn).mono ?_
  rintro e w' ⟨v', rfl, h1, h2⟩
  refine ⟨v', rfl, numsAt_own h1, fun h0 => ?_, h2⟩
  rcases h1.2 with ⟨hv, h3⟩ | ⟨g, cap, cur, hv, _, _, hc, _⟩
  · omega
  · subst hv
    exact ⟨g, 0, cap, rfl, hc, rowAt_of_row h1⟩
theorem string_app (x : List UInt8) (t : ByteArray) : (⟨x.toArray⟩ : ByteArray) ++ t = ⟨(x ++ t.data.toList).toArray⟩ := by
  apply ByteArray.ext
  simp
/-- Both texts are decoded to the message. -/
theorem back_one {z l : Nat → Int} {n m S J u : Nat} (hz : OkW z n) (hS : sumN z n = (S : Int)) (hl : ∀ i, i < m → 0 ≤ l i ∧ l i < (n : Int)) (hpos : ∀ i, i < m → 0 < z (l i).toNat) (h : Txt (cutL z l S m) (cutW z l m) (S ^ m) J u) (t : ByteArray) (k : Nat) (hk : k < m) :
    (symK z n S (valT (⟨(bitsL u J).toArray⟩ ++ t) (J + t.size)) (2 ^ (J + t.size)) k : Int) = l k := by
  have hS0 : 0 < S := by have := hz.pos; rw [hS] at this; omega
  have hD : 0 < S ^ m := Nat.pow_pos hS0
  have hLW := cut_le hz hS hl m (Nat.le_refl _)
  obtain ⟨_, _, hu, _⟩ := txt_room h hD hLW
  have e : valT (⟨(bitsL u J).toArray⟩ ++ t) (J + t.size) = u * 2 ^ t.size + valT t t.size := by
    have h1 := valT_behind (bitsL u J) t.data.toList t.size
    rw [bitsL_length, valT_bits J u hu] at h1
    rw [string_app, h1]
  rw [e]
  exact (dec_back hz hS hl hpos hS0 (Nat.two_pow_pos _) (txt_in h hD hLW (valT_lt _)) k (by omega)).2 hk
theorem pow_big {S j : Nat} (hS : S ≤ 4096) (hj : j ≤ 60) : S ^ j < 1000000 ^ 40 :=
  Nat.lt_of_le_of_lt (Nat.pow_le_pow_left hS j) (Nat.lt_of_le_of_lt (Nat.pow_le_pow_right (by decide) hj) (by decide))
theorem app_none (t : ByteArray) : t ++ (⟨#[]⟩ : ByteArray) = t := by
  apply ByteArray.ext
  simp
set_option maxRecDepth 100000 in
set_option maxHeartbeats 8000000 in
theorem ArithBack_all (a : Nat → Addr) (ad : Option Addr) (n cap : Nat) (z : Nat → Int) (ad' : Option Addr) (m cap' : Nat) (l : Nat → Int) (t : ByteArray) (w : World) (hE : Errs w a) (h : NumsAt w (.slice ad n cap) n z) (hn : n ≤ maxLen) (h' : NumsAt w (.slice ad' m cap') m l) (hm : m ≤ maxLen) (ht : t.size ≤ maxLen) :
    Calls Tryd.prog 5 #[.slice ad n cap, .slice ad' m cap', .string t] w fun e w' => e = .returned (.bool true) ∧ Below w.heap.size w w' := by
  have hQ := quarter_any a w hE
  unfold maxLen at hn hm ht
  have hfd : ∀ (c1 c2 : Int) (W : World), (Instr.field 27 (.agg #[.int .i64 c1, .int .i64 c2]) 0).run Tryd.prog W = .ok (.int .i64 c1) W := fun _ _ _ => by kernel_rfl
  by_cases h1 : n ≤ 16
  · have h1I : ¬ (16 : Int) < (n : Int) := by omega
    have HWE := Hid.mk' (fun (W : World) (hb : Below w.heap.size w W) => WeightsError_any _ n z W (h.later hb) (by omega))
    by_cases h2 : weightsErr z n = 0
    · have HW0 := Hid.mk' h2
      by_cases h3 : m ≤ 60
      · have h3I : ¬ (60 : Int) < (m : Int) := by omega
        have HMF := Hid.mk' (fun (W : World) (hb : Below w.heap.size w W) => MessageFault_any _ _ n m z l W (h.later hb) (h'.later hb) (by omega) (by omega))
        by_cases h4 : (msgE z n m l).1 = 0
        · have h4I : ¬ (0 : Int) < ((msgE z n m l).1 : Int) := by omega
          have HME := Hid.mk' h4
          by_cases h5 : t.size ≤ 30
          · have h5I : ¬ (30 : Int) < (t.size : Int) := by omega
            have HDB := Hid.mk' (fun (W : World) => DocBits_any t W (by omega))
            cases hbt : bitB t with
            | false =>
              rw [hbt] at HDB
              clear hbt hE h h' h4 h2
              generalize (msgE z n m l).1 = c1 at *
              generalize (msgE z n m l).2 = c2 at *
              go_enter Tryd.func5, Tryd.ntmps5
              go_wp2_with fail
              refine hQ.mono ?_
              clear hQ
              rintro e w1 ⟨rfl, hb1⟩
              have HB1 := Hid.mk' hb1
              clear hb1
              go_wp2_with fail
              refine (HWE.out _ HB1.out).mono ?_
              rintro e w2 ⟨rfl, hw2⟩
              rw [hw2, HW0.out]
              clear hw2 w2
              go_wp2_with fail
              refine (HMF.out _ HB1.out).mono ?_
              rintro e w3 ⟨rfl, hb3⟩
              have HB3 := Hid.mk' (below_chain HB1.out hb3)
              clear hb3
              go_wp2_with fail
              refine (HDB.out _).mono ?_
              rintro e w4 ⟨rfl, hb4⟩
              have HB4 := Hid.mk' (below_chain HB3.out hb4)
              clear hb4
              go_wp2_with fail
              go_ret
              exact ⟨rfl, HB4.out⟩
            | true =>
              rw [hbt] at HDB
              have HBT := Hid.mk' hbt
              have hc : (mesE z n m l).1 = 0 := by unfold mesE; rw [if_pos h2]; exact h4
              have HOK := Hid.mk' (mesE_ok hc)
              have hne : 0 < n := HOK.out.2.1.posN
              obtain ⟨S, hS⟩ : ∃ S : Nat, sumN z n = (S : Int) := ⟨(sumN z n).toNat, by have := HOK.out.2.1.pos; omega⟩
              have HS := Hid.mk' hS
              have HSP : Hid (0 < S ∧ S ≤ 4096) := by have h1 := HOK.out.2.1.pos; have h2 := HOK.out.2.1.le; rw [hS] at h1 h2; exact ⟨by omega, by omega⟩
              obtain ⟨bw, ow, cw, hvw, hroww⟩ := h.cellAt hne
              have hcw : cw = cap ∧ ad = some ⟨bw, ow, none⟩ := by simp at hvw; exact ⟨hvw.2.symm, hvw.1⟩
              obtain ⟨rfl, rfl⟩ := hcw
              clear hvw
              have HROW := Hid.mk' hroww
              have HNL := Hid.mk' h'
              have HIW := Hid.mk' (fun (W : World) (hb : Below w.heap.size w W) => ints_full' _ n z W (h.later hb) (by omega))
              have HIL := Hid.mk' (fun (W : World) (hb : Below w.heap.size w W) => ints_full' _ m l W (h'.later hb) (by omega))
              have HEN := Hid.mk' (fun (W : World) (b o c : Nat) (vl : Value) (hb : Below w.heap.size w W) (hr : RowAt W b o n z) (hc' : n ≤ c) (hl : NumsAt W vl m l) => Encode_ok a b o c vl n m S z l W (hE.below hb) hr hc' hl hS hc h3)
              have HDE := Hid.mk' (fun (W : World) (b o c : Nat) (x : ByteArray) (hb : Below w.heap.size w W) (hr : RowAt W b o n z) (hx : x.size ≤ 4000) (hxb : bitB x = true) => Decode_ok a b o c n S m x z W (hE.below hb) hr h2 hS (by omega) hx hxb)
              have HSI := Hid.mk' (fun (W : World) (v : Value) (hb : Below w.heap.size w W) (hv : NumsAt W v m l) => SameInts_any v _ m l W hv (h'.later hb) (by omega))
              have HSU := Hid.mk' (fun (W : World) (hb : Below w.heap.size w W) => Sum_some bw ow cw n z W (hroww.later hb) (fun k hk => by have := HOK.out.2.1.part (k := k) hk; omega) (fun i hi => by have := HOK.out.2.1.lt (i := i) hi; omega) (by omega))
              rw [hS] at HSU
              clear hE h h' h4 h2 hbt hroww hc hS
              generalize (msgE z n m l).1 = c1 at *
              generalize (msgE z n m l).2 = c2 at *
              go_enter Tryd.func5, Tryd.ntmps5
              go_wp2_with fail
              refine hQ.mono ?_
              clear hQ
              rintro e w1 ⟨rfl, hb1⟩
              have HB1 := Hid.mk' hb1
              clear hb1
              go_wp2_with fail
              refine (HWE.out _ HB1.out).mono ?_
              rintro e w2 ⟨rfl, hw2⟩
              rw [hw2, HW0.out]
              clear hw2 w2
              go_wp2_with fail
              refine (HMF.out _ HB1.out).mono ?_
              rintro e w3 ⟨rfl, hb3⟩
              have HB3 := Hid.mk' (below_chain HB1.out hb3)
              clear hb3
              go_wp2_with fail
              refine (HDB.out _).mono ?_
              rintro e w4 ⟨rfl, hb4⟩
              have HB := Hid.mk' (below_chain HB3.out hb4)
              clear hb4 h1I h3I h4I h5I HB1 HB3
              go_wp2_with fail
              refine (HIW.out _ HB.out).mono ?_
              rintro e w5 ⟨v5, rfl, hv5, hr5, hb5⟩
              obtain ⟨b5, o5, cap5, rfl, hc5, hrow5⟩ := hr5 hne
              have HB := Hid.mk' (below_chain HB.out hb5)
              have HV5 := Hid.mk' hrow5
              clear hv5 hr5 hb5 hrow5
              go_wp2_with fail
              refine (HIL.out _ HB.out).mono ?_
              rintro e w6 ⟨v6, rfl, hv6, _, hb6⟩
              have HB := Hid.mk' (below_chain HB.out hb6)
              have HV5 := Hid.mk' (HV5.out.later hb6)
              obtain ⟨ad6, cap6, rfl⟩ := hv6.form
              have HV6 := Hid.mk' hv6
              clear hv6 hb6
              go_wp2_with fail
              refine (HEN.out _ _ _ _ _ HB.out HV5.out hc5 HV6.out).mono ?_
              rintro e w7 ⟨J, u, rfl, hT, hJ, hb7⟩
              have HB := Hid.mk' (below_chain HB.out hb7)
              have HBK := Hid.mk' (back_one HOK.out.2.1 HS.out HOK.out.2.2.2.2.1 HOK.out.2.2.2.2.2 hT)
              have HSH := Hid.mk' (fun (hJ2 : 2 ≤ J) => txt_short hT hJ2)
              have HSB := Hid.mk' (bitB_bits J u)
              have HSA : Hid (bitB (⟨(bitsL u J).toArray⟩ ++ t) = true) := by show _ = _; rw [string_app]; exact bitB_app _ t (bitB_bits J u) HBT.out
              have hsz : (⟨(bitsL u J).toArray⟩ : ByteArray).size = J := by show (bitsL u J).toArray.size = J; simp [bitsL_length]
              clear hb7 HV5 HV6 hc5 hT
              generalize (⟨(bitsL u J).toArray⟩ : ByteArray) = T at *
              have hszI : (T.size : Int) = (J : Int) := by rw [hsz]
              have HSZ := Hid.mk' hsz
              clear hsz
              go_wp2_with fail
              refine (HIW.out _ HB.out).mono ?_
              rintro e w8 ⟨v8, rfl, _, hr8, hb8⟩
              obtain ⟨b8, o8, cap8, rfl, _, hrow8⟩ := hr8 hne
              have HB := Hid.mk' (below_chain HB.out hb8)
              have HV8 := Hid.mk' hrow8
              clear hr8 hb8 hrow8
              go_wp2_with fail
              refine (HDE.out _ _ _ _ T HB.out HV8.out (by rw [HSZ.out]; omega) HSB.out).mono ?_
              rintro e w9 ⟨v9, rfl, hv9, hb9⟩
              have HB := Hid.mk' (below_chain HB.out hb9)
              have HV9 : Hid (NumsAt w9 v9 m l) := hv9.congr fun k hk => by
                have := HBK.out ⟨#[]⟩ k hk
                rw [app_none] at this
                rw [HSZ.out]
                exact this
              clear hv9 hb9 HV8
              go_wp2_with fail
              refine (HIW.out _ HB.out).mono ?_
              rintro e w10 ⟨v10, rfl, _, hr10, hb10⟩
              obtain ⟨b10, o10, cap10, rfl, _, hrow10⟩ := hr10 hne
              have HB := Hid.mk' (below_chain HB.out hb10)
              have HV9 := Hid.mk' (HV9.out.later hb10)
              have HV10 := Hid.mk' hrow10
              clear hr10 hb10 hrow10
              have HSZ2 : Hid ((T ++ t).size = J + t.size) := by show _ = _; rw [ByteArray.size_append, HSZ.out]
              go_wp2_with fail
              refine (HDE.out _ _ _ _ (T ++ t) HB.out HV10.out (by rw [HSZ2.out]; omega) HSA.out).mono ?_
              rintro e w11 ⟨v11, rfl, hv11, hb11⟩
              have HB := Hid.mk' (below_chain HB.out hb11)
              have HV9 := Hid.mk' (HV9.out.later hb11)
              have HV11 : Hid (NumsAt w11 v11 m l) := hv11.congr fun k hk => by
                rw [HSZ2.out]
                exact HBK.out t k hk
              clear hv11 hb11 HV10
              go_wp2_with fail
              refine (HSI.out _ _ HB.out HV9.out).mono ?_
              rintro e w12 ⟨rfl, hb12⟩
              have HB := Hid.mk' (below_chain HB.out hb12)
              have HV11 := Hid.mk' (HV11.out.later hb12)
              clear hb12
              go_wp2_with fail
              refine (HSI.out _ _ HB.out HV11.out).mono ?_
              rintro e w13 ⟨rfl, hb13⟩
              have HB := Hid.mk' (below_chain HB.out hb13)
              clear hb13
              go_wp2_with fail
              have HPW : Hid (∀ k, k ≤ m → S ^ k < 1000000 ^ 40) := fun k hk => pow_big HSP.out.2 (by omega)
              have HCL : Hid (∀ k, k ≤ m → cutW z l k ≤ S ^ k) := fun k hk => by have := cut_le HOK.out.2.1 HS.out HOK.out.2.2.2.2.1 k hk; omega
              have hS40 : S < 1000000 ^ 40 := Nat.lt_of_le_of_lt HSP.out.2 (by decide)
              refine (BigOf_any 1 w13 (by decide)).mono ?_
              rintro e w14 ⟨v14, rfl, hv14, hb14⟩
              have HB := Hid.mk' (below_chain HB.out hb14)
              have HU := Hid.mk' hv14
              clear hv14 hb14
              go_wp2_with fail
              refine (BigOf_any 1 w14 (by decide)).mono ?_
              rintro e w15 ⟨v15, rfl, hv15, hb15⟩
              have HB := Hid.mk' (below_chain HB.out hb15)
              have HU := Hid.mk' (HU.out.later hb15)
              have HDN := Hid.mk' hv15
              clear hv15 hb15 HV9 HV11
              go_wp2_with fail
              go_loopw [14, 15, 16] (fun p q i wr => ∃ k : Nat, k ≤ m ∧ i = .int .i64 (k : Int) ∧ Hid (BigAt wr p (S ^ k)) ∧ Hid (BigAt wr q (cutW z l k)) ∧ Hid (Below w.heap.size w wr)) (fun _ _ i _ => m - (intOf i).toNat)
              case atStart => exact ⟨0, Nat.zero_le _, rfl, HU, HDN, HB⟩
              case round =>
                clear HU HDN HB
                obtain ⟨k, hk, rfl, HU, HDN, HB⟩ := hrel
                have hk0 : (0 : Int) ≤ (k : Int) := by omega
                rcases Nat.lt_or_ge k m with hkm | hkm
                · have hkI : (k : Int) < (m : Int) := by omega
                  go_wp2_with fail
                  refine (HSU.out _ HB.out).mono ?_
                  rintro e x1 ⟨rfl, hx1⟩
                  rw [hx1]
                  clear hx1 x1
                  go_wp2_with fail
                  refine (BigOf_any S wr (by have := HSP.out; omega)).mono ?_
                  rintro e x2 ⟨y2, rfl, hy2, hb2⟩
                  have HB2 := Hid.mk' (below_chain HB.out hb2)
                  have HU2 := Hid.mk' (HU.out.later hb2)
                  have HD2 := Hid.mk' (HDN.out.later hb2)
                  have HY2 := Hid.mk' hy2
                  clear hy2 hb2 HU HDN HB
                  go_wp2_with fail
                  refine (BigMul_any u14 y2 (S ^ k) S 40 x2 HU2.out HY2.out (HPW.out k hk) hS40 (by decide)).mono ?_
                  rintro e x3 ⟨y3, rfl, hy3, hb3⟩
                  have HB3 := Hid.mk' (below_chain HB2.out hb3)
                  have HU3 : Hid (BigAt x3 y3 (S ^ (k + 1))) := by show BigAt _ _ _; rw [Nat.pow_succ]; exact hy3
                  have HD3 := Hid.mk' (HD2.out.later hb3)
                  clear hy3 hb3 HU2 HD2 HB2 HY2
                  obtain ⟨b', o', c', hv', hrow'⟩ := HNL.out.cellAt (by omega)
                  obtain ⟨hl0, hl1⟩ := HOK.out.2.2.2.2.1 k hkm
                  have hz0 := HOK.out.2.2.2.2.2 k hkm
                  obtain ⟨s, hs⟩ : ∃ s : Nat, l k = (s : Int) := ⟨(l k).toNat, by omega⟩
                  rw [hs, Int.toNat_natCast] at hz0
                  obtain ⟨Z, hZ⟩ : ∃ Z : Nat, z s = (Z : Int) := ⟨(z s).toNat, by omega⟩
                  have hsn : s < n := by omega
                  have hZ4 := HOK.out.2.1.lt hsn
                  rw [hZ] at hZ4
                  have e1 := (hrow'.later HB3.out) k hkm
                  have e2 := (HROW.out.later HB3.out) s hsn
                  rw [hs] at e1
                  rw [hZ] at e2
                  have HCW : Hid (cutW z l (k + 1) = cutW z l k * Z) := by show _ = _; rw [cutW_succ, hs, Int.toNat_natCast, hZ, Int.toNat_natCast]
                  have hcw : c' = cap' ∧ ad' = some ⟨b', o', none⟩ := by simp at hv'; exact ⟨hv'.2.symm, hv'.1⟩
                  obtain ⟨rfl, rfl⟩ := hcw
                  have hs0 : (0 : Int) ≤ (s : Int) := by omega
                  have hsI : (s : Int) < (n : Int) := by omega
                  have HZ4 : Hid (Z ≤ 4096) := by show _ ≤ _; omega
                  clear hv' hrow' hl0 hl1 hz0 hs hZ hZ4 hsn
                  go_wp2_with fail
                  refine (BigOf_any Z x3 (by have := HZ4.out; omega)).mono ?_
                  rintro e x4 ⟨y4, rfl, hy4, hb4⟩
                  have HB4 := Hid.mk' (below_chain HB3.out hb4)
                  have HU4 := Hid.mk' (HU3.out.later hb4)
                  have HD4 := Hid.mk' (HD3.out.later hb4)
                  have HY4 := Hid.mk' hy4
                  clear hy4 hb4 HU3 HD3 HB3 e1 e2
                  go_wp2_with fail
                  refine (BigMul_any u15 y4 (cutW z l k) Z 40 x4 HD4.out HY4.out (Nat.lt_of_le_of_lt (HCL.out k hk) (HPW.out k hk)) (Nat.lt_of_le_of_lt HZ4.out (by decide)) (by decide)).mono ?_
                  rintro e x5 ⟨y5, rfl, hy5, hb5⟩
                  have HB5 := Hid.mk' (below_chain HB4.out hb5)
                  have HU5 := Hid.mk' (HU4.out.later hb5)
                  have HD5 : Hid (BigAt x5 y5 (cutW z l (k + 1))) := by show BigAt _ _ _; rw [HCW.out]; exact hy5
                  clear hy5 hb5 HU4 HD4 HB4 HY4
                  go_wp2_with fail
                  exact ⟨⟨k + 1, hkm, by go_num, HU5, HD5, HB5⟩, by simp [intOf]; omega⟩
                · have hkI : ¬ (k : Int) < (m : Int) := by omega
                  obtain rfl : k = m := by omega
                  have HW1 := Hid.mk' (HCL.out k hk)
                  have HP1 := Hid.mk' (HPW.out k hk)
                  go_wp2_with fail
                  generalize cutW z l k = NW at *
                  generalize S ^ k = ND at *
                  obtain ⟨W9, hW9⟩ : ∃ W9, W9 = wr := ⟨_, rfl⟩
                  rw [← hW9] at HU HDN HB ⊢
                  clear hW9
                  go_loopw [15, 17] (fun q i wr => ∃ j : Nat, (j = 0 ∨ 2 + j ≤ J) ∧ i = .int .i64 ((2 + j : Nat) : Int) ∧ Hid (BigAt wr q (NW * 2 ^ j)) ∧ Hid (Below W9.heap.size W9 wr)) (fun _ i _ => J - (intOf i).toNat)
                  case atStart => exact ⟨0, Or.inl rfl, rfl, by show BigAt _ _ _; rw [Nat.pow_zero, Nat.mul_one]; exact HDN.out, Below.refl _ _⟩
                  case round =>
                    clear HDN
                    obtain ⟨j, hj, rfl, HDN, HBJ⟩ := hrel
                    have HSM : Hid (2 ≤ J → NW * 2 ^ j < ND) := fun h2 => by
                      have h3 := HSH.out h2
                      have h4 : 2 ^ j ≤ 2 ^ (J - 2) := Nat.pow_le_pow_right (by decide) (by omega)
                      exact Nat.lt_of_le_of_lt (Nat.mul_le_mul_left _ h4) h3
                    have hj0 : (0 : Int) ≤ ((2 + j : Nat) : Int) := by omega
                    rcases Nat.lt_or_ge (2 + j) J with hjJ | hjJ
                    · have hjI : ((2 + j : Nat) : Int) < (T.size : Int) := by omega
                      have HMU := Hid.mk' (fun (W : World) (y : Value) (h1 : BigAt W u15 (NW * 2 ^ j)) (h2 : BigAt W y 2) => BigMul_any u15 y (NW * 2 ^ j) 2 40 W h1 h2 (Nat.lt_trans (HSM.out (by omega)) HP1.out) (by decide) (by decide))
                      have HJJ : Hid (2 + j < J ∧ J ≤ 768) := ⟨hjJ, hJ⟩
                      have HHJ := Hid.mk' hj
                      clear hj hjJ
                      generalize hq : (2 + j : Nat) = q at *
                      have HQ := Hid.mk' hq
                      clear hq
                      go_wp2_with fail
                      refine (BigOf_any 2 wr (by decide)).mono ?_
                      rintro e x1 ⟨y1, rfl, hy1, hb1⟩
                      have HB1 := Hid.mk' (below_chain HBJ.out hb1)
                      have HD1 := Hid.mk' (HDN.out.later hb1)
                      have HY1 := Hid.mk' hy1
                      clear hy1 hb1
                      go_wp2_with fail
                      refine (HMU.out _ _ HD1.out HY1.out).mono ?_
                      rintro e x2 ⟨y2, rfl, hy2, hb2⟩
                      have HB2 := Hid.mk' (below_chain HB1.out hb2)
                      have HD2 : Hid (BigAt x2 y2 (NW * 2 ^ (j + 1))) := by show BigAt _ _ _; rw [Nat.pow_succ, ← Nat.mul_assoc]; exact hy2
                      clear hy2 hb2 HB1 HD1 HY1
                      go_wp2_with fail
                      have hq1 := HQ.out
                      have hq2 := HJJ.out
                      exact ⟨⟨j + 1, Or.inr (by omega), by go_num, HD2, HB2⟩, by simp [intOf]; omega⟩
                    · have hjI : ¬ ((2 + j : Nat) : Int) < (T.size : Int) := by omega
                      rcases Nat.lt_or_ge J 2 with hJ2 | hJ2
                      · have hJI : (T.size : Int) < 2 := by omega
                        generalize (2 + j : Nat) = q at *
                        go_wp2_with fail
                        go_ret
                        exact ⟨rfl, below_chain HB.out HBJ.out⟩
                      · have hJI : ¬ (T.size : Int) < 2 := by omega
                        have hcmp := BigCmp_any u15 u14 (NW * 2 ^ j) ND 40 wr HDN.out (HU.out.later HBJ.out) (Nat.lt_trans (HSM.out hJ2) HP1.out) HP1.out (by decide)
                        have hc : cmpOf (NW * 2 ^ j) ND = -1 := by unfold cmpOf; rw [if_pos (HSM.out hJ2)]
                        rw [hc] at hcmp
                        clear hc
                        generalize (2 + j : Nat) = q at *
                        go_wp2_with fail
                        refine hcmp.mono ?_
                        clear hcmp
                        rintro e x1 ⟨rfl, c, hx1⟩
                        rw [hx1]
                        clear hx1
                        go_wp2_with fail
                        go_ret
                        exact ⟨rfl, below_drewN (below_chain HB.out HBJ.out) _⟩
          · have h5I : (30 : Int) < (t.size : Int) := by omega
            clear hE h h' h4 h2
            generalize (msgE z n m l).1 = c1 at *
            generalize (msgE z n m l).2 = c2 at *
            go_enter Tryd.func5, Tryd.ntmps5
            go_wp2_with fail
            refine hQ.mono ?_
            clear hQ
            rintro e w1 ⟨rfl, hb1⟩
            have HB1 := Hid.mk' hb1
            clear hb1
            go_wp2_with fail
            refine (HWE.out _ HB1.out).mono ?_
            rintro e w2 ⟨rfl, hw2⟩
            rw [hw2, HW0.out]
            clear hw2 w2
            go_wp2_with fail
            refine (HMF.out _ HB1.out).mono ?_
            rintro e w3 ⟨rfl, hb3⟩
            have HB3 := Hid.mk' (below_chain HB1.out hb3)
            clear hb3
            go_wp2_with fail
            go_ret
            exact ⟨rfl, HB3.out⟩
        · have h4I : (0 : Int) < ((msgE z n m l).1 : Int) := by omega
          clear hE h h' h4 h2
          generalize (msgE z n m l).1 = c1 at *
          generalize (msgE z n m l).2 = c2 at *
          go_enter Tryd.func5, Tryd.ntmps5
          go_wp2_with fail
          refine hQ.mono ?_
          clear hQ
          rintro e w1 ⟨rfl, hb1⟩
          have HB1 := Hid.mk' hb1
          clear hb1
          go_wp2_with fail
          refine (HWE.out _ HB1.out).mono ?_
          rintro e w2 ⟨rfl, hw2⟩
          rw [hw2, HW0.out]
          clear hw2 w2
          go_wp2_with fail
          refine (HMF.out _ HB1.out).mono ?_
          rintro e w3 ⟨rfl, hb3⟩
          have HB3 := Hid.mk' (below_chain HB1.out hb3)
          clear hb3
          go_wp2_with fail
          go_ret
          exact ⟨rfl, HB3.out⟩
      · have h3I : (60 : Int) < (m : Int) := by omega
        clear hE h h' h2
        go_enter Tryd.func5, Tryd.ntmps5
        go_wp2_with fail
        refine hQ.mono ?_
        clear hQ
        rintro e w1 ⟨rfl, hb1⟩
        have HB1 := Hid.mk' hb1
        clear hb1
        go_wp2_with fail
        refine (HWE.out _ HB1.out).mono ?_
        rintro e w2 ⟨rfl, hw2⟩
        rw [hw2, HW0.out]
        clear hw2 w2
        go_wp2_with fail
        go_ret
        exact ⟨rfl, HB1.out⟩
    · have h2I : (0 : Int) < (weightsErr z n : Int) := by omega
      clear hE h h' h2
      generalize weightsErr z n = c1 at *
      go_enter Tryd.func5, Tryd.ntmps5
      go_wp2_with fail
      refine hQ.mono ?_
      clear hQ
      rintro e w1 ⟨rfl, hb1⟩
      have HB1 := Hid.mk' hb1
      clear hb1
      go_wp2_with fail
      refine (HWE.out _ HB1.out).mono ?_
      rintro e w2 ⟨rfl, hw2⟩
      rw [hw2]
      clear hw2 w2
      go_wp2_with fail
      go_ret
      exact ⟨rfl, HB1.out⟩
  · have h1I : (16 : Int) < (n : Int) := by omega
    clear hE h h'
    go_enter Tryd.func5, Tryd.ntmps5
    go_wp2_with fail
    refine hQ.mono ?_
    clear hQ
    rintro e w1 ⟨rfl, hb1⟩
    have HB1 := Hid.mk' hb1
    clear hb1
    go_wp2_with fail
    go_ret
    exact ⟨rfl, HB1.out⟩
end Go.Proofs.YtjmjedpeibnnnaaDoor

/- What the rows' condition on package variables gives a walk: four sentinels with their texts; the tables of unicode/utf8 are listed besides. -/
namespace Go.Proofs.YtjmjedpeibnnnaaDoor
open Go.ChangeShapes Go.WideShapes Go.RowKit

theorem Tryd.own : ownKnob Tryd.prog.godebug = none := by kernel_rfl
theorem Tryd.star : ("*" ++ "errors.errorString" : String) = "*errors.errorString" := by decide
theorem Tryd.rowE (u : TypeId) (h : Tryd.prog.typeName? 3 u = some "*errors.errorString") : u = 216 :=
  typeName_ptr_named (nm := "errors.errorString") (by rw [Tryd.star]; kernel_rfl) (by kernel_rfl) (by decide) u (by rw [Tryd.star]; exact h)
theorem Tryd.cellsE : Tryd.prog.cellsOf 234 = 1 := by kernel_rfl
theorem Tryd.cellsS : Tryd.prog.cellsOf 9 = 1 := by kernel_rfl
theorem Tryd.g0 : Tryd.prog.globalNamed "demon/api.ErrText" = some 1 := by kernel_rfl
theorem Tryd.g1 : Tryd.prog.globalNamed "demon/api.ErrBound" = some 0 := by kernel_rfl
theorem Tryd.g2 : Tryd.prog.globalNamed "demon/api.ErrShape" = some 2 := by kernel_rfl
theorem Tryd.g3 : Tryd.prog.globalNamed "demon/api.ErrZero" = some 3 := by kernel_rfl

/-- Any number of listed sentinels of one type: each one's pointer, text and row; no two are one. -/
theorem laid_list {P : Program} {W : World} {nm : String} {ti tp te ts : TypeId} {ms : Array (String × TypeId)} {f : Field}
    (hi : P.underlying ti = some (.interface ms)) (hrow : ∀ u, P.typeName? 3 u = some nm → u = tp)
    (hp : P.underlying tp = some (.pointer te)) (he : P.underlying te = some (.struct #[f])) (hft : f.type = ts) (hfo : f.offset = 0) (hs : P.underlying ts = some .string) (hc : P.cellsOf te = 1) (hcs : P.cellsOf ts = 1) :
    ∀ (L : List (String × List UInt8)) (ps : List MemPlace), (∀ x, x ∈ L → ∃ g, P.globalNamed x.1 = some g ∧ (P.globals[g]?).map (·.type) = some ti) →
      DataW.LaidVars P W (L.map fun x => (x.1, .iface nm (.ptr (.agg [.lit (.string x.2)])))) ps → ps.Nodup →
      (∀ b off, MemPlace.cell b off ∈ ps → (∃ c t, W.heap[b]? = some (.cells c t (0, 0))) ∧ ∀ u v, W.cell? ⟨b, off, none⟩ = some (.iface u v) → Value.okWide P W .any 0 u v) →
      ∃ a : Nat → Addr, (∀ i x, L[i]? = some x → W.var? P x.1 = some #[.iface tp (.pointer (some (a i)))] ∧ (∃ s, W.cell? (a i) = some (.string s) ∧ s.data.toList = x.2) ∧
          (∃ c t, W.heap[(a i).block]? = some (.cells c t (0, 0))) ∧ MemPlace.cell (a i).block (a i).off ∈ ps) ∧
        ∀ i j, i < L.length → j < L.length → i ≠ j → a i ≠ a j := by
  intro L
  induction L with
  | nil => intro ps _ _ _ _; exact ⟨fun _ => default, fun i x h => by simp at h, fun i j h => by simp at h⟩
  | cons x r ih =>
    intro ps hgs hv hnd hrows
    obtain ⟨n, text⟩ := x
    obtain ⟨g0, t0, cs0, f0, p0, q0, hg0, ht0, hv0, hd0, hvr, e0⟩ := hv
    obtain ⟨g, hg, ht⟩ := hgs (n, text) (List.mem_cons_self ..)
    obtain rfl := Option.some.inj (hg.symm.trans hg0)
    obtain rfl := Option.some.inj (ht.symm.trans ht0)
    subst e0
    obtain ⟨l0⟩ := cs0
    have ok0 : ∀ u v, l0 = [.iface u v] → Value.okWide P W .any 0 u v := fun u v e => by
      subst e
      exact (hrows g 0 (by simp [MemPlace.row])).2 u v (by simpa using World.var?_cell hg0 hv0 0)
    obtain ⟨a0, s0, rfl, hc0, hs0, hz0, rfl⟩ := errorString_of_trod hi hrow hp he hft hfo hs hc hcs hd0 ok0
    obtain ⟨c0, tt0, hb0⟩ := (hrows a0.block a0.off (by simp [MemPlace.row])).1
    have hnq : q0.Nodup := List.Nodup.sublist (List.sublist_append_right _ _) hnd
    obtain ⟨a', ha', hne'⟩ := ih q0 (fun x hx => hgs x (List.mem_cons_of_mem _ hx)) hvr hnq (fun b off hm => hrows b off (List.mem_append_right _ hm))
    have hnot : MemPlace.cell a0.block a0.off ∉ q0 := by
      intro hm
      have := (List.nodup_append.1 hnd).2.2
      exact this (.cell a0.block a0.off) (by simp [MemPlace.row]) (.cell a0.block a0.off) hm rfl
    refine ⟨fun i => match i with | 0 => a0 | k + 1 => a' k, ?_, ?_⟩
    · intro i x hx
      cases i with
      | zero =>
        simp only [List.getElem?_cons_zero, Option.some.injEq] at hx
        subst hx
        exact ⟨hv0, ⟨s0, hc0, hs0⟩, ⟨c0, tt0, hb0⟩, by simp [MemPlace.row]⟩
      | succ k =>
        simp only [List.getElem?_cons_succ] at hx
        obtain ⟨h1, h2, h3, h4⟩ := ha' k x hx
        exact ⟨h1, h2, h3, List.mem_append_right _ h4⟩
    · have far : ∀ k, k < r.length → a0 ≠ a' k := fun k hk e => by
        obtain ⟨_, _, _, h4⟩ := ha' k r[k] (by simp [hk])
        rw [← e] at h4
        exact hnot h4
      intro i j hi' hj' hij
      cases i with
      | zero =>
        cases j with
        | zero => exact absurd rfl hij
        | succ k => exact far k (by simpa using hj')
      | succ m =>
        cases j with
        | zero => exact (far m (by simpa using hi')).symm
        | succ k => exact hne' m k (by simpa using hi') (by simpa using hj') (by omega)

/-- The names and texts, in the rows' order. -/
def fourNames : List (String × List UInt8) := [("demon/api.ErrText", [100, 101, 109, 111, 110, 58, 32, 116, 101, 120, 116]), ("demon/api.ErrBound", [100, 101, 109, 111, 110, 58, 32, 98, 111, 117, 110, 100]), ("demon/api.ErrShape", [100, 101, 109, 111, 110, 58, 32, 115, 104, 97, 112, 101]), ("demon/api.ErrZero", [100, 101, 109, 111, 110, 58, 32, 122, 101, 114, 111])]
def laidAll : List (String × DataW Unit) := [("unicode/utf8.acceptRanges", Rows.laid_unicode_utf8_acceptRanges), ("demon/api.ErrText", Rows.laid_demon_api_ErrText), ("demon/api.ErrBound", Rows.laid_demon_api_ErrBound), ("demon/api.ErrShape", Rows.laid_demon_api_ErrShape), ("demon/api.ErrZero", Rows.laid_demon_api_ErrZero), ("unicode/utf8.first", Rows.laid_unicode_utf8_first)]
theorem laidAll_parts (W : World) : laidMetH Tryd.prog laidAll W = laidMet Tryd.prog ([("unicode/utf8.acceptRanges", Rows.laid_unicode_utf8_acceptRanges)] ++ ((fourNames.map fun x => (x.1, .iface "*errors.errorString" (.ptr (.agg [.lit (.string x.2)])))) ++ [("unicode/utf8.first", Rows.laid_unicode_utf8_first)])) W := by kernel_rfl

theorem var_at {W : World} {n : String} {g : Nat} {v : Value} (hg : Tryd.prog.globalNamed n = some g) (h : W.var? Tryd.prog n = some #[v]) : W.cell? ⟨g, 0, none⟩ = some v := by
  simpa using World.var?_cell hg h 0

theorem laid_tail {P : Program} {W : World} {x : String × DataW Unit} {L : List (String × DataW Unit)} (h : laidMet P (x :: L) W) : laidMet P L W := by
  obtain ⟨n, d⟩ := x
  obtain ⟨ps, hv, hnd, hrows⟩ := h
  obtain ⟨g, t, cs, f, p, q, _, _, _, _, hvr, e⟩ := hv
  subst e
  exact ⟨q, hvr, List.Nodup.sublist (List.sublist_append_right _ _) hnd, fun b off hm => hrows b off (List.mem_append_right _ hm)⟩
theorem vars_front {P : Program} {W : World} : ∀ (L B : List (String × DataW Unit)) (ps : List MemPlace), DataW.LaidVars P W (L ++ B) ps → ∃ p1 p2, ps = p1 ++ p2 ∧ DataW.LaidVars P W L p1
  | [], B, ps, _ => ⟨[], ps, rfl, rfl⟩
  | (n, d) :: L, B, ps, h => by
    obtain ⟨g, t, cs, f, p, q, h1, h2, h3, h4, hvr, e⟩ := h
    obtain ⟨p1, p2, e2, h5⟩ := vars_front L B q hvr
    exact ⟨(MemPlace.row ⟨g, 0, none⟩ cs.size ++ p) ++ p1, p2, by rw [e, e2, ← List.append_assoc], g, t, cs, f, p, p1, h1, h2, h3, h4, h5, rfl⟩
theorem laid_front {P : Program} {W : World} {L B : List (String × DataW Unit)} (h : laidMet P (L ++ B) W) : laidMet P L W := by
  obtain ⟨ps, hv, hnd, hrows⟩ := h
  obtain ⟨p1, p2, e, h5⟩ := vars_front L B ps hv
  subst e
  exact ⟨p1, h5, List.Nodup.sublist (List.sublist_append_left _ _) hnd, fun b off hm => hrows b off (List.mem_append_left _ hm)⟩
theorem errs_of_laid {W : World} (h : laidMetH Tryd.prog laidAll W) : ∃ a : Nat → Addr, Errs W a ∧ True := by
  rw [laidAll_parts] at h
  obtain ⟨ps, hv, hnd, hrows⟩ := laid_front (L := fourNames.map fun x => (x.1, .iface "*errors.errorString" (.ptr (.agg [.lit (.string x.2)])))) (laid_tail h)
  obtain ⟨a, ha, hne⟩ := laid_list Tryd.underlying32 Tryd.rowE Tryd.underlying216 Tryd.underlying234 rfl rfl Tryd.underlying9 Tryd.cellsE Tryd.cellsS fourNames ps
    (fun x hx => by
      simp only [fourNames, List.mem_cons, List.not_mem_nil, or_false] at hx
      rcases hx with rfl | rfl | rfl | rfl
      · exact ⟨_, Tryd.g0, by kernel_rfl⟩
      · exact ⟨_, Tryd.g1, by kernel_rfl⟩
      · exact ⟨_, Tryd.g2, by kernel_rfl⟩
      · exact ⟨_, Tryd.g3, by kernel_rfl⟩) hv hnd hrows
  exact ⟨a, ⟨var_at Tryd.g0 (ha 0 _ rfl).1, var_at Tryd.g1 (ha 1 _ rfl).1, var_at Tryd.g2 (ha 2 _ rfl).1, var_at Tryd.g3 (ha 3 _ rfl).1⟩, trivial⟩

/-- The door's own heap meets the condition. -/
theorem door_met (os : Os) (args : Array Value) : laidMetH Tryd.prog laidAll ((World.layVars Tryd.prog (World.doorLaid Tryd.prog 193 os) [("unicode/utf8.first", Rows.laid_unicode_utf8_first)]).forCall (fun _ _ => 0) ⟨#[], args, []⟩).memory :=
  laidMetH_of_parts3 (fuel := 8) (laidMet_of_run' 8 (by kernel_rfl) (by kernel_rfl)) (by kernel_rfl) (by kernel_rfl)
end Go.Proofs.YtjmjedpeibnnnaaDoor

/- A parameter of type []int opened. -/
namespace Go.Proofs.YtjmjedpeibnnnaaDoor
open Go.ChangeShapes Go.WideShapes Go.ChangeAt Go.RowKit Go.Joins Go.Deep

theorem Tryd.laidOut : laidOutB Tryd.prog = true := by kernel_rfl
theorem Tryd.cellsInt : Tryd.prog.cellsOf 3 = 1 := by kernel_rfl
theorem Tryd.cellsInts : Tryd.prog.cellsOf 22 = 1 := by kernel_rfl

set_option maxRecDepth 100000 in
/-- What a parameter of type []int gives: its slice, its numbers. -/
theorem open_nums {H : Type} {enc : TypeId × Value → H} {W : World} {base : Nat} {v : Value} {d : DataW H} {p : List MemPlace} (hv : Value.okWide Tryd.prog W .any base 22 v)
    (h : DataW.Trod enc Tryd.prog W 0 (fun _ => true) true 22 v d p) :
    ∃ (ad : Option Addr) (n cap : Nat) (z : Nat → Int), v = .slice ad n cap ∧ n ≤ maxLen ∧ NumsAt W (.slice ad n cap) n z := by
  obtain ⟨ad, n, cap, rfl⟩ := okWide_slice Tryd.underlying22 hv
  obtain ⟨fuel, hf⟩ := h
  rcases open_ints Tryd.underlying22 Tryd.underlying3 Tryd.cellsInt hf with ⟨hc, _⟩ | ⟨a, len, cap', zs, hc, _, hl, hm, hz, _, hcell, _⟩
  · simp [Value.cells] at hc
    obtain ⟨rfl, rfl, rfl⟩ := hc
    exact ⟨none, 0, 0, fun _ => 0, rfl, Nat.zero_le _, Or.inl ⟨none, 0, rfl, rfl⟩⟩
  · simp [Value.cells] at hc
    obtain ⟨rfl, rfl, rfl⟩ := hc
    simp only [if_true] at hz
    rcases Nat.eq_zero_or_pos n with rfl | hpos
    · exact ⟨some a, 0, cap, fun _ => 0, rfl, Nat.zero_le _, Or.inl ⟨some a, cap, rfl, rfl⟩⟩
    · obtain ⟨b, o, spot⟩ := a
      have hspot : spot = none := by simpa [Addr.add] using World.cell?_spot (hcell 0 (by omega))
      subst hspot
      refine ⟨_, n, cap, fun i => zs.getD i 0, rfl, by omega, Or.inr ⟨b, o, cap, rfl, hpos, fun i hi => ?_⟩⟩
      have := hcell i (by omega)
      rw [Go.Proofs.YtjmjedpeibnnnaaDoor.add_plain] at this
      exact this
end Go.Proofs.YtjmjedpeibnnnaaDoor
