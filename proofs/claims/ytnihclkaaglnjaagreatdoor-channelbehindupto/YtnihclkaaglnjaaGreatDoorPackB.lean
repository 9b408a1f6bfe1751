/- A list of numbers that grows beside numbers of any size: behind its end its block is nothing but 0, and no number's last digit is 0: so what is appended turns no digit. -/
import Derived.Test.YtnihclkaaglnjaaGreatDoorPackA
import Derived.Test.YtnihclkaaglnjaaGreatDoorCnMath
import Derived.Test.YtnihclkaaglnjaaGreatDoorCnTab
import Derived.Test.YtnihclkaaglnjaaGreatDoorInts
import Derived.BigQuiet
import Derived.Test.YtnihclkaaglnjaaGreatDoorTabCopy
import Derived.Test.YtnihclkaaglnjaaGreatDoorValidWalk
import Derived.Deep.RegionHeld3
import Derived.Deep.CutRange
import Derived.Test.YtnihclkaaglnjaaGreatDoorBhMath
namespace Go.Proofs.YtnihclkaaglnjaaGreatDoor
open Go.RowKit

def Spare0 (w : World) (v : Value) (n : Nat) : Prop := ∀ g, v.ownBlock = some g → ∀ j x, n ≤ j → w.cell? ⟨g, j, none⟩ = some x → x = .int .i64 0
theorem spare0_nil (w : World) : Spare0 w (.slice none 0 0) 0 := fun g hg => by cases hg
theorem Spare0.later {w w' : World} {v : Value} {n : Nat} (h : Spare0 w v n) (hl : ∀ g, v.ownBlock = some g → g < w.heap.size) (hb : Below w.heap.size w w') : Spare0 w' v n := fun g hg j x hj hx => by
  rw [hb.cell (p := ⟨g, j, none⟩) (hl g hg)] at hx
  exact h g hg j x hj hx
theorem spare_of_block {w : World} {g n cap : Nat} {cs : Array Value} {t : TypeId} {q : Nat × Nat} (hg : w.heap[g]? = some (.cells cs t q)) (h : ∀ j x, n ≤ j → cs[j]? = some x → x = .int .i64 0) : Spare0 w (.slice (some ⟨g, 0, none⟩) n cap) n := fun g' hg' j x hj hx => by
  obtain rfl : g = g' := by simpa [Value.ownBlock] using hg'
  exact h j x hj (by simpa [World.cell?, hg] using hx)
theorem zero_cell {z : Value} (hz : z.cells = #[.int .i64 0]) (k j : Nat) (x : Value) (h : (Builtin.zeroCells z.cells k)[j]? = some x) : x = .int .i64 0 := by
  have hu := Array.mem_of_getElem? h
  simp only [Builtin.zeroCells, Array.mem_map] at hu
  obtain ⟨i, _, rfl⟩ := hu
  rw [hz]
  have : i % (#[Value.int .i64 0] : Array Value).size = 0 := Nat.mod_one i
  rw [this]
  rfl
/-- A number whose last digit is not 0 lies ahead of the end. -/
theorem BigAt.before {w : World} {u : Value} {N g n : Nat} {v : Value} (h : BigAt w u N) (hv : v.ownBlock = some g) (hsp : Spare0 w v n) : ∃ l, Dig l ∧ NoTail l ∧ bv l = N ∧ ((∃ ad cap, u = .slice ad 0 cap ∧ l = []) ∨ ∃ b o cap, u = .slice (some ⟨b, o, none⟩) l.length cap ∧ l.length ≤ cap ∧ 0 < l.length ∧ (∀ i, i < l.length → w.cell? ⟨b, o + i, none⟩ = some (.int .i64 ((l.getD i 0 : Nat) : Int))) ∧ (b = g → o + l.length ≤ n)) := by
  obtain ⟨l, h1, h2, h3, h4⟩ := h
  refine ⟨l, h1, h2, h3, ?_⟩
  rcases h4 with h4 | ⟨b, o, cap, e, h5, h6, h7⟩
  · exact Or.inl h4
  · refine Or.inr ⟨b, o, cap, e, h5, h6, h7, fun eb => ?_⟩
    subst eb
    rcases Nat.lt_or_ge n (o + l.length) with h8 | h8
    · exfalso
      have ht := h7 (l.length - 1) (by omega)
      have h0 := hsp b hv (o + (l.length - 1)) _ (by omega) ht
      have hne := h2 (l.length - 1) (by omega)
      simp only [Value.int.injEq, true_and] at h0
      omega
    · exact h8
theorem append_spare {P : Program} (w : World) {t ty : TypeId} {base : Nat} {e : TypeId} {i : TypeInfo} {z : Value} {bytes : Nat} (ht : P.underlying t = some (.slice e)) (hi : P.info? e = some i) (hz : i.zero = some z)
    (hsize : i.size = 1) (hby : i.bytes = bytes) (hz0 : z.cells = #[.int .i64 0]) {v : Value} {n : Nat} {xs : List Value} (hown : w.ownsRow base e 1 v n xs)
    {ad : Addr} {m c : Nat} {news : List Value} (hl : news.length = m * 1) (hnews : ∀ j u, news[j]? = some u → w.cell? (ad.add j) = some u) (h1 : ∀ u ∈ news, u.oneCell' = true)
    (hm : 0 < m) (h63 : n + m ≤ maxLen) (hbytes : (n + m) * bytes ≤ 140737488355328) (hsp : Spare0 w v n)
    {g cap : Nat} {w' : World} (hr : (Builtin.append_ #[t, t] ty #[v, .slice (some ad) m c]).run P w = .ok (.slice (some ⟨g, 0, none⟩) (n + m) cap) w') : Spare0 w' (.slice (some ⟨g, 0, none⟩) (n + m) cap) (n + m) ∧ ∀ u N, BigAt w u N → BigAt w' u N := by
  subst hby
  unfold maxLen at h63
  have hl1 : news.length = m := by omega
  have hal : ∀ (X : Obj), Below w.heap.size w (w.drew.alloc X) := fun X => (Below.refl _ _).drew.alloc (Nat.le_refl _) _
  rcases hown.2 with ⟨rfl, rfl⟩ | ⟨g0, cap0, cur, rfl, hbg, hg, hnc, hcm, hcs, htake⟩
  · have hr2 := run_append_nil (P := P) w t ty e i z ht hi hz ad m c news (by rw [hsize]; exact hl) hnews hm (by omega) (by rw [Nat.zero_add] at hbytes; omega)
    rw [hr] at hr2
    simp only [Result.ok.injEq, Value.slice.injEq, Option.some.injEq, Addr.mk.injEq, and_true] at hr2
    obtain ⟨⟨rfl, _⟩, rfl⟩ := hr2
    refine ⟨spare_of_block (heap_alloc_new w.drew _) fun j x hj hx => ?_, fun u N hu => hu.later (hal _)⟩
    rw [Array.getElem?_append_right (by simp; omega)] at hx
    exact zero_cell hz0 _ _ _ hx
  · by_cases hroom : n + m ≤ cap0
    · have hfit : n * i.size + news.length ≤ cur.size := by rw [hsize, hl1, hcs]; omega
      have hr2 := run_append_room (P := P) w t ty e i ht hi g0 n cap0 cur hg ad m c news (by rw [hsize]; exact hl) hnews h1 hroom hfit
      rw [hr, hsize, Nat.mul_one, hl1] at hr2
      rw [hsize, Nat.mul_one, hl1] at hfit
      simp only [Result.ok.injEq, Value.slice.injEq, Option.some.injEq, Addr.mk.injEq, and_true, true_and] at hr2
      obtain ⟨⟨rfl, _⟩, rfl⟩ := hr2
      have hcell : ∀ j, w.cell? ⟨g, j, none⟩ = cur[j]? := fun j => by simp [World.cell?, hg]
      have hlt : (cur.toList.take n).length = n := by simp; omega
      refine ⟨spare_of_block (setRow_heap w g cur _ e _ hg) fun j x hj hx => ?_, fun u N hu => ?_⟩
      · simp only [List.append_assoc, List.getElem?_toArray] at hx
        rw [List.getElem?_append_right (by rw [hlt]; omega), hlt, List.getElem?_append_right (by omega), hl1, List.getElem?_drop, Array.getElem?_toList] at hx
        refine hsp g rfl j x (by omega) ?_
        rw [hcell, ← hx]
        congr 1
        omega
      · obtain ⟨l, a1, a2, a3, a4⟩ := hu.before (v := .slice (some ⟨g, 0, none⟩) n cap0) rfl hsp
        refine ⟨l, a1, a2, a3, ?_⟩
        rcases a4 with a4 | ⟨b, o, cp, e1, a5, a6, a7, a8⟩
        · exact Or.inl a4
        · refine Or.inr ⟨b, o, cp, e1, a5, a6, fun k hk => ?_⟩
          by_cases hb : b = g
          · have hle := a8 hb
            subst hb
            rw [← a7 k hk, hcell]
            simp only [World.cell?, setRow_heap w b cur _ e _ hg, Option.isSome_none, Bool.false_eq_true, if_false, List.append_assoc, List.getElem?_toArray]
            rw [List.getElem?_append_left (by rw [hlt]; omega), List.getElem?_take_of_lt (by omega), Array.getElem?_toList]
          · have := a7 k hk
            simp only [World.cell?, setRow_other w g b _ hb] at this ⊢
            exact this
    · have hr2 := run_append_grow (P := P) w t ty e i z ht hi hz ⟨g0, 0, none⟩ n cap0 xs (by rw [hsize]; exact hown.1) (hown.cells (g := g0) rfl) ad m c news (by rw [hsize]; exact hl) hnews (by omega) (by omega) (growslice_fits (by omega) hbytes)
      rw [hr] at hr2
      simp only [Result.ok.injEq, Value.slice.injEq, Option.some.injEq, Addr.mk.injEq, and_true, true_and] at hr2
      obtain ⟨⟨rfl, _⟩, rfl⟩ := hr2
      have hxl : xs.length = n := by have := hown.1; omega
      refine ⟨spare_of_block (heap_alloc_new w.drew _) fun j x hj hx => ?_, fun u N hu => hu.later (hal _)⟩
      rw [Array.getElem?_append_right (by simp; omega)] at hx
      exact zero_cell hz0 _ _ _ hx
/-- The same at the list of a plain region's operations. -/
theorem wpList_append_spare {P : Program} (w : World) {ops : Array Oper} {rest : List Oper} {o : Oper} {a : Act} {Q : Exit → Act → World → Prop} (hgd : o.guard = none) (s x : Operand) (t : TypeId)
    (ho : o.op = .call { callee := .builtin .append, args := #[s, x], argTypes := #[t, t] })
    (base : Nat) (e : TypeId) (i : TypeInfo) (z : Value) (bytes : Nat) (ht : P.underlying t = some (.slice e)) (hI : P.info? e = some i ∧ i.zero = some z ∧ i.size = 1 ∧ i.bytes = bytes) (hz0 : z.cells = #[.int .i64 0])
    (v : Value) (n : Nat) (xs : List Value) (hs : a.eval s = v) (hown : w.ownsRow base e 1 v n xs)
    (ad : Addr) (m c : Nat) (news : List Value) (hx : a.eval x = .slice (some ad) m c) (hl : news.length = m * 1) (hnews : ∀ j u, news[j]? = some u → w.cell? (ad.add j) = some u) (h1 : ∀ u ∈ news, u.oneCell' = true)
    (hm : 0 < m) (hN : n + m ≤ 100000) (hB : bytes ≤ 1000) (hbase : base ≤ w.heap.size) (hsp : Spare0 w v n)
    (h : ∀ g cap w', w'.ownsRow base e 1 (.slice (some ⟨g, 0, none⟩) (n + m) cap) (n + m) (xs ++ news) → w.grownBy w' v.ownBlock → Spare0 w' (.slice (some ⟨g, 0, none⟩) (n + m) cap) (n + m) → (∀ u N, BigAt w u N → BigAt w' u N) → wpList P ops Q rest (a.put o.dst (.slice (some ⟨g, 0, none⟩) (n + m) cap)) w') :
    wpList P ops Q (o :: rest) a w := by
  obtain ⟨hi, hz, hsize, hby⟩ := hI
  have h63 : n + m ≤ maxLen := by unfold maxLen; omega
  have hbytes : (n + m) * bytes ≤ 140737488355328 := Nat.le_trans (Nat.mul_le_mul hN hB) (by decide)
  obtain ⟨g, cap, w', hr, h2, h3, _, _⟩ := run_append_lies (P := P) w t o.type base e i z 1 bytes ht hi hz hsize hby (by rw [hz0]; rfl) (by omega) v n xs hown ad m c news hl hnews h1 hm h63 hbytes hbase _ rfl
  obtain ⟨hC, hK⟩ := append_spare w ht hi hz hsize hby hz0 hown hl hnews h1 hm h63 hbytes hsp hr
  refine wpList_plain hgd fun K hKK => ?_
  unfold Oper.wp
  simp [execOp, ho, resolve, invoke, builtin, hs, hx, hr, Result.andThen]
  exact hKK _ _ (h g cap w' h2 h3 hC hK)
end Go.Proofs.YtnihclkaaglnjaaGreatDoor

/- Guesses: the greatest of each column, and how much of all they are. -/
namespace Go.Proofs.YtnihclkaaglnjaaGreatDoor

def mxN (Z : Nat → Nat → Nat) (k : Nat) : Nat → Nat
  | 0 => 0
  | i + 1 => if mxN Z k i < Z i k then Z i k else mxN Z k i
def lkN (Z : Nat → Nat → Nat) (k : Nat) : Nat → Int
  | 0 => -1
  | i + 1 => if mxN Z k i < Z i k then (i : Int) else lkN Z k i
def colN (Z : Nat → Nat → Nat) (R k : Nat) : Nat := sumW (fun i => Z i k) R
def allN (Z : Nat → Nat → Nat) (R k : Nat) : Nat := sumW (colN Z R) k
def rightN (Z : Nat → Nat → Nat) (R k : Nat) : Nat := sumW (fun c => mxN Z c R) k
theorem mxN_le (Z : Nat → Nat → Nat) (k : Nat) : ∀ R, mxN Z k R ≤ colN Z R k
  | 0 => Nat.le_refl _
  | R + 1 => by
    have h := mxN_le Z k R
    show (if mxN Z k R < Z R k then Z R k else mxN Z k R) ≤ colN Z R k + Z R k
    split <;> omega
theorem lkN_ge (Z : Nat → Nat → Nat) (k : Nat) : ∀ R, -1 ≤ lkN Z k R ∧ lkN Z k R ≤ (R : Int)
  | 0 => ⟨by simp [lkN], by simp [lkN]⟩
  | R + 1 => by
    have h := lkN_ge Z k R
    show -1 ≤ (if mxN Z k R < Z R k then (R : Int) else lkN Z k R) ∧ (if mxN Z k R < Z R k then (R : Int) else lkN Z k R) ≤ _
    split <;> (constructor <;> omega)
theorem sumW_mono {f g : Nat → Nat} : ∀ {n : Nat}, (∀ i, i < n → f i ≤ g i) → sumW f n ≤ sumW g n
  | 0, _ => Nat.le_refl _
  | n + 1, h => by
    have h1 := sumW_mono (n := n) fun i hi => h i (by omega)
    have h2 := h n (by omega)
    show sumW f n + f n ≤ sumW g n + g n
    omega
theorem sumW_le {f : Nat → Nat} {k : Nat} : ∀ {n : Nat}, k ≤ n → sumW f k ≤ sumW f n
  | 0, h => by obtain rfl : k = 0 := by omega
               exact Nat.le_refl _
  | n + 1, h => by
    rcases Nat.lt_or_ge k (n + 1) with h1 | h1
    · have := sumW_le (f := f) (k := k) (n := n) (by omega)
      show _ ≤ sumW f n + f n
      omega
    · obtain rfl : k = n + 1 := by omega
      exact Nat.le_refl _
theorem rightN_le (Z : Nat → Nat → Nat) (R k : Nat) : rightN Z R k ≤ allN Z R k := sumW_mono fun c _ => mxN_le Z c R
theorem sumW_add (f g : Nat → Nat) : ∀ n, sumW (fun k => f k + g k) n = sumW f n + sumW g n
  | 0 => rfl
  | n + 1 => by
    have := sumW_add f g n
    show sumW (fun k => f k + g k) n + (f n + g n) = sumW f n + f n + (sumW g n + g n)
    omega
theorem sumW_zero : ∀ n, sumW (fun _ => 0) n = 0
  | 0 => rfl
  | n + 1 => by show sumW (fun _ => 0) n + 0 = 0; rw [sumW_zero n]
theorem sumW_swap (Z : Nat → Nat → Nat) (R : Nat) : ∀ C, sumW (fun k => sumW (fun i => Z i k) R) C = sumW (fun i => sumW (Z i) C) R
  | 0 => by show 0 = sumW (fun _ => 0) R; rw [sumW_zero]
  | C + 1 => by
    have h := sumW_swap Z R C
    show sumW (fun k => sumW (fun i => Z i k) R) C + sumW (fun i => Z i C) R = sumW (fun i => sumW (Z i) C + Z i C) R
    rw [h, sumW_add]
theorem allN_whole (L C : Nat) (f : Nat → Nat → Nat × Nat) (R : Nat) : allN (fun i k => wholeP L (f i k)) R C = sumP L (flatF C f R) := by
  rw [sumP_flat]
  exact sumW_swap _ R C
theorem lowP_whole {L : Nat} {p : Nat × Nat} (hp : LowP p) (hd : p.2 ∣ L) (hL : 0 < L) : lowP (wholeP L p) L = p := by
  obtain ⟨e, he⟩ := hd
  have he0 : 0 < e := by
    rcases Nat.eq_zero_or_pos e with h | h
    · rw [h, Nat.mul_zero] at he; omega
    · exact h
  have h1 : wholeP L p = e * p.1 := by unfold wholeP; rw [he, Nat.mul_div_cancel_left _ hp.1, Nat.mul_comm]
  rw [h1, he, Nat.mul_comm p.2 e, lowP_scale he0]
  unfold lowP
  rw [hp.2, Nat.div_one, Nat.div_one]
theorem lowP_lt {x m L : Nat} (hL : 0 < L) : (lowP m L).1 * (lowP x L).2 < (lowP x L).1 * (lowP m L).2 ↔ m < x := by
  have h1 := lowP_cross x L
  have h2 := lowP_cross m L
  have p1 := (lowP_low (a := x) hL).1
  have p2 := (lowP_low (a := m) hL).1
  generalize (lowP x L).1 = a at *
  generalize (lowP x L).2 = b at *
  generalize (lowP m L).1 = c at *
  generalize (lowP m L).2 = d at *
  have e1 : c * b * L = m * (d * b) := by rw [Nat.mul_right_comm, h2, Nat.mul_assoc]
  have e2 : a * d * L = x * (d * b) := by rw [Nat.mul_right_comm, h1, Nat.mul_assoc, Nat.mul_comm b d]
  have hdb : 0 < d * b := Nat.mul_pos p2 p1
  constructor
  · intro h
    have h3 : c * b * L < a * d * L := Nat.mul_lt_mul_of_pos_right h hL
    rw [e1, e2] at h3
    exact Nat.lt_of_mul_lt_mul_right h3
  · intro h
    have h3 : m * (d * b) < x * (d * b) := Nat.mul_lt_mul_of_pos_right h hdb
    rw [← e1, ← e2] at h3
    exact Nat.lt_of_mul_lt_mul_right h3
theorem lowP_le_cross {x y L : Nat} (hL : 0 < L) (h : y ≤ x) : (lowP y L).1 * (lowP x L).2 ≤ (lowP x L).1 * (lowP y L).2 := by
  rcases Nat.lt_or_ge y x with h1 | h1
  · exact Nat.le_of_lt ((lowP_lt hL).2 h1)
  · obtain rfl : x = y := by omega
    exact Nat.le_refl _
theorem lowP_sub {x y L : Nat} (hL : 0 < L) : lowP ((lowP x L).1 * (lowP y L).2 - (lowP y L).1 * (lowP x L).2) ((lowP x L).2 * (lowP y L).2) = lowP (x - y) L := by
  have g1 : 0 < Nat.gcd x L := Nat.gcd_pos_of_pos_right _ hL
  have g2 : 0 < Nat.gcd y L := Nat.gcd_pos_of_pos_right _ hL
  have e1 : Nat.gcd x L * (lowP x L).1 = x := Nat.mul_div_cancel' (Nat.gcd_dvd_left x L)
  have e2 : Nat.gcd x L * (lowP x L).2 = L := Nat.mul_div_cancel' (Nat.gcd_dvd_right x L)
  have e3 : Nat.gcd y L * (lowP y L).1 = y := Nat.mul_div_cancel' (Nat.gcd_dvd_left y L)
  have e4 : Nat.gcd y L * (lowP y L).2 = L := Nat.mul_div_cancel' (Nat.gcd_dvd_right y L)
  rw [← lowP_scale (c := Nat.gcd x L * Nat.gcd y L) (Nat.mul_pos g1 g2), ← lowP_scale (a := x - y) (b := L) hL]
  congr 1
  · rw [Nat.mul_sub, Nat.mul_sub, Nat.mul_mul_mul_comm, e1, e4, Nat.mul_comm (lowP y L).1, Nat.mul_mul_mul_comm, e2, e3, Nat.mul_comm x L]
  · rw [Nat.mul_mul_mul_comm, e2, e4]
end Go.Proofs.YtnihclkaaglnjaaGreatDoor

/- The document's chances of what goes in and comes out. -/
namespace Go.Proofs.YtnihclkaaglnjaaGreatDoor
open Go.RowKit

theorem Tryz.infoRt : (Tryz.prog.info? 43).map (fun i => (i.zero, i.size, i.bytes)) = some (some (.agg #[.bool false, .slice none 0 0, .slice none 0 0]), 3, 56) := by kernel_rfl
theorem three_newR (w : World) (x0 x1 x2 : Value) (t : TypeId) (j : Nat) (u : Value) (h : [x0, x1, x2][j]? = some u) : (w.alloc (.cells #[x0, x1, x2] t)).cell? ((⟨w.heap.size, 0, none⟩ : Addr).add j) = some u := by
  rw [add_plain, World.cell?_alloc_at _ _ _ _ rfl, Nat.zero_add]
  rcases j with _ | _ | _ | j
  · simpa using h
  · simpa using h
  · simpa using h
  · simp at h
theorem tdiv_nat (a g : Nat) : ((a : Nat) : Int).tdiv (g : Int) = ((a / g : Nat) : Int) := by rw [Int.tdiv_eq_ediv_of_nonneg (by omega)]; simp
/-- RatioOf of a number from 0 on. -/
theorem RatioOf_lowP (a b : Nat) (w : World) (ha : a ≤ 4611686018427387904) (hb0 : 0 < b) (hb : b ≤ 4611686018427387904) :
    Calls Tryz.prog 14 #[.int .i64 (a : Int), .int .i64 (b : Int)] w fun e w' => ∃ r, e = .returned r ∧ RatioAt w' r ((lowP a b).1 : Int) (lowP a b).2 ∧ Below w.heap.size w w' := by
  refine (RatioOf_any (a : Int) b w (by omega) (by omega) hb0 hb).mono ?_
  rintro e w' ⟨r, rfl, hr, hbw⟩
  rw [Int.natAbs_natCast, tdiv_nat] at hr
  exact ⟨r, rfl, hr, hbw⟩
theorem lowP_le (a b : Nat) : (lowP a b).1 ≤ a ∧ (lowP a b).2 ≤ b := ⟨Nat.div_le_self _ _, Nat.div_le_self _ _⟩
/-- Times of two such, told in its parts. -/
theorem Times_low2 (v1 v2 : Value) (a b c d : Nat) (w : World) (h1 : RatioAt w v1 ((lowP a b).1 : Int) (lowP a b).2) (h2 : RatioAt w v2 ((lowP c d).1 : Int) (lowP c d).2) (hb : 0 < b) (hd : 0 < d) (ha4 : a ≤ 1000000000) (hb4 : b ≤ 1000000000) (hc4 : c ≤ 1000000000) (hd4 : d ≤ 1000000000) :
    Calls Tryz.prog 16 #[v1, v2] w fun e w' => ∃ u q, e = .returned (.agg #[.bool false, u, q]) ∧ BigAt w' u (lowP (a * c) (b * d)).1 ∧ BigAt w' q (lowP (a * c) (b * d)).2 ∧ Below w.heap.size w w' := by
  have l1 := lowP_le a b
  have l2 := lowP_le c d
  have hp : (1000000000 : Nat) < 1000000 ^ 2 := by decide
  refine (Times_ratio v1 v2 _ _ _ _ 2 w h1 h2 (lowP_low hb).1 (lowP_low hd).1 (by rw [Int.natAbs_natCast]; omega) (by rw [Int.natAbs_natCast]; omega) (by omega) (by omega) (by omega)).mono ?_
  rintro e w' ⟨r, rfl, ⟨u, q, rfl, hu, hq⟩, hbw⟩
  have e1 : (((lowP a b).1 : Int) * ((lowP c d).1 : Int)) = (((lowP a b).1 * (lowP c d).1 : Nat) : Int) := by simp
  rw [e1, Int.natAbs_natCast, tdiv_nat] at hu
  rw [e1, Int.natAbs_natCast] at hq
  rw [Int.natAbs_natCast] at hu
  have hlt := lowP_times (a := a) (c := c) hb hd
  have hu2 : BigAt w' u (lowP ((lowP a b).1 * (lowP c d).1) ((lowP a b).2 * (lowP c d).2)).1 := hu
  have hq2 : BigAt w' q (lowP ((lowP a b).1 * (lowP c d).1) ((lowP a b).2 * (lowP c d).2)).2 := hq
  rw [hlt] at hu2 hq2
  refine ⟨u, q, ?_, hu2, hq2, hbw⟩
  rw [e1, Int.natAbs_natCast, tdiv_nat, decide_eq_false (Int.not_lt.mpr (Int.natCast_nonneg _))]

end Go.Proofs.YtnihclkaaglnjaaGreatDoor

/- The document's SameInts at equal ones. -/
namespace Go.Proofs.YtnihclkaaglnjaaGreatDoor
open Go.RowKit

set_option maxRecDepth 100000 in
set_option maxHeartbeats 1000000 in
theorem SameInts_any (v u : Value) (n : Nat) (z : Nat → Int) (w : World) (h : NumsAt w v n z) (k : NumsAt w u n z) (hn : n ≤ 1000000) :
    Calls Tryz.prog 26 #[v, u] w fun e w' => e = .returned (.bool true) ∧ Below w.heap.size w w' := by
  rcases h with ⟨ad, cap, rfl, rfl⟩ | ⟨b, o, cap, rfl, h0, hr⟩
  · obtain ⟨ad', cap', rfl⟩ := k.form
    clear k
    go_enter Tryz.func26, Tryz.ntmps26
    go_wp2_with fail
    refine wp_loop_rounds 1 ?_
    rw [rounds_succ]
    go_wp2_with fail
    go_ret
    exact ⟨rfl, Below.refl _ _⟩
  · rcases k with ⟨_, _, _, h1⟩ | ⟨b', o', cap', rfl, _, kr⟩
    · omega
    · have HR := Hid.mk' hr
      have HK := Hid.mk' kr
      clear hr kr
      go_enter Tryz.func26, Tryz.ntmps26
      go_wp2_with fail
      go_loopw [5] (fun i wr => ∃ k : Nat, k ≤ n ∧ i = .int .i64 k ∧ Hid (Below w.heap.size w wr)) (fun i _ => n - (intOf i).toNat)
      case atStart => exact ⟨0, Nat.zero_le _, rfl, Below.refl _ _⟩
      case round =>
        obtain ⟨k, hk, rfl, HB⟩ := hrel
        rcases Nat.lt_or_ge k n with h1 | h1
        · have hc := (HR.out.later HB.out) k h1
          have hd := (HK.out.later HB.out) k h1
          have hkn : (k : Int) < (n : Int) := by omega
          go_wp2_with fail
          go_region
          all_goals
            go_wp2_with fail
            exact ⟨⟨k + 1, h1, by go_num, HB.out.drew⟩, by simp [intOf]; omega⟩
        · obtain rfl : k = n := by omega
          go_wp2_with fail
          go_ret
          exact ⟨rfl, HB.out⟩
end Go.Proofs.YtnihclkaaglnjaaGreatDoor

/- Lists of lists of numbers in memory. -/
namespace Go.Proofs.YtnihclkaaglnjaaGreatDoor
open Go.RowKit

theorem own_put {w : World} {base : Nat} {t : TypeId} {sz : Nat} {v : Value} {n : Nat} {xs : List Value} (h : w.ownsRow base t sz v n xs) (a : Addr) (x : Value) (hne : v.ownBlock ≠ some a.block) : (w.setCell a x).ownsRow base t sz v n xs := by
  refine ⟨h.1, ?_⟩
  rcases h.2 with hn | ⟨g, cap, cur, hv, hg, hh, rest⟩
  · exact Or.inl hn
  · refine Or.inr ⟨g, cap, cur, hv, hg, ?_, rest⟩
    rw [Below.heap_setCell _ _ _ _ (fun e => hne (by rw [hv, ← e]; rfl))]
    exact hh

/-- A list of lists, to be read. -/
def LolAt (w : World) (v : Value) (L : List (List Int)) : Prop := ∃ ad cap, v = .slice ad L.length cap ∧ ∀ (i : Nat) (r : List Int), L[i]? = some r → ∃ b o u, ad = some ⟨b, o, none⟩ ∧ w.cell? ⟨b, o + i, none⟩ = some u ∧ NumsAt w u r.length (atF r)
theorem LolAt.later {w w' : World} {v : Value} {L : List (List Int)} (h : LolAt w v L) (hb : Below w.heap.size w w') : LolAt w' v L := by
  obtain ⟨ad, cap, rfl, h⟩ := h
  refine ⟨ad, cap, rfl, fun i r hr => ?_⟩
  obtain ⟨b, o, u, h1, h2, h3⟩ := h i r hr
  exact ⟨b, o, u, h1, by rw [hb.cell (cell_lt h2)]; exact h2, h3.later hb⟩
/-- One that is made: the list's own row, and that of each of its lists. -/
def LolOwn (Bo Br : Nat) (w : World) (v : Value) (L : List (List Int)) (vs : List Value) : Prop := w.ownsRow Bo 26 1 v L.length vs ∧ ∀ (i : Nat) (r : List Int), L[i]? = some r → ∃ u, vs[i]? = some u ∧ w.ownsRow Br 3 1 u r.length (cellL r)
theorem LolOwn.nil (Bo Br : Nat) (w : World) : LolOwn Bo Br w (.slice none 0 0) [] [] := ⟨⟨rfl, Or.inl ⟨rfl, rfl⟩⟩, fun i r h => by simp at h⟩
theorem LolOwn.later {Bo Br : Nat} {w w' : World} {v : Value} {L : List (List Int)} {vs : List Value} (h : LolOwn Bo Br w v L vs) (hb : Below w.heap.size w w') : LolOwn Bo Br w' v L vs :=
  ⟨own_past h.1 hb, fun i r hr => by obtain ⟨u, h1, h2⟩ := h.2 i r hr; exact ⟨u, h1, own_past h2 hb⟩⟩
theorem own_keep {w w' : World} {base : Nat} {t : TypeId} {sz : Nat} {v : Value} {n : Nat} {xs : List Value} (h : w.ownsRow base t sz v n xs) (hk : ∀ k, base ≤ k → k < w.heap.size → w'.heap[k]? = w.heap[k]?) : w'.ownsRow base t sz v n xs := by
  obtain ⟨hl, hr⟩ := h
  refine ⟨hl, ?_⟩
  rcases hr with hr | ⟨g, cap, cur, hv, hb1, hh, rest⟩
  · exact Or.inl hr
  · exact Or.inr ⟨g, cap, cur, hv, hb1, by rw [hk g hb1 (heap_lt hh)]; exact hh, rest⟩
theorem LolOwn.keep {B : Nat} {w w' : World} {v : Value} {L : List (List Int)} {vs : List Value} (h : LolOwn B B w v L vs) (hk : ∀ k, B ≤ k → k < w.heap.size → w'.heap[k]? = w.heap[k]?) : LolOwn B B w' v L vs :=
  ⟨own_keep h.1 hk, fun i r hr => by obtain ⟨u, h1, h2⟩ := h.2 i r hr; exact ⟨u, h1, own_keep h2 hk⟩⟩
theorem LolOwn.lol {Bo Br : Nat} {w : World} {v : Value} {L : List (List Int)} {vs : List Value} (h : LolOwn Bo Br w v L vs) : LolAt w v L := by
  obtain ⟨⟨hl, hr⟩, hv⟩ := h
  rcases hr with ⟨hv0, h0⟩ | ⟨g, cap, cur, hv0, _, hh, _, _, hs, ht⟩
  · rw [h0] at hl
    obtain rfl : L = [] := List.length_eq_zero_iff.1 h0
    exact ⟨none, 0, hv0, fun i r hr => by simp at hr⟩
  · refine ⟨_, cap, hv0, fun i r hr => ?_⟩
    obtain ⟨u, h1, h2⟩ := hv i r hr
    refine ⟨g, 0, u, rfl, ?_, numsAt_row h2⟩
    have hi : i < L.length := (List.getElem?_eq_some_iff.1 hr).1
    rw [← h1, ← ht, List.getElem?_take_of_lt (by omega), Nat.zero_add]
    simp [World.cell?, hh]
/-- Behind an append. -/
theorem LolOwn.push {Bo Br : Nat} {w w' : World} {v v' u : Value} {L : List (List Int)} {vs : List Value} {r : List Int} (h : LolOwn Bo Br w v L vs) (hr : w.ownsRow Br 3 1 u r.length (cellL r)) (hg : w.grownBy w' v.ownBlock) (ho : w'.ownsRow Bo 26 1 v' (L.length + 1) (vs ++ [u])) : LolOwn Bo Br w' v' (L ++ [r]) (vs ++ [u]) := by
  have hvl : vs.length = L.length := by have := h.1.1; simpa using this
  refine ⟨by rw [List.length_append]; exact ho, fun i q hq => ?_⟩
  rcases Nat.lt_or_ge i L.length with h1 | h1
  · rw [List.getElem?_append_left h1] at hq
    obtain ⟨x, h2, h3⟩ := h.2 i q hq
    exact ⟨x, by rw [List.getElem?_append_left (by omega)]; exact h2, own_beside h3 h.1 (by decide) hg⟩
  · rw [List.getElem?_append_right h1] at hq
    obtain ⟨rfl, h5⟩ : r = q ∧ i - L.length = 0 := by
      rcases hk : i - L.length with _ | k
      · rw [hk] at hq; exact ⟨by simpa using hq, rfl⟩
      · rw [hk] at hq; simp at hq
    exact ⟨u, by rw [List.getElem?_append_right (by omega), hvl, h5]; rfl, own_beside hr h.1 (by decide) hg⟩
theorem LolOwn.form {Bo Br : Nat} {w : World} {v : Value} {L : List (List Int)} {vs : List Value} (h : LolOwn Bo Br w v L vs) : ∃ ad cap, v = .slice ad L.length cap := by
  rcases h.1.2 with ⟨rfl, h0⟩ | ⟨g, cap, cur, rfl, _⟩
  · exact ⟨none, 0, by rw [h0]⟩
  · exact ⟨_, _, rfl⟩
theorem LolOwn.put {Bo Br : Nat} {w : World} {v : Value} {L : List (List Int)} {vs : List Value} (h : LolOwn Bo Br w v L vs) (a : Addr) (x : Value) (h1 : v.ownBlock ≠ some a.block) (h2 : a.block < Br) : LolOwn Bo Br (w.setCell a x) v L vs := by
  refine ⟨own_put h.1 a x h1, fun i r hr => ?_⟩
  obtain ⟨u, h3, h4⟩ := h.2 i r hr
  refine ⟨u, h3, own_put h4 a x (fun e => ?_)⟩
  rcases h4.2 with ⟨rfl, _⟩ | ⟨g, cap, cur, rfl, hge, _⟩
  · cases e
  · have : g = a.block := by simpa [Value.ownBlock] using e
    omega

theorem own_built {w : World} {base g : Nat} {t : TypeId} {cs : Array Value} (hg : base ≤ g) (hh : w.heap[g]? = some (.cells cs t)) (hc : cs.size ≤ 1000) : w.ownsRow base t 1 (.slice (some ⟨g, 0, none⟩) cs.size cs.size) cs.size cs.toList :=
  ⟨by simp, Or.inr ⟨g, cs.size, cs, rfl, hg, hh, Nat.le_refl _, by unfold maxLen; omega, by simp, by rw [Nat.mul_one, ← Array.length_toList, List.take_length]⟩⟩

set_option maxRecDepth 100000 in
set_option maxHeartbeats 1000000 in
theorem SameLists_any (v u : Value) (L : List (List Int)) (w : World) (h : LolAt w v L) (k : LolAt w u L) (hL : L.length ≤ 1000000) (hr : ∀ r, r ∈ L → r.length ≤ 1000) :
    Calls Tryz.prog 11 #[v, u] w fun e w' => e = .returned (.bool true) ∧ Below w.heap.size w w' := by
  have HA := Hid.mk' (fun (W : World) (hb : Below w.heap.size w W) => h.later hb)
  have HK := Hid.mk' (fun (W : World) (hb : Below w.heap.size w W) => k.later hb)
  have HR := Hid.mk' hr
  obtain ⟨ad, cap, rfl, -⟩ := h
  obtain ⟨ad', cap', rfl, -⟩ := k
  clear hr
  go_enter Tryz.func11, Tryz.ntmps11
  go_wp2_with fail
  go_loopw [5] (fun i wr => ∃ k : Nat, k ≤ L.length ∧ i = .int .i64 k ∧ Hid (Below w.heap.size w wr)) (fun i _ => L.length - (intOf i).toNat)
  case atStart => exact ⟨0, Nat.zero_le _, rfl, Below.refl _ _⟩
  case round =>
    obtain ⟨k, hk, rfl, HB⟩ := hrel
    rcases Nat.lt_or_ge k L.length with h1 | h1
    · have hkn : (k : Int) < (L.length : Int) := by omega
      have hk0 : (0 : Int) ≤ (k : Int) := by omega
      obtain ⟨_, _, e1, g1⟩ := HA.out _ HB.out
      obtain ⟨_, _, e2, g2⟩ := HK.out _ HB.out
      obtain ⟨rfl, rfl⟩ : ad = _ ∧ cap = _ := by simpa using e1
      obtain ⟨rfl, rfl⟩ : ad' = _ ∧ cap' = _ := by simpa using e2
      obtain ⟨b, o, x, rfl, c1, n1⟩ := g1 k _ (List.getElem?_eq_getElem h1)
      obtain ⟨b', o', x', rfl, c2, n2⟩ := g2 k _ (List.getElem?_eq_getElem h1)
      have HS := Hid.mk' (fun (W : World) (hb : Below wr.heap.size wr W) => SameInts_any x x' _ _ W (n1.later hb) (n2.later hb) (by have := HR.out _ (List.getElem_mem h1); omega))
      obtain ⟨a1, q1, hx1⟩ := n1.form
      obtain ⟨a2, q2, hx2⟩ := n2.form
      rw [hx1] at c1 HS
      rw [hx2] at c2 HS
      clear n1 n2 hx1 hx2 g1 g2 e1 e2
      generalize L[k].length = m at *
      have hcur0 : Below wr.heap.size wr wr := Below.refl _ _
      have hcur : Below wr.heap.size wr wr.drew := (Below.refl _ _).drew
      have HX : Hid (∀ W, Below wr.heap.size wr W → (W.cell? ⟨b, o + k, none⟩ = some (.slice a1 m q1) ∧ W.cell? ⟨b', o' + k, none⟩ = some (.slice a2 m q2))) := fun W hb => ⟨by rw [hb.cell (cell_lt c1)]; exact c1, by rw [hb.cell (cell_lt c2)]; exact c2⟩
      go_wp2_with fail
      go_region_held3 (fun W => W.cell? ⟨b, o + k, none⟩ = some (.slice a1 m q1) ∧ W.cell? ⟨b', o' + k, none⟩ = some (.slice a2 m q2))
        (first | exact HX.out _ hcur0 | exact HX.out _ hcur | exact HX.out _ hbw5)
        (first
          | (go_at_call 26; refine (HS.out _ hcur).mono ?_; rintro e w5 ⟨rfl, hb5⟩; have hbw5 := below_chain hcur hb5; clear hb5))
      all_goals
        go_wp2_with fail
        exact ⟨⟨k + 1, h1, by go_num, below_chain HB.out hbw5⟩, by simp [intOf]; omega⟩
    · obtain rfl : k = L.length := by omega
      go_wp2_with fail
      go_ret
      exact ⟨rfl, HB.out⟩
end Go.Proofs.YtnihclkaaglnjaaGreatDoor

/- The document's Plus. -/
namespace Go.Proofs.YtnihclkaaglnjaaGreatDoor
open Go.RowKit

theorem new_below (w : World) (X : Obj) : Below w.heap.size w (w.alloc X) := (Below.refl _ _).alloc (Nat.le_refl _) _
theorem more_below {w W : World} (h : Below w.heap.size w W) (X : Obj) : Below w.heap.size w (W.alloc X) := h.alloc h.size X
theorem setB_below {W0 W : World} {B : Nat} (h : Below W0.heap.size W0 W) (hB : W0.heap.size ≤ B) (x y : Value) : Below W0.heap.size W0 ((W.setCell ⟨B, 0, none⟩ x).setCell ⟨B, 1, none⟩ y) := (h.setCell hB _).setCell hB _
/-- The box of a number with a sign, in the making. -/
structure NewBox (W0 W : World) (B : Nat) : Prop where
  c0 : W.cell? ⟨B, 0, none⟩ = some (.bool false)
  c1 : W.cell? ⟨B, 1, none⟩ = some (.slice none 0 0)
  f0 : W.frozen? ⟨B, 0, none⟩ = false
  f1 : W.frozen? ⟨B, 1, none⟩ = false
  no : NoInts W B
  hB : W0.heap.size ≤ B
theorem NewBox.later {W0 W W' : World} {B : Nat} (h : NewBox W0 W B) (hb : Below W.heap.size W W') : NewBox W0 W' B :=
  ⟨(cell_past h.c0 hb).2, (cell_past h.c1 hb).2, (frozen_past h.c0 h.f0 hb).2, (frozen_past h.c1 h.f1 hb).2, h.no.later (cell_lt h.c0) hb, h.hB⟩
theorem newBox_of {W0 W W' : World} (h : Below W0.heap.size W0 W) (hb : Below (W.alloc (.cells #[.bool false, .slice none 0 0] 41)).heap.size (W.alloc (.cells #[.bool false, .slice none 0 0] 41)) W') : NewBox W0 W' W.heap.size := by
  obtain ⟨c0, c1, f0, f1⟩ := res_past hb
  exact ⟨c0, c1, f0, f1, (noInts_new2 W false none 0 0 _).later (by simp) hb, h.size⟩
/-- The sum's box. -/
structure SignBox (W0 W : World) (B : Nat) (z : Int) : Prop where
  below : Below W0.heap.size W0 W
  box : ∃ u, W.cell? ⟨B, 0, none⟩ = some (.bool (decide (z < 0))) ∧ W.cell? ⟨B, 1, none⟩ = some u ∧ BigAt W u z.natAbs
  hB : W0.heap.size ≤ B
theorem signBox_late {W0 W : World} {z : Int} {ad : Option Addr} {l cap : Nat} (h : Below W0.heap.size W0 W) (hu : BigAt W (.slice ad l cap) z.natAbs) : SignBox W0 (W.alloc (.cells #[.bool (decide (z < 0)), .slice ad l cap] 41)) W.heap.size z :=
  ⟨more_below h _, ⟨.slice ad l cap, by rw [World.cell?_alloc_at _ _ _ _ rfl]; rfl, by rw [World.cell?_alloc_at _ _ _ _ rfl]; rfl, hu.later (new_below _ _)⟩, h.size⟩
theorem signBox_soon {W0 W : World} {B : Nat} {z : Int} {ad : Option Addr} {l cap : Nat} (h : Below W0.heap.size W0 W) (hu : BigAt W (.slice ad l cap) z.natAbs) (hn : NewBox W0 W B) : SignBox W0 ((W.setCell ⟨B, 0, none⟩ (.bool (decide (z < 0)))).setCell ⟨B, 1, none⟩ (.slice ad l cap)) B z :=
  ⟨setB_below h hn.hB _ _, ⟨.slice ad l cap, by rw [World.cell?_setCell_other _ _ _ _ (by simp)]; exact World.cell?_setCell_same _ _ _ hn.c0, World.cell?_setCell_same _ _ _ (by rw [World.cell?_setCell_other _ _ _ _ (by simp)]; exact hn.c1), hu.set2 hn.no hn.c0 hn.c1⟩, hn.hB⟩

set_option maxRecDepth 10000 in
set_option maxHeartbeats 4000000 in
/-- Plus: the sum, in its lowest terms. -/
theorem Plus_ratio (v1 v2 : Value) (n1 n2 : Int) (d1 d2 k : Nat) (w : World) (h1 : RatioAt w v1 n1 d1) (h2 : RatioAt w v2 n2 d2) (hd1 : 0 < d1) (hd2 : 0 < d2) (hn1 : n1.natAbs < 1000000 ^ k) (hn2 : n2.natAbs < 1000000 ^ k) (hk1 : d1 < 1000000 ^ k) (hk2 : d2 < 1000000 ^ k) (hk : k + k + 1 + 1 ≤ 1000000) :
    Calls Tryz.prog 15 #[v1, v2] w fun e w' => ∃ r, e = .returned r ∧ RatioAt w' r ((n1 * d2 + n2 * d1).tdiv ((Nat.gcd (n1 * d2 + n2 * d1).natAbs (d1 * d2) : Nat) : Int)) (d1 * d2 / Nat.gcd (n1 * d2 + n2 * d1).natAbs (d1 * d2)) ∧ Below w.heap.size w w' := by
  obtain ⟨u1, q1, rfl, hu1, hq1⟩ := h1
  obtain ⟨u2, q2, rfl, hu2, hq2⟩ := h2
  obtain ⟨ad1, l1, cap1, rfl, _⟩ := hu1.len
  obtain ⟨bd1, m1, bap1, rfl, _⟩ := hq1.len
  obtain ⟨ad2, l2, cap2, rfl, _⟩ := hu2.len
  obtain ⟨bd2, m2, bap2, rfl, _⟩ := hq2.len
  obtain ⟨s1, hs1⟩ : ∃ s, decide (n1 < 0) = s := ⟨_, rfl⟩
  obtain ⟨s2, hs2⟩ : ∃ s, decide (n2 < 0) = s := ⟨_, rfl⟩
  rw [hs1, hs2]
  have hB0 : Below w.heap.size w (((w.alloc (.cells #[.bool s1, .slice ad1 l1 cap1, .slice bd1 m1 bap1] 43)).alloc (.cells #[.bool s2, .slice ad2 l2 cap2, .slice bd2 m2 bap2] 43)).alloc (.cells #[.bool false, .slice none 0 0, .slice none 0 0] 43)) := (((Below.refl _ _).alloc (Nat.le_refl _) _).alloc (by simp) _).alloc (by simp; omega) _
  have hN := noInts_third3 w (.cells #[.bool s1, .slice ad1 l1 cap1, .slice bd1 m1 bap1] 43) (.cells #[.bool s2, .slice ad2 l2 cap2, .slice bd2 m2 bap2] 43) 43
  have hNP := fun (w1 : World) => nine_past (w := w) (w1 := w1) (x0 := .bool s1) (x1 := .slice ad1 l1 cap1) (x2 := .slice bd1 m1 bap1) (y0 := .bool s2) (y1 := .slice ad2 l2 cap2) (y2 := .slice bd2 m2 bap2) (r0 := .bool false) (r1 := .slice none 0 0) (r2 := .slice none 0 0) (t := 43)
  have hz0 : w.heap.size + 1 + 1 + 1 = (((w.alloc (.cells #[.bool s1, .slice ad1 l1 cap1, .slice bd1 m1 bap1] 43)).alloc (.cells #[.bool s2, .slice ad2 l2 cap2, .slice bd2 m2 bap2] 43)).alloc (.cells #[.bool false, .slice none 0 0, .slice none 0 0] 43)).heap.size := by simp
  generalize hW : (((w.alloc (.cells #[.bool s1, .slice ad1 l1 cap1, .slice bd1 m1 bap1] 43)).alloc (.cells #[.bool s2, .slice ad2 l2 cap2, .slice bd2 m2 bap2] 43)).alloc (.cells #[.bool false, .slice none 0 0, .slice none 0 0] 43)) = W0 at hB0 hN hNP hz0
  have hKS : ∀ W, Below W0.heap.size W0 W → (W.cell? ⟨w.heap.size, 0, none⟩ = some (.bool s1) ∧ W.cell? ⟨w.heap.size, 1, none⟩ = some (.slice ad1 l1 cap1) ∧ W.cell? ⟨w.heap.size, 2, none⟩ = some (.slice bd1 m1 bap1)) ∧ (W.cell? ⟨w.heap.size + 1, 0, none⟩ = some (.bool s2) ∧ W.cell? ⟨w.heap.size + 1, 1, none⟩ = some (.slice ad2 l2 cap2) ∧ W.cell? ⟨w.heap.size + 1, 2, none⟩ = some (.slice bd2 m2 bap2)) := fun W hb => by
    obtain ⟨a, b, _⟩ := hNP W hb
    exact ⟨a, b⟩
  have HS1 : Hid (∀ W, Below W0.heap.size W0 W → SignedAt W (.agg #[.bool s1, .slice ad1 l1 cap1]) n1) := fun W hb => ⟨_, by rw [hs1], (hu1.later hB0).later hb⟩
  have HS2 : Hid (∀ W, Below W0.heap.size W0 W → SignedAt W (.agg #[.bool s2, .slice ad2 l2 cap2]) n2) := fun W hb => ⟨_, by rw [hs2], (hu2.later hB0).later hb⟩
  have HD1 : Hid (∀ W, Below W0.heap.size W0 W → BigAt W (.slice bd1 m1 bap1) d1) := fun W hb => (hq1.later hB0).later hb
  have HD2 : Hid (∀ W, Below W0.heap.size W0 W → BigAt W (.slice bd2 m2 bap2) d2) := fun W hb => (hq2.later hB0).later hb
  have HKS := Hid.mk' hKS
  have HW := Hid.mk' hW
  have HNP := Hid.mk' hNP
  have HN := Hid.mk' hN
  have HB := Hid.mk' hB0
  have hm1 : (n1 * (d2 : Int)).natAbs < 1000000 ^ (k + k) := by rw [Int.natAbs_mul, Int.natAbs_natCast, Nat.pow_add]; exact Nat.mul_lt_mul'' hn1 hk2
  have hm2 : (n2 * (d1 : Int)).natAbs < 1000000 ^ (k + k) := by rw [Int.natAbs_mul, Int.natAbs_natCast, Nat.pow_add]; exact Nat.mul_lt_mul'' hn2 hk1
  have hsm : (n1 * (d2 : Int) + n2 * (d1 : Int)).natAbs < 1000000 ^ (k + k + 1) := by
    have h3 := Int.natAbs_add_le (n1 * (d2 : Int)) (n2 * (d1 : Int))
    have h4 : 1000000 ^ (k + k) * 2 ≤ 1000000 ^ (k + k + 1) := by rw [Nat.pow_succ]; exact Nat.mul_le_mul_left _ (by decide)
    omega
  have hdd : d1 * d2 < 1000000 ^ (k + k + 1) := Nat.lt_trans (by rw [Nat.pow_add]; exact Nat.mul_lt_mul'' hk1 hk2) (Nat.pow_lt_pow_right (by decide) (by omega))
  have HM := Hid.mk' (And.intro hm1 (And.intro hm2 (And.intro hsm hdd)))
  have HBD : Hid (n1.natAbs < 1000000 ^ k ∧ (d2 : Int).natAbs < 1000000 ^ k ∧ n2.natAbs < 1000000 ^ k ∧ (d1 : Int).natAbs < 1000000 ^ k) := ⟨hn1, by rw [Int.natAbs_natCast]; exact hk2, hn2, by rw [Int.natAbs_natCast]; exact hk1⟩
  have HDK := Hid.mk' (And.intro hk1 hk2)
  have hcur0 : Below W0.heap.size W0 W0 := Below.refl _ _
  have hcur : Below W0.heap.size W0 W0.drew := (Below.refl _ _).drew
  have hcurA : ∀ X, Below W0.heap.size W0 (W0.alloc X).drew := fun X => (new_below _ _).drew
  have hdn1 : ¬ (d1 : Int) < 0 := by omega
  have hdn2 : ¬ (d2 : Int) < 0 := by omega
  have HDE : Hid (decide ((d1 : Int) < 0) = false ∧ decide ((d2 : Int) < 0) = false) := ⟨decide_eq_false hdn1, decide_eq_false hdn2⟩
  clear hs1 hs2 hu1 hu2 hq1 hq2 hB0 hN hNP hW hKS hn1 hn2 hk1 hk2 hm1 hm2 hsm hdd hdn1 hdn2
  generalize hz : n1 * (d2 : Int) + n2 * (d1 : Int) = z at HM ⊢
  have HZ := Hid.mk' hz
  clear hz
  go_enter Tryz.func15, Tryz.ntmps15
  go_wp2_with fail
  rw [HW.out]
  go_cut [5] from 6 (fun s wx => ∃ Bs : Nat, s = .pointer (some ⟨Bs, 0, none⟩) ∧ Hid (SignBox W0 wx Bs z))
  case first =>
    go_region_held3 (fun W => (W.cell? ⟨w.heap.size, 0, none⟩ = some (.bool s1) ∧ W.cell? ⟨w.heap.size, 1, none⟩ = some (.slice ad1 l1 cap1) ∧ W.cell? ⟨w.heap.size, 2, none⟩ = some (.slice bd1 m1 bap1)) ∧ (W.cell? ⟨w.heap.size + 1, 0, none⟩ = some (.bool s2) ∧ W.cell? ⟨w.heap.size + 1, 1, none⟩ = some (.slice ad2 l2 cap2) ∧ W.cell? ⟨w.heap.size + 1, 2, none⟩ = some (.slice bd2 m2 bap2)))
      (first | exact HKS.out _ hcur0 | exact HKS.out _ hcur | exact HKS.out _ (hcurA _) | (refine HKS.out _ ?_; assumption) | (refine HKS.out _ (more_below ?_ _); assumption) | (refine HKS.out _ (setB_below ?_ NB.hB _ _); assumption))
      (first
        | (go_at_call 34; refine (SignedAdd_any _ _ (n1 * (d2 : Int)) (n2 * (d1 : Int)) (k + k) _ (HX2.out _ ?_) (HX4.out _ ?_) HM.out.1 HM.out.2.1 (by omega)).mono ?_; (first | exact h24 | exact more_below h24 _); (first | exact Below.refl _ _ | exact new_below _ _); rintro e w5 ⟨sv5, rfl, ⟨x5, rfl, hx5⟩, hb5⟩; rw [HZ.out] at hx5 ⊢; obtain ⟨ad7, l7, cap7, rfl, _⟩ := hx5.len; (first | (have hbw5 := below_chain hbw4 hb5; try have NB := NB.later hb5) | (have hbw5 := below_chain (more_below hbw4 _) hb5; have NB := newBox_of hbw4 hb5)); (try (have y0 := NB.c0; have y1 := NB.c1; have y2 := NB.f0; have y3 := NB.f1)); have HX5 := Hid.mk' hx5; clear hx5 hb5)
        | (go_at_call 35; refine (SignedMul_any _ _ n2 (d1 : Int) k _ (HS2.out _ ?_) (HX3.out _ ?_) HBD.out.2.2.1 HBD.out.2.2.2 (by omega)).mono ?_; (first | exact hbw3 | exact more_below hbw3 _); (first | exact Below.refl _ _ | exact new_below _ _); rintro e w4 ⟨sv4, rfl, ⟨x4, rfl, hx4⟩, hb4⟩; obtain ⟨sg4, hsg4⟩ : ∃ sg, decide (n2 * (d1 : Int) < 0) = sg := ⟨_, rfl⟩; rw [hsg4]; obtain ⟨ad6, l6, cap6, rfl, _⟩ := hx4.len; (first | (have hbw4 := below_chain hbw3 hb4; have h24 := below_chain h23 hb4; try have NB := NB.later hb4) | (have hbw4 := below_chain (more_below hbw3 _) hb4; have h24 := below_chain (more_below h23 _) hb4; have NB := newBox_of hbw3 hb4)); have HX4 : Hid (∀ W, Below w4.heap.size w4 W → SignedAt W (.agg #[.bool sg4, .slice ad6 l6 cap6]) (n2 * (d1 : Int))) := (fun W hb => ⟨_, by rw [hsg4], hx4.later hb⟩); clear hx4 hb4 hsg4)
        | (go_at_call 36; refine (wide_any (.slice bd1 m1 bap1) d1 _ (HD1.out _ ?_)).mono ?_; (first | exact hbw2 | exact more_below hbw2 _); rintro e w3 ⟨sv3, rfl, ⟨x3, rfl, hx3⟩, hb3⟩; rw [HDE.out.1]; obtain ⟨ad5, l5, cap5, rfl, _⟩ := hx3.len; (first | (have hbw3 := below_chain hbw2 hb3; have h23 := below_chain (Below.refl _ w2) hb3; try have NB := NB.later hb3) | (have hbw3 := below_chain (more_below hbw2 _) hb3; have h23 := below_chain (new_below w2 _) hb3; have NB := newBox_of hbw2 hb3)); have HX3 : Hid (∀ W, Below w3.heap.size w3 W → SignedAt W (.agg #[.bool false, .slice ad5 l5 cap5]) (d1 : Int)) := (fun W hb => ⟨_, by rw [HDE.out.1], hx3.later hb⟩); clear hx3 hb3)
        | (go_at_call 35; refine (SignedMul_any _ _ n1 (d2 : Int) k _ (HS1.out _ ?_) (HX1.out _ ?_) HBD.out.1 HBD.out.2.1 (by omega)).mono ?_; (first | exact hbw1 | exact more_below hbw1 _); (first | exact Below.refl _ _ | exact new_below _ _); rintro e w2 ⟨sv2, rfl, ⟨x2, rfl, hx2⟩, hb2⟩; obtain ⟨sg2, hsg2⟩ : ∃ sg, decide (n1 * (d2 : Int) < 0) = sg := ⟨_, rfl⟩; rw [hsg2]; obtain ⟨ad4, l4, cap4, rfl, _⟩ := hx2.len; (first | (have hbw2 := below_chain hbw1 hb2; try have NB := NB.later hb2) | (have hbw2 := below_chain (more_below hbw1 _) hb2; have NB := newBox_of hbw1 hb2)); have HX2 : Hid (∀ W, Below w2.heap.size w2 W → SignedAt W (.agg #[.bool sg2, .slice ad4 l4 cap4]) (n1 * (d2 : Int))) := (fun W hb => ⟨_, by rw [hsg2], hx2.later hb⟩); clear hx2 hb2 hsg2)
        | (go_at_call 36; refine (wide_any (.slice bd2 m2 bap2) d2 _ (HD2.out _ ?_)).mono ?_; (first | exact hcur | exact hcurA _); rintro e w1 ⟨sv1, rfl, ⟨x1, rfl, hx1⟩, hb1⟩; rw [HDE.out.2]; obtain ⟨ad3, l3, cap3, rfl, _⟩ := hx1.len; (first | have hbw1 := below_chain hcur hb1 | (have hbw1 := below_chain (hcurA _) hb1; have NB := newBox_of hcur0 (below_chain ((Below.refl _ _).drew) hb1))); have HX1 : Hid (∀ W, Below w1.heap.size w1 W → SignedAt W (.agg #[.bool false, .slice ad3 l3 cap3]) (d2 : Int)) := (fun W hb => ⟨_, by rw [HDE.out.2], hx1.later hb⟩); clear hx1 hb1))
    all_goals
      go_wp2_with fail
      go_meet
      first | exact ⟨_, rfl, signBox_late hbw5 HX5.out⟩ | exact ⟨_, rfl, signBox_soon hbw5 HX5.out NB⟩
  case rest =>
  obtain ⟨Bs, rfl, HSB⟩ := hcut
  obtain ⟨u, x0, x1, hu⟩ := HSB.out.box
  obtain ⟨ad, l, cap, rfl, _⟩ := hu.len
  obtain ⟨sg, hsg⟩ : ∃ sg, decide (z < 0) = sg := ⟨_, rfl⟩
  rw [hsg] at x0
  have hBs := HSB.out.hB
  have hSc : ∀ W, Below wc.heap.size wc W → W.cell? ⟨Bs, 0, none⟩ = some (.bool sg) ∧ W.cell? ⟨Bs, 1, none⟩ = some (.slice ad l cap) ∧ W.cell? ⟨w.heap.size, 2, none⟩ = some (.slice bd1 m1 bap1) ∧ W.cell? ⟨w.heap.size + 1, 2, none⟩ = some (.slice bd2 m2 bap2) := fun W hb => by
    have h1 := HKS.out _ (below_chain HSB.out.below hb)
    exact ⟨(cell_past x0 hb).2, (cell_past x1 hb).2, h1.1.2.2, h1.2.2.2⟩
  have HSC := Hid.mk' hSc
  have hmul := BigMul_any _ _ d1 d2 k wc.drew (HD1.out _ HSB.out.below.drew) (HD2.out _ HSB.out.below.drew) HDK.out.1 HDK.out.2 (by omega)
  have HMUL := Hid.mk' hmul
  have HU := Hid.mk' hu
  have HSG := Hid.mk' hsg
  have hc0 : Below wc.heap.size wc wc := Below.refl _ _
  have hc1 : Below wc.heap.size wc wc.drew := (Below.refl _ _).drew
  have HBC := Hid.mk' HSB.out.below
  have hsetS : ∀ (W : World) (x y q : Value), Below wc.heap.size wc W → Bs ≠ w.heap.size + 1 + 1 → (((W.setCell ⟨w.heap.size + 1 + 1, 0, none⟩ x).setCell ⟨w.heap.size + 1 + 1, 1, none⟩ y).setCell ⟨w.heap.size + 1 + 1, 2, none⟩ q).cell? ⟨Bs, 0, none⟩ = some (.bool sg) ∧ (((W.setCell ⟨w.heap.size + 1 + 1, 0, none⟩ x).setCell ⟨w.heap.size + 1 + 1, 1, none⟩ y).setCell ⟨w.heap.size + 1 + 1, 2, none⟩ q).cell? ⟨Bs, 1, none⟩ = some (.slice ad l cap) ∧ (((W.setCell ⟨w.heap.size + 1 + 1, 0, none⟩ x).setCell ⟨w.heap.size + 1 + 1, 1, none⟩ y).setCell ⟨w.heap.size + 1 + 1, 2, none⟩ q).cell? ⟨w.heap.size, 2, none⟩ = some (.slice bd1 m1 bap1) ∧ (((W.setCell ⟨w.heap.size + 1 + 1, 0, none⟩ x).setCell ⟨w.heap.size + 1 + 1, 1, none⟩ y).setCell ⟨w.heap.size + 1 + 1, 2, none⟩ q).cell? ⟨w.heap.size + 1, 2, none⟩ = some (.slice bd2 m2 bap2) := fun W x y q hb hne => by
    obtain ⟨e0, e1, e2, e3⟩ := HSC.out W hb
    refine ⟨?_, ?_, ?_, ?_⟩
    · rw [World.cell?_setCell_far _ _ _ _ (fun e => hne e.symm), World.cell?_setCell_far _ _ _ _ (fun e => hne e.symm), World.cell?_setCell_far _ _ _ _ (fun e => hne e.symm)]; exact e0
    · rw [World.cell?_setCell_far _ _ _ _ (fun e => hne e.symm), World.cell?_setCell_far _ _ _ _ (fun e => hne e.symm), World.cell?_setCell_far _ _ _ _ (fun e => hne e.symm)]; exact e1
    · rw [World.cell?_setCell_far _ _ _ _ (by show w.heap.size + 1 + 1 ≠ w.heap.size; omega), World.cell?_setCell_far _ _ _ _ (by show w.heap.size + 1 + 1 ≠ w.heap.size; omega), World.cell?_setCell_far _ _ _ _ (by show w.heap.size + 1 + 1 ≠ w.heap.size; omega)]; exact e2
    · rw [World.cell?_setCell_far _ _ _ _ (by show w.heap.size + 1 + 1 ≠ w.heap.size + 1; omega), World.cell?_setCell_far _ _ _ _ (by show w.heap.size + 1 + 1 ≠ w.heap.size + 1; omega), World.cell?_setCell_far _ _ _ _ (by show w.heap.size + 1 + 1 ≠ w.heap.size + 1; omega)]; exact e3
  have HSS := Hid.mk' hsetS
  have hne : Bs ≠ w.heap.size + 1 + 1 := by omega
  clear hu hsg hSc hmul hsetS x0 x1
  go_wp2_with fail
  go_region_held3 (fun W => W.cell? ⟨Bs, 0, none⟩ = some (.bool sg) ∧ W.cell? ⟨Bs, 1, none⟩ = some (.slice ad l cap) ∧ W.cell? ⟨w.heap.size, 2, none⟩ = some (.slice bd1 m1 bap1) ∧ W.cell? ⟨w.heap.size + 1, 2, none⟩ = some (.slice bd2 m2 bap2))
    (first | exact HSC.out _ hc0 | exact HSC.out _ hc1 | exact HSC.out _ hc2 | exact HSC.out _ hc3 | exact HSS.out _ _ _ _ hc3 hne)
    (first
      | (go_at_call 33; refine (Lowest_any _ z (d1 * d2) (k + k + 1) w6 HRA.out (Nat.mul_pos hd1 hd2) HM.out.2.2.1 HM.out.2.2.2 hk).mono ?_; rintro e w7 ⟨rv, rfl, ⟨ur, qr, rfl, hur, hqr⟩, hb7⟩; obtain ⟨ad8, l8, cap8, rfl, _⟩ := hur.len; obtain ⟨ad9, l9, cap9, rfl, _⟩ := hqr.len; have hc3 := below_chain hc2 hb7; have hbw7 := below_chain HBC.out hc3; obtain ⟨_, _, ⟨c0, c1, c2⟩, f0, f1, f2⟩ := HNP.out w7 hbw7; have HUR := Hid.mk' hur; have HQR := Hid.mk' hqr; have HBW7 := Hid.mk' hbw7; clear hur hqr hb7 hbw7)
      | (go_at_call 37; refine HMUL.out.mono ?_; rintro e w6 ⟨qv, rfl, hqv, hb6⟩; obtain ⟨bd6, m6, bap6, rfl, _⟩ := hqv.len; have hc2 := below_chain hc1 hb6; have HRA : Hid (RatioAt w6 (.agg #[.bool sg, .slice ad l cap, .slice bd6 m6 bap6]) z (d1 * d2)) := ⟨_, _, by rw [HSG.out], HU.out.later hc2, hqv⟩; clear hqv hb6))
  go_wp2_with fail
  refine bodyPost_ret (v := .agg #[.bool (decide (z.tdiv ((Nat.gcd z.natAbs (d1 * d2) : Nat) : Int) < 0)), .slice ad8 l8 cap8, .slice ad9 l9 cap9]) (by simp [results, Tryz.results15, go_sem, c0, c1, c2]) rfl ⟨_, rfl, ⟨_, _, rfl, HUR.out.set3 (HN.out.later (by omega) HBW7.out) c0 c1, HQR.out.set3 (HN.out.later (by omega) HBW7.out) c0 c1⟩, below_set3 (below_chain HB.out HBW7.out) (by omega) _ _ _⟩
end Go.Proofs.YtnihclkaaglnjaaGreatDoor

/- Fractions over one denominator in their lowest terms; sums by rising lists. -/
namespace Go.Proofs.YtnihclkaaglnjaaGreatDoor

def lowG (M : Nat) (z : Int) : Nat := Nat.gcd z.natAbs M
def lowN (M : Nat) (z : Int) : Int := z.tdiv (lowG M z : Int)
def lowD (M : Nat) (z : Int) : Nat := M / lowG M z

theorem low_parts {n : Int} {d : Nat} (hd : 0 < d) : 0 < Nat.gcd n.natAbs d ∧ n = ((Nat.gcd n.natAbs d : Nat) : Int) * n.tdiv ((Nat.gcd n.natAbs d : Nat) : Int) ∧ d = Nat.gcd n.natAbs d * (d / Nat.gcd n.natAbs d) ∧ Nat.Coprime (n.tdiv ((Nat.gcd n.natAbs d : Nat) : Int)).natAbs (d / Nat.gcd n.natAbs d) ∧ (n.tdiv ((Nat.gcd n.natAbs d : Nat) : Int)).natAbs = n.natAbs / Nat.gcd n.natAbs d ∧ 0 < d / Nat.gcd n.natAbs d := by
  have hg : 0 < Nat.gcd n.natAbs d := Nat.gcd_pos_of_pos_right _ hd
  have h1 : Nat.gcd n.natAbs d ∣ n.natAbs := Nat.gcd_dvd_left _ _
  have h2 : Nat.gcd n.natAbs d ∣ d := Nat.gcd_dvd_right _ _
  have h3 : (n.tdiv ((Nat.gcd n.natAbs d : Nat) : Int)).natAbs = n.natAbs / Nat.gcd n.natAbs d := by rw [Int.natAbs_tdiv]; rfl
  refine ⟨hg, ?_, (Nat.mul_div_cancel' h2).symm, ?_, h3, Nat.div_pos (Nat.le_of_dvd hd h2) hg⟩
  · rw [Int.mul_tdiv_cancel' (Int.ofNat_dvd_left.2 h1)]
  · rw [h3]
    exact Nat.coprime_div_gcd_div_gcd hg
theorem lowG_pos {M : Nat} (h : 0 < M) (z : Int) : 0 < lowG M z := Nat.gcd_pos_of_pos_right _ h
theorem lowD_pos {M : Nat} (h : 0 < M) (z : Int) : 0 < lowD M z := (low_parts (n := z) h).2.2.2.2.2
theorem lowD_le (M : Nat) (z : Int) : lowD M z ≤ M := Nat.div_le_self _ _
theorem lowN_le {M : Nat} (h : 0 < M) (z : Int) : (lowN M z).natAbs ≤ z.natAbs := by
  have := (low_parts (n := z) h).2.2.2.2.1
  show (z.tdiv ((Nat.gcd z.natAbs M : Nat) : Int)).natAbs ≤ _
  rw [this]
  exact Nat.div_le_self _ _
theorem low_cross {M : Nat} (h : 0 < M) (z : Int) : lowN M z * (M : Int) = z * (lowD M z : Int) := by
  obtain ⟨_, h1, h2, _⟩ := low_parts (n := z) h
  have h2' : (M : Int) = ((Nat.gcd z.natAbs M : Nat) : Int) * ((M / Nat.gcd z.natAbs M : Nat) : Int) := by rw [← Int.natCast_mul, ← h2]
  show z.tdiv ((Nat.gcd z.natAbs M : Nat) : Int) * (M : Int) = z * ((M / Nat.gcd z.natAbs M : Nat) : Int)
  generalize Nat.gcd z.natAbs M = g at *
  generalize M / g = q at *
  generalize z.tdiv (g : Int) = t at *
  rw [h2', h1, ← Int.mul_assoc, Int.mul_comm t]
/-- One fraction has one lowest form. -/
theorem low_same {M d : Nat} {z n : Int} (hM : 0 < M) (hd : 0 < d) (h : n * (M : Int) = z * (d : Int)) : n.tdiv ((Nat.gcd n.natAbs d : Nat) : Int) = lowN M z ∧ d / Nat.gcd n.natAbs d = lowD M z := by
  obtain ⟨g1, g2, g3, g4, _, g6⟩ := low_parts (n := n) hd
  obtain ⟨k1, k2, k3, k4, _, k6⟩ := low_parts (n := z) hM
  show _ = z.tdiv ((Nat.gcd z.natAbs M : Nat) : Int) ∧ _ = M / Nat.gcd z.natAbs M
  generalize Nat.gcd n.natAbs d = g at *
  generalize Nat.gcd z.natAbs M = k at *
  generalize n.tdiv (g : Int) = n' at *
  generalize z.tdiv (k : Int) = z' at *
  generalize d / g = d' at *
  generalize M / k = m' at *
  have h1 : n' * (m' : Int) = z' * (d' : Int) := by
    have h2 : ((g : Int) * (k : Int)) * (n' * (m' : Int)) = ((g : Int) * (k : Int)) * (z' * (d' : Int)) := by
      calc ((g : Int) * (k : Int)) * (n' * (m' : Int)) = ((g : Int) * n') * ((k : Int) * (m' : Int)) := by grind
        _ = n * (M : Int) := by rw [← g2, ← Int.natCast_mul, ← k3]
        _ = z * (d : Int) := h
        _ = ((k : Int) * z') * ((g : Int) * (d' : Int)) := by rw [← k2, ← Int.natCast_mul, ← g3]
        _ = _ := by grind
    refine Int.eq_of_mul_eq_mul_left ?_ h2
    intro h0
    rcases Int.mul_eq_zero.1 h0 with h3 | h3 <;> omega
  have h2 : n'.natAbs * m' = z'.natAbs * d' := by
    have := congrArg Int.natAbs h1
    rwa [Int.natAbs_mul, Int.natAbs_mul, Int.natAbs_natCast, Int.natAbs_natCast] at this
  have h3 : m' ∣ d' := k4.symm.dvd_of_dvd_mul_left ⟨n'.natAbs, by rw [← h2, Nat.mul_comm]⟩
  have h4 : d' ∣ m' := g4.symm.dvd_of_dvd_mul_left ⟨z'.natAbs, by rw [h2, Nat.mul_comm]⟩
  have h5 : d' = m' := Nat.dvd_antisymm h4 h3
  subst h5
  exact ⟨Int.eq_of_mul_eq_mul_right (by omega) h1, rfl⟩
theorem low_plus {M : Nat} (hM : 0 < M) (z1 z2 : Int) : (lowN M z1 * (lowD M z2 : Int) + lowN M z2 * (lowD M z1 : Int)).tdiv ((Nat.gcd (lowN M z1 * (lowD M z2 : Int) + lowN M z2 * (lowD M z1 : Int)).natAbs (lowD M z1 * lowD M z2) : Nat) : Int) = lowN M (z1 + z2) ∧ lowD M z1 * lowD M z2 / Nat.gcd (lowN M z1 * (lowD M z2 : Int) + lowN M z2 * (lowD M z1 : Int)).natAbs (lowD M z1 * lowD M z2) = lowD M (z1 + z2) := by
  refine low_same hM (Nat.mul_pos (lowD_pos hM z1) (lowD_pos hM z2)) ?_
  have h1 := low_cross hM z1
  have h2 := low_cross hM z2
  rw [Int.natCast_mul]
  generalize lowN M z1 = a at *
  generalize lowN M z2 = b at *
  generalize (lowD M z1 : Int) = c at *
  generalize (lowD M z2 : Int) = e at *
  generalize (M : Int) = m at *
  grind
theorem low_one (z : Int) : lowN 1 z = z ∧ lowD 1 z = 1 := by
  unfold lowN lowD lowG
  rw [Nat.gcd_one_right]
  exact ⟨Int.tdiv_one z, rfl⟩

end Go.Proofs.YtnihclkaaglnjaaGreatDoor

/- The document's differences. -/
namespace Go.Proofs.YtnihclkaaglnjaaGreatDoor
open Go.RowKit

/-- What is less than nothing by a part of M. -/
theorem low_minus {M : Nat} (hM : 0 < M) (z : Int) : (0 * (lowD M z : Int) + -lowN M z * (1 : Nat)).tdiv ((Nat.gcd (0 * (lowD M z : Int) + -lowN M z * (1 : Nat)).natAbs (1 * lowD M z) : Nat) : Int) = lowN M (-z) ∧ 1 * lowD M z / Nat.gcd (0 * (lowD M z : Int) + -lowN M z * (1 : Nat)).natAbs (1 * lowD M z) = lowD M (-z) := by
  refine low_same hM (by have := lowD_pos hM z; omega) ?_
  have h1 := low_cross hM z
  rw [Nat.one_mul]
  generalize lowN M z = a at *
  generalize (lowD M z : Int) = c at *
  simp only [Int.zero_mul, Int.zero_add, Int.natCast_one, Int.mul_one]
  rw [Int.neg_mul, h1, Int.neg_mul]
/-- A part of a part: n of M times x of n is x of M. -/
theorem low_times {M n : Nat} (hM : 0 < M) (hn : 0 < n) (x : Int) : (lowN M n * lowN n x).tdiv ((Nat.gcd (lowN M n * lowN n x).natAbs (lowD M n * lowD n x) : Nat) : Int) = lowN M x ∧ lowD M n * lowD n x / Nat.gcd (lowN M n * lowN n x).natAbs (lowD M n * lowD n x) = lowD M x := by
  refine low_same hM (Nat.mul_pos (lowD_pos hM n) (lowD_pos hn x)) ?_
  have h1 := low_cross hM (n : Int)
  have h2 := low_cross hn x
  rw [Int.natCast_mul]
  generalize lowN M n = a at *
  generalize lowN n x = b at *
  generalize (lowD M n : Int) = c at *
  generalize (lowD n x : Int) = e at *
  calc a * b * (M : Int) = (a * (M : Int)) * b := by rw [Int.mul_assoc, Int.mul_comm b, ← Int.mul_assoc]
    _ = (b * (n : Int)) * c := by rw [h1, Int.mul_comm (n : Int) c, Int.mul_assoc, Int.mul_comm c, Int.mul_comm (n : Int) b]
    _ = x * (c * e) := by rw [h2, Int.mul_assoc, Int.mul_comm e c]
theorem low_self {M : Nat} (hM : 0 < M) : lowN M M = 1 ∧ lowD M M = 1 := by
  have h := low_same (M := M) (d := 1) (z := (M : Int)) (n := 1) hM (by decide) (by simp)
  simpa using And.intro h.1.symm h.2.symm
end Go.Proofs.YtnihclkaaglnjaaGreatDoor

/- The document's order of fractions. -/
namespace Go.Proofs.YtnihclkaaglnjaaGreatDoor
open Go.RowKit

/-- The sign of a difference. -/
def sgnZ (z : Int) : Int := if z = 0 then 0 else if z < 0 then -1 else 1
/-- Which of two fractions is the less. -/
theorem sgnZ_neg (z : Int) : sgnZ z < 0 ↔ z < 0 := by
  unfold sgnZ
  split
  · omega
  · split <;> omega
end Go.Proofs.YtnihclkaaglnjaaGreatDoor

/- Variables that hold fractions from 0 on, beside a list of numbers that grows. -/
namespace Go.Proofs.YtnihclkaaglnjaaGreatDoor
open Go.RowKit

theorem BigAt.over1 {w : World} {u v : Value} {n B j : Nat} {y : Value} (h : BigAt w u n) (hc : w.cell? ⟨B, j, none⟩ = some v) (hv : ∀ x, v ≠ .int .i64 x) : BigAt (w.setCell ⟨B, j, none⟩ y) u n := by
  obtain ⟨l, h1, h2, h3, h4⟩ := h
  refine ⟨l, h1, h2, h3, ?_⟩
  rcases h4 with h4 | ⟨b, o, cap, h5, h6, h7, h8⟩
  · exact Or.inl h4
  · refine Or.inr ⟨b, o, cap, h5, h6, h7, fun i hi => ?_⟩
    rw [World.cell?_setCell_other _ _ _ _ (fun e => ?_)]
    · exact h8 i hi
    · have := h8 i hi
      rw [← e, hc] at this
      exact hv _ (Option.some.inj this)
/-- A variable that holds a fraction. -/
structure GBox (W0 W : World) (B a d : Nat) : Prop where
  below : Below W0.heap.size W0 W
  hB : W0.heap.size ≤ B
  f0 : W.frozen? ⟨B, 0, none⟩ = false
  f1 : W.frozen? ⟨B, 1, none⟩ = false
  f2 : W.frozen? ⟨B, 2, none⟩ = false
  box : ∃ ad l cap ad' l' cap', W.cell? ⟨B, 0, none⟩ = some (.bool false) ∧ W.cell? ⟨B, 1, none⟩ = some (.slice ad l cap) ∧ W.cell? ⟨B, 2, none⟩ = some (.slice ad' l' cap') ∧ BigAt W (.slice ad l cap) a ∧ BigAt W (.slice ad' l' cap') d
theorem GBox.later {W0 W W' : World} {B a d : Nat} (h : GBox W0 W B a d) (hb : Below W.heap.size W W') : GBox W0 W' B a d := by
  obtain ⟨ad, l, cap, ad', l', cap', c0, c1, c2, h1, h2⟩ := h.box
  exact ⟨below_chain h.below hb, h.hB, by rw [hb.frozen (cell_lt c0)]; exact h.f0, by rw [hb.frozen (cell_lt c1)]; exact h.f1, by rw [hb.frozen (cell_lt c2)]; exact h.f2, ad, l, cap, ad', l', cap', by rw [hb.cell (cell_lt c0)]; exact c0, by rw [hb.cell (cell_lt c1)]; exact c1, by rw [hb.cell (cell_lt c2)]; exact c2, h1.later hb, h2.later hb⟩
theorem gBox_new {W0 W : World} {a d : Nat} {ad ad' : Option Addr} {l cap l' cap' : Nat} {t : TypeId} (h : Below W0.heap.size W0 W) (h1 : BigAt W (.slice ad l cap) a) (h2 : BigAt W (.slice ad' l' cap') d) : GBox W0 (W.alloc (.cells #[.bool false, .slice ad l cap, .slice ad' l' cap'] t)) W.heap.size a d := by
  have hb : Below W.heap.size W (W.alloc (.cells #[.bool false, .slice ad l cap, .slice ad' l' cap'] t)) := (Below.refl _ _).alloc (Nat.le_refl _) _
  exact ⟨below_chain h hb, h.size, by simp, by simp, by simp, ad, l, cap, ad', l', cap', by simp, by simp, by simp, h1.later hb, h2.later hb⟩
theorem gBox_put {W0 W : World} {B a d : Nat} {ad ad' bd bd' : Option Addr} {l cap l' cap' m bap m' bap' : Nat} (h : Below W0.heap.size W0 W) (hB : W0.heap.size ≤ B) (f0 : W.frozen? ⟨B, 0, none⟩ = false) (f1 : W.frozen? ⟨B, 1, none⟩ = false) (f2 : W.frozen? ⟨B, 2, none⟩ = false) (c0 : W.cell? ⟨B, 0, none⟩ = some (.bool false)) (c1 : W.cell? ⟨B, 1, none⟩ = some (.slice bd m bap)) (c2 : W.cell? ⟨B, 2, none⟩ = some (.slice bd' m' bap')) (h1 : BigAt W (.slice ad l cap) a) (h2 : BigAt W (.slice ad' l' cap') d) : GBox W0 (((W.setCell ⟨B, 0, none⟩ (.bool false)).setCell ⟨B, 1, none⟩ (.slice ad l cap)).setCell ⟨B, 2, none⟩ (.slice ad' l' cap')) B a d := by
  have e1 : (W.setCell ⟨B, 0, none⟩ (.bool false)).cell? ⟨B, 1, none⟩ = some (.slice bd m bap) := by rw [World.cell?_setCell_other _ _ _ _ (by simp)]; exact c1
  have e2 : ((W.setCell ⟨B, 0, none⟩ (.bool false)).setCell ⟨B, 1, none⟩ (.slice ad l cap)).cell? ⟨B, 2, none⟩ = some (.slice bd' m' bap') := by rw [World.cell?_setCell_other _ _ _ _ (by simp), World.cell?_setCell_other _ _ _ _ (by simp)]; exact c2
  refine ⟨below_set3 h hB _ _ _, hB, by simpa using f0, by simpa using f1, by simpa using f2, ad, l, cap, ad', l', cap', ?_, ?_, ?_, ?_, ?_⟩
  · rw [World.cell?_setCell_other _ _ _ _ (by simp), World.cell?_setCell_other _ _ _ _ (by simp)]; exact World.cell?_setCell_same _ _ _ c0
  · rw [World.cell?_setCell_other _ _ _ _ (by simp)]; exact World.cell?_setCell_same _ _ _ e1
  · exact World.cell?_setCell_same _ _ _ e2
  · exact ((h1.over1 c0 (by simp)).over1 e1 (by simp)).over1 e2 (by simp)
  · exact ((h2.over1 c0 (by simp)).over1 e1 (by simp)).over1 e2 (by simp)
/-- All of a growing list's block are numbers: so it is no variable's. -/
theorem own_not_box {w : World} {base : Nat} {t : TypeId} {v : Value} {n B : Nat} {l : List Int} {b : Bool} (hn : l.length = n) (h : w.ownsRow base t 1 v n (cellL l)) (hsp : Spare0 w v n) (hc : w.cell? ⟨B, 0, none⟩ = some (.bool b)) : v.ownBlock ≠ some B := fun e => by
  rcases Nat.eq_zero_or_pos n with h0 | h0
  · have := hsp B e 0 _ (by omega) hc
    cases this
  · obtain ⟨g, cap, rfl, _, _⟩ := h.form h0
    obtain rfl : g = B := by simpa [Value.ownBlock] using e
    cases l with
    | nil => simp at hn; omega
    | cons x r =>
      have := h.cells (g := g) rfl 0 (.int .i64 x) (by simp [cellL])
      rw [add_plain, Nat.zero_add, hc] at this
      cases this
theorem Spare0.put {w : World} {v : Value} {n : Nat} (h : Spare0 w v n) (p : Addr) (y : Value) (hne : v.ownBlock ≠ some p.block) : Spare0 (w.setCell p y) v n := fun g hg j x hj hx => by
  refine h g hg j x hj ?_
  rw [World.cell?_setCell_other _ _ _ _ (fun e => hne (by rw [hg, e]))] at hx
  exact hx
/-- A variable stays as it is while the list grows. -/
theorem GBox.grown {W0 W W' : World} {B a d base n : Nat} {t : TypeId} {v : Value} {l : List Int} (h : GBox W0 W B a d) (hn : l.length = n) (hown : W.ownsRow base t 1 v n (cellL l)) (hsp : Spare0 W v n) (hb : Below W0.heap.size W0 W') (hg : W.grownBy W' v.ownBlock) (hK : ∀ u N, BigAt W u N → BigAt W' u N) : GBox W0 W' B a d := by
  obtain ⟨ad, k, cap, ad', k', cap', c0, c1, c2, h1, h2⟩ := h.box
  have hne := own_not_box hn hown hsp c0
  have far : ∀ j x, W.cell? ⟨B, j, none⟩ = some x → W'.cell? ⟨B, j, none⟩ = some x := fun j x hx => by
    rw [hg.cell_far _ (cell_lt hx) (fun e => hne e.symm)]; exact hx
  have ffar : ∀ j x, W.cell? ⟨B, j, none⟩ = some x → W.frozen? ⟨B, j, none⟩ = false → W'.frozen? ⟨B, j, none⟩ = false := fun j x hx hf => by
    rw [hg.frozen_far _ (cell_lt hx) (fun e => hne e.symm)]; exact hf
  exact ⟨hb, h.hB, ffar 0 _ c0 h.f0, ffar 1 _ c1 h.f1, ffar 2 _ c2 h.f2, ad, k, cap, ad', k', cap', far 0 _ c0, far 1 _ c1, far 2 _ c2, hK _ _ h1, hK _ _ h2⟩

theorem RatioOf_parts (a b : Nat) (w : World) (ha : a ≤ 4611686018427387904) (hb0 : 0 < b) (hb : b ≤ 4611686018427387904) :
    Calls Tryz.prog 14 #[.int .i64 (a : Int), .int .i64 (b : Int)] w fun e w' => ∃ a1 l1 c1 a2 l2 c2, e = .returned (.agg #[.bool false, .slice a1 l1 c1, .slice a2 l2 c2]) ∧ BigAt w' (.slice a1 l1 c1) (lowP a b).1 ∧ BigAt w' (.slice a2 l2 c2) (lowP a b).2 ∧ Below w.heap.size w w' := by
  refine (RatioOf_lowP a b w ha hb0 hb).mono ?_
  rintro e w' ⟨r, rfl, ⟨u, q, rfl, hu, hq⟩, hbw⟩
  rw [Int.natAbs_natCast] at hu
  obtain ⟨a1, l1, c1, rfl, _⟩ := hu.len
  obtain ⟨a2, l2, c2, rfl, _⟩ := hq.len
  exact ⟨a1, l1, c1, a2, l2, c2, by rw [decide_eq_false (Int.not_lt.mpr (Int.natCast_nonneg _))], hu, hq, hbw⟩
theorem ratio_parts {w : World} {u q : Value} {a d : Nat} (h1 : BigAt w u a) (h2 : BigAt w q d) : RatioAt w (.agg #[.bool false, u, q]) (a : Int) d :=
  ⟨u, q, by rw [decide_eq_false (Int.not_lt.mpr (Int.natCast_nonneg _))], by rw [Int.natAbs_natCast]; exact h1, h2⟩
end Go.Proofs.YtnihclkaaglnjaaGreatDoor

/- The document's least whole numbers with the ratios of fractions. -/
namespace Go.Proofs.YtnihclkaaglnjaaGreatDoor
open Go.RowKit

theorem lcmP_small (l : List (Nat × Nat)) : (∀ p, p ∈ l → 0 < p.2 ∧ p.2 ≤ 1000000000) → lcmP l < 1000000 ^ (2 * l.length + 1) := by
  refine snoc_ind (P := fun l => (∀ p, p ∈ l → 0 < p.2 ∧ p.2 ≤ 1000000000) → lcmP l < 1000000 ^ (2 * l.length + 1)) ?_ ?_ l
  · intro _; decide
  · intro l p ih h
    have h1 := ih fun q hq => h q (by simp [hq])
    have h2 := (h p (by simp)).2
    rw [lcmP_snoc]
    have h3 : Nat.lcm (lcmP l) p.2 ≤ lcmP l * p.2 := Nat.div_le_self _ _
    have h4 : lcmP l * p.2 ≤ lcmP l * 1000000000 := Nat.mul_le_mul_left _ h2
    have h5 : (1000000 : Nat) ^ (2 * (l ++ [p]).length + 1) = 1000000 ^ (2 * l.length + 1) * 1000000000000 := by
      rw [show 2 * (l ++ [p]).length + 1 = (2 * l.length + 1) + 2 by simp; omega, Nat.pow_add]
    rw [h5]
    omega
theorem lcmP_small_take (l : List (Nat × Nat)) (h : ∀ p, p ∈ l → 0 < p.2 ∧ p.2 ≤ 1000000000) (hl : l.length ≤ 1000) (K : Nat) (hK : 2001 ≤ K) (k : Nat) : lcmP (l.take k) < 1000000 ^ K :=
  Nat.lt_of_lt_of_le (lcmP_small (l.take k) fun p hp => h p (List.mem_of_mem_take hp)) (Nat.pow_le_pow_right (by decide) (by simp; omega))
theorem wholeP_small {L a : Nat} {p : Nat × Nat} (hL : L < 1000000 ^ a) (hp : p.1 ≤ 1000000000) : wholeP L p < 1000000 ^ (a + 2) := by
  have h1 : L / p.2 ≤ L := Nat.div_le_self _ _
  have h2 : p.1 * (L / p.2) ≤ 1000000000 * L := Nat.mul_le_mul hp h1
  unfold wholeP
  rw [Nat.pow_add]
  generalize (1000000 : Nat) ^ a = A at *
  have : (1000000 : Nat) ^ 2 = 1000000000000 := by decide
  omega
theorem gcdP_small {L B : Nat} (hB : 0 < B) (l : List (Nat × Nat)) : (∀ p, p ∈ l → wholeP L p < B) → gcdP L l < B := by
  refine snoc_ind (P := fun l => (∀ p, p ∈ l → wholeP L p < B) → gcdP L l < B) ?_ ?_ l
  · intro _; exact hB
  · intro l p ih h
    rw [gcdP_snoc]
    have h1 := ih fun q hq => h q (by simp [hq])
    have h2 := h p (by simp)
    rcases Nat.eq_zero_or_pos (wholeP L p) with e | e
    · rw [e, Nat.gcd_zero_right]; exact h1
    · have := Nat.gcd_le_right (gcdP L l) e
      omega
/-- What one fraction's cells are. -/
theorem RtAt.cellsAt {w : World} {ad : Option Addr} {n cap : Nat} {l : List (Nat × Nat)} (h : RtAt w (.slice ad n cap) l) {i : Nat} {p : Nat × Nat} (hp : l[i]? = some p) : ∃ b o a1 l1 c1 a2 l2 c2, ad = some ⟨b, o, none⟩ ∧ w.cell? ⟨b, o + i * 3 + 1, none⟩ = some (.slice a1 l1 c1) ∧ w.cell? ⟨b, o + i * 3 + 2, none⟩ = some (.slice a2 l2 c2) ∧ BigAt w (.slice a1 l1 c1) p.1 ∧ BigAt w (.slice a2 l2 c2) p.2 := by
  obtain ⟨ad', cap', hv, hr⟩ := h
  simp only [Value.slice.injEq] at hv
  obtain ⟨rfl, _, rfl⟩ := hv
  obtain ⟨b, o, u, q, e, h0, h1, h2, h3, h4⟩ := hr i p hp
  obtain ⟨a1, l1, c1, rfl, _⟩ := h3.len
  obtain ⟨a2, l2, c2, rfl, _⟩ := h4.len
  exact ⟨b, o, a1, l1, c1, a2, l2, c2, e, h1, h2, h3, h4⟩
theorem bigPart2 (u v : Value) (a b K : Nat) (w : World) (ha : BigAt w u a) (hb : BigAt w v b) (hb0 : 0 < b) (hK : K ≤ 100000) (haK : a < 1000000 ^ K) (hbK : b < 1000000 ^ K) :
    Calls Tryz.prog 39 #[u, v] w fun e w' => ∃ a1 l1 c1 a2 l2 c2, e = .returned (.tuple #[.slice a1 l1 c1, .slice a2 l2 c2]) ∧ BigAt w' (.slice a1 l1 c1) (a / b) ∧ Below w.heap.size w w' := by
  refine (BigPart_any K (by omega) a haK (a / b) b rfl hb0 (Nat.lt_of_lt_of_le hbK (Nat.pow_le_pow_right (by decide) (by omega))) u v w ha hb).mono ?_
  rintro e w' ⟨q, r, rfl, hq, hr, hbw⟩
  obtain ⟨a1, l1, c1, rfl, _⟩ := hq.len
  obtain ⟨a2, l2, c2, rfl, _⟩ := hr.len
  exact ⟨a1, l1, c1, a2, l2, c2, rfl, hq, hbw⟩
theorem bigMul2 (u v : Value) (a b K : Nat) (w : World) (ha : BigAt w u a) (hb : BigAt w v b) (hK : K ≤ 100000) (haK : a < 1000000 ^ K) (hbK : b < 1000000 ^ K) :
    Calls Tryz.prog 37 #[u, v] w fun e w' => ∃ a1 l1 c1, e = .returned (.slice a1 l1 c1) ∧ BigAt w' (.slice a1 l1 c1) (a * b) ∧ (l1 = 0 ↔ a * b = 0) ∧ Below w.heap.size w w' := by
  refine (BigMul_any u v a b K w ha hb haK hbK (by omega)).mono ?_
  rintro e w' ⟨q, rfl, hq, hbw⟩
  obtain ⟨a1, l1, c1, rfl, hl⟩ := hq.len
  exact ⟨a1, l1, c1, rfl, hq, hl, hbw⟩
theorem bigGcd2 (u v : Value) (a b K : Nat) (w : World) (ha : BigAt w u a) (hb : BigAt w v b) (hK : K ≤ 100000) (haK : a < 1000000 ^ K) (hbK : b < 1000000 ^ K) :
    Calls Tryz.prog 40 #[u, v] w fun e w' => ∃ a1 l1 c1, e = .returned (.slice a1 l1 c1) ∧ BigAt w' (.slice a1 l1 c1) (Nat.gcd a b) ∧ (l1 = 0 ↔ Nat.gcd a b = 0) ∧ Below w.heap.size w w' := by
  refine (BigGcd_any u v a b K w ha hb haK hbK (by omega)).mono ?_
  rintro e w' ⟨q, rfl, hq, hbw⟩
  obtain ⟨a1, l1, c1, rfl, hl⟩ := hq.len
  exact ⟨a1, l1, c1, rfl, hq, hl, hbw⟩
/-- The numbers as a list. -/
def whL (l : List (Nat × Nat)) : List Int := l.map fun p => (wholeP (lcmP l) p : Int)
def whT (L : Nat) (l : List (Nat × Nat)) (k : Nat) : List Int := (l.take k).map fun p => (wholeP L p : Int)
theorem whT_succ {L : Nat} {l : List (Nat × Nat)} {k : Nat} {p : Nat × Nat} (h : l[k]? = some p) : whT L l (k + 1) = whT L l k ++ [(wholeP L p : Int)] := by
  unfold whT; rw [take_snocP h]; simp
theorem whT_length {L : Nat} {l : List (Nat × Nat)} {k : Nat} (h : k ≤ l.length) : (whT L l k).length = k := by
  unfold whT; simp; omega

set_option maxRecDepth 100000 in
set_option maxHeartbeats 8000000 in
theorem Whole_gen (v : Value) (l : List (Nat × Nat)) (most : Nat) (w : World) (K Mx : Nat) (hK2 : K ≤ 90000) (h : RtAt w v l) (hl : ∀ p, p ∈ l → 0 < p.2 ∧ p.2 ≤ Mx ∧ p.1 ≤ Mx) (hn : l.length ≤ 1000) (hm : most ≤ 1000000) (hG : gcdP (lcmP l) l = 1) (hSM : ∀ k, lcmP (l.take k) < 1000000 ^ K) (hMx : Mx < 1000000 ^ (K + 2)) (hWS : ∀ p, p ∈ l → wholeP (lcmP l) p < 1000000 ^ (K + 2)) :
    Calls Tryz.prog 18 #[v, .int .i64 (most : Int)] w fun e w' => ((∀ p, p ∈ l → wholeP (lcmP l) p ≤ most) → ∃ v', e = .returned (.tuple #[v', .bool true]) ∧ w'.ownsRow w.heap.size 3 1 v' l.length (cellL (whL l))) ∧ ((∃ p, p ∈ l ∧ most < wholeP (lcmP l) p) → e = .returned (.tuple #[.slice none 0 0, .bool false])) ∧ Below w.heap.size w w' := by
  obtain ⟨i0, hi, hz0, hz1, hz2⟩ := info_parts Tryz.infoInt
  have HINF : Hid (Tryz.prog.info? 3 = some i0 ∧ i0.zero = some (.int .i64 0) ∧ i0.size = 1 ∧ i0.bytes = 8) := ⟨hi, hz0, hz1, hz2⟩
  clear hi hz0 hz1 hz2
  have HSM := Hid.mk' hSM
  have HPOS : Hid (∀ k, 0 < lcmP (l.take k)) := fun k => lcmP_pos _ fun p hp => (hl p (List.mem_of_mem_take hp)).1
  have HR : Hid (∀ W, Below w.heap.size w W → RtAt W v l) := fun W hb => h.later hb
  have HL := Hid.mk' hl
  have HK : Hid (Mx < 1000000 ^ (K + 2) ∧ (1000000 : Nat) ^ K ≤ 1000000 ^ (K + 2) ∧ most < 1000000 ^ (K + 2)) := by
    have h1 : (1000000 : Nat) < 1000000 ^ 2 := by decide
    have h2 : (1000000 : Nat) ^ 2 ≤ 1000000 ^ (K + 2) := Nat.pow_le_pow_right (by decide) (by omega)
    have h3 : (1000000 : Nat) ^ K ≤ 1000000 ^ (K + 2) := Nat.pow_le_pow_right (by decide) (by omega)
    exact ⟨hMx, h3, by omega⟩
  have HWS := Hid.mk' hWS
  obtain ⟨ad, cap, rfl, _⟩ := h
  have HLEQ : Hid (lcmP (l.take l.length) = lcmP l) := by show _ = _; rw [List.take_length]
  have HGQ := Hid.mk' hG
  have hb0 := BigOf_any 1 w (by decide)
  clear hl hG hSM hMx hWS
  go_enter Tryz.func18, Tryz.ntmps18
  go_wp2_with fail
  refine hb0.mono ?_
  clear hb0
  rintro e w1 ⟨v1, rfl, hv1, hb1⟩
  have HV1 := Hid.mk' hv1
  have HB1 := Hid.mk' hb1
  clear hv1 hb1
  go_wp2_with fail
  go_loopw [6, 7] (fun s t wr => ∃ k : Nat, k ≤ l.length ∧ t = .int .i64 k ∧ Hid (BigAt wr s (lcmP (l.take k))) ∧ Hid (Below w.heap.size w wr)) (fun _ t _ => l.length - (intOf t).toNat)
  case atStart => exact ⟨0, Nat.zero_le _, rfl, by simpa [lcmP] using HV1, HB1⟩
  case round =>
    clear HV1 HB1
    obtain ⟨k, hk, rfl, HD, HB⟩ := hrel
    rcases Nat.lt_or_ge k l.length with h1 | h1
    · have hkI : (k : Int) < (l.length : Int) := by omega
      have hk0 : (0 : Int) ≤ (k : Int) := by omega
      obtain ⟨p, hp⟩ : ∃ p, l[k]? = some p := ⟨l[k], by simp [h1]⟩
      obtain ⟨b, o, a1, l1, c1, a2, l2, c2, rfl, hc1, hc2, hn1, hn2⟩ := (HR.out wr HB.out).cellsAt hp
      have hpm := HL.out p (List.mem_of_getElem? hp)
      have hgp : 0 < Nat.gcd (lcmP (l.take k)) p.2 := Nat.gcd_pos_of_pos_left _ (HPOS.out k)
      have HD1 := HSM.out k
      have HLC : Hid (lcmP (l.take (k + 1)) = lcmP (l.take k) * (p.2 / Nat.gcd (lcmP (l.take k)) p.2)) := by show _ = _; rw [lcmP_take hp, lcm_step]
      have hql : p.2 / Nat.gcd (lcmP (l.take k)) p.2 ≤ p.2 := Nat.div_le_self _ _
      have hgl : Nat.gcd (lcmP (l.take k)) p.2 ≤ p.2 := Nat.gcd_le_right _ hpm.1
      have hK := HK.out
      have HDn := Hid.mk' (HD.out.later (Below.refl _ _).drew)
      have HP2 : Hid (∀ W, Below wr.heap.size wr W → BigAt W (.slice a2 l2 c2) p.2) := fun W hb => hn2.later hb
      have HKS : Hid (∀ W, Below wr.heap.size wr W → W.cell? ⟨b, o + k * 3 + 2, none⟩ = some (.slice a2 l2 c2)) := fun W hb => by rw [hb.cell (cell_lt hc2)]; exact hc2
      have HGC : Hid (∀ W, Below wr.heap.size wr W → Calls Tryz.prog 40 #[u6, .slice a2 l2 c2] W fun e w' => ∃ a1 l1 c1, e = .returned (.slice a1 l1 c1) ∧ BigAt w' (.slice a1 l1 c1) (Nat.gcd (lcmP (l.take k)) p.2) ∧ (l1 = 0 ↔ Nat.gcd (lcmP (l.take k)) p.2 = 0) ∧ Below W.heap.size W w') := fun W hb => bigGcd2 _ _ _ _ (K + 2) W (HD.out.later hb) (hn2.later hb) (by omega) (by omega) (by omega)
      have HPT : Hid (∀ (W : World) (x : Value), Below wr.heap.size wr W → BigAt W x (Nat.gcd (lcmP (l.take k)) p.2) → Calls Tryz.prog 39 #[.slice a2 l2 c2, x] W fun e w' => ∃ a1 l1 c1 a2 l2 c2, e = .returned (.tuple #[.slice a1 l1 c1, .slice a2 l2 c2]) ∧ BigAt w' (.slice a1 l1 c1) (p.2 / Nat.gcd (lcmP (l.take k)) p.2) ∧ Below W.heap.size W w') := fun W x hb hx => bigPart2 _ _ _ _ (K + 2) W (hn2.later hb) hx hgp (by omega) (by omega) (by omega)
      have HML : Hid (∀ (W : World) (x y : Value), BigAt W x (lcmP (l.take k)) → BigAt W y (p.2 / Nat.gcd (lcmP (l.take k)) p.2) → Calls Tryz.prog 37 #[x, y] W fun e w' => ∃ a1 l1 c1, e = .returned (.slice a1 l1 c1) ∧ BigAt w' (.slice a1 l1 c1) (lcmP (l.take k) * (p.2 / Nat.gcd (lcmP (l.take k)) p.2)) ∧ (l1 = 0 ↔ lcmP (l.take k) * (p.2 / Nat.gcd (lcmP (l.take k)) p.2) = 0) ∧ Below W.heap.size W w') := fun W x y hx hy => bigMul2 _ _ _ _ (K + 2) W hx hy (by omega) (by omega) (by omega)
      have hcur0 : Below wr.heap.size wr wr := Below.refl _ _
      have hcur : Below wr.heap.size wr wr.drew := (Below.refl _ _).drew
      clear hn1 hn2 hgp hql hgl hpm hp HD1 hK
      generalize Nat.gcd (lcmP (l.take k)) p.2 = gg at *
      generalize p.2 / gg = qq at *
      go_wp2_with fail
      go_region_held3 (fun W => W.cell? ⟨b, o + k * 3 + 2, none⟩ = some (.slice a2 l2 c2))
        (first | exact HKS.out _ hcur0 | exact HKS.out _ hcur | exact HKS.out _ hbw1 | exact HKS.out _ hbw2)
        (first
          | (go_at_call 39; refine (HPT.out _ _ hbw1 HG1.out).mono ?_; rintro e w3 ⟨e1, f1, g1, e2, f2, g2, rfl, hq3, hb3⟩; have HQ3 := Hid.mk' hq3; have hbw2 := below_chain hbw1 hb3; clear hq3 hb3)
          | (go_at_call 40; refine (HGC.out _ hcur).mono ?_; rintro e w2 ⟨d1, d2, d3, rfl, hg2, _, hb2⟩; have HG1 := Hid.mk' hg2; have hbw1 := below_chain hcur hb2; clear hg2 hb2))
      go_wp2_with fail
      refine (HML.out _ _ _ (HD.out.later hbw2) HQ3.out).mono ?_
      rintro e w4 ⟨m1, m2, m3, rfl, hm4, _, hb4⟩
      rw [← HLC.out] at hm4
      have HM4 := Hid.mk' hm4
      have HB4 := Hid.mk' (below_chain HB.out (below_chain hbw2 hb4))
      clear hm4 hb4
      go_wp2_with fail
      exact ⟨⟨k + 1, h1, by go_num, HM4, HB4⟩, by simp [intOf]; omega⟩
    · obtain rfl : k = l.length := by omega
      rw [HLEQ.out] at HD
      have HLS := HSM.out l.length
      rw [HLEQ.out] at HLS
      have HLS2 := Hid.mk' HLS
      have HLP := HPOS.out l.length
      rw [HLEQ.out] at HLP
      clear HLS HLEQ HSM HPOS
      generalize hL : lcmP l = L at *
      have HLL := Hid.mk' hL
      clear hL
      obtain ⟨ad6, n6, cap6, hu6, _⟩ := HD.out.len
      have HU6 := Hid.mk' hu6
      clear hu6
      go_wp2_with fail
      obtain ⟨wd, hwd⟩ : ∃ wd, wd = wr := ⟨_, rfl⟩
      rw [← hwd] at HD HB ⊢
      clear hwd
      go_loopw [10, 11] (fun s t wr => ∃ k : Nat, k ≤ l.length ∧ t = .int .i64 k ∧ Hid (BigAt wr s (gcdP L (l.take k))) ∧ Hid (Below wd.heap.size wd wr)) (fun _ t _ => l.length - (intOf t).toNat)
      case atStart => exact ⟨0, Nat.zero_le _, rfl, bigAt_zero _, Below.refl _ _⟩
      case round =>
        obtain ⟨k, hk, rfl, HG, HC⟩ := hrel
        rcases Nat.lt_or_ge k l.length with h2 | h2
        · have hkI : (k : Int) < (l.length : Int) := by omega
          have hk0 : (0 : Int) ≤ (k : Int) := by omega
          obtain ⟨p, hp⟩ : ∃ p, l[k]? = some p := ⟨l[k], by simp [h2]⟩
          obtain ⟨b, o, a1, l1, c1, a2, l2, c2, rfl, hc1, hc2, hn1, hn2⟩ := (HR.out wr (below_chain HB.out HC.out)).cellsAt hp
          have hpm := HL.out p (List.mem_of_getElem? hp)
          have hK := HK.out
          have hLS := HLS2.out
          have HGS : Hid (gcdP L (l.take (k + 1)) = Nat.gcd (gcdP L (l.take k)) (wholeP L p)) := gcdP_take hp
          have hws := HWS.out p (List.mem_of_getElem? hp)
          have HGB : Hid (gcdP L (l.take k) < 1000000 ^ (K + 2)) := by
            show _ < _
            exact gcdP_small (by omega) _ fun q hq => HWS.out q (List.mem_of_mem_take hq)
          have HPT := Hid.mk' (bigPart2 u6 (.slice a2 l2 c2) L p.2 (K + 2) wr (HD.out.later HC.out) hn2 hpm.1 (by omega) (by omega) (by omega))
          have hqL : L / p.2 ≤ L := Nat.div_le_self _ _
          have HML : Hid (∀ (W : World) (x : Value), Below wr.heap.size wr W → BigAt W x (L / p.2) → Calls Tryz.prog 37 #[.slice a1 l1 c1, x] W fun e w' => ∃ a1 l1 c1, e = .returned (.slice a1 l1 c1) ∧ BigAt w' (.slice a1 l1 c1) (wholeP L p) ∧ (l1 = 0 ↔ wholeP L p = 0) ∧ Below W.heap.size W w') := fun W x hb hx => bigMul2 _ _ _ _ (K + 2) W (hn1.later hb) hx (by omega) (by omega) (by omega)
          have HC1 : Hid (∀ W, Below wr.heap.size wr W → W.cell? ⟨b, o + k * 3 + 1, none⟩ = some (.slice a1 l1 c1)) := fun W hb => by rw [hb.cell (cell_lt hc1)]; exact hc1
          have HGC : Hid (∀ (W : World) (x y : Value), BigAt W x (gcdP L (l.take k)) → BigAt W y (wholeP L p) → Calls Tryz.prog 40 #[x, y] W fun e w' => ∃ a1 l1 c1, e = .returned (.slice a1 l1 c1) ∧ BigAt w' (.slice a1 l1 c1) (Nat.gcd (gcdP L (l.take k)) (wholeP L p)) ∧ (l1 = 0 ↔ Nat.gcd (gcdP L (l.take k)) (wholeP L p) = 0) ∧ Below W.heap.size W w') := fun W x y hx hy => bigGcd2 _ _ _ _ (K + 2) W hx hy (by omega) HGB.out hws
          clear hn1 hn2 hpm hp hc1 hqL hLS hK hws HGB
          obtain ⟨ag, lg, cg, rfl, hlg⟩ := HG.out.len
          generalize gcdP L (l.take k) = G0 at *
          generalize wholeP L p = N0 at *
          generalize L / p.2 = Q0 at *
          go_wp2_with fail
          refine HPT.out.mono ?_
          rintro e w2 ⟨e1, f1, g1, e2, f2, g2, rfl, hq2, hb2⟩
          have HQ2 := Hid.mk' hq2
          have HB2 := Hid.mk' hb2
          have hcn := HC1.out w2 hb2
          clear hq2 hb2 HPT
          go_wp2_with fail
          refine (HML.out w2 _ HB2.out HQ2.out).mono ?_
          rintro e w3 ⟨m1, m2, m3, rfl, hm3, hml3, hb3⟩
          have HM3 := Hid.mk' hm3
          have HG3 := Hid.mk' (HG.out.later (below_chain HB2.out hb3))
          have HB3 := Hid.mk' (below_chain HC.out (below_chain HB2.out hb3))
          clear hm3 hb3 hcn hc2
          rcases Nat.eq_zero_or_pos m2 with hm0 | hm0
          · have hN0 := hml3.1 hm0
            have HGE : Hid (gcdP L (l.take (k + 1)) = G0) := by show _ = _; rw [HGS.out, hN0, Nat.gcd_zero_right]
            subst hm0
            clear hml3
            rcases Nat.eq_zero_or_pos lg with hg0 | hg0
            · have hG0 := hlg.1 hg0
              subst hg0
              have HE2 : Hid (gcdP L (l.take (k + 1)) = N0) := by show _ = _; rw [HGE.out, hG0, hN0]
              clear hlg hG0 hN0
              go_wp2_with fail
              exact ⟨⟨k + 1, h2, by go_num, by rw [HE2.out]; exact HM3, HB3⟩, by simp [intOf]; omega⟩
            · have hgI : ((lg : Int) == 0) = false := by rw [beq_eq_false_iff_ne]; omega
              clear hlg hN0
              go_wp2_with fail
              exact ⟨⟨k + 1, h2, by go_num, by rw [HGE.out]; exact HG3, HB3⟩, by simp [intOf]; omega⟩
          · have hmI : (0 : Int) < (m2 : Int) := by omega
            have hN0 : N0 ≠ 0 := fun e => by have := hml3.2 e; omega
            rcases Nat.eq_zero_or_pos lg with hg0 | hg0
            · have hG0 := hlg.1 hg0
              subst hg0
              have HE2 : Hid (gcdP L (l.take (k + 1)) = N0) := by show _ = _; rw [HGS.out, hG0, Nat.gcd_zero_left]
              clear hlg hG0 hN0 hml3
              go_wp2_with fail
              exact ⟨⟨k + 1, h2, by go_num, by rw [HE2.out]; exact HM3, HB3⟩, by simp [intOf]; omega⟩
            · have hgI : (0 : Int) < (lg : Int) := by omega
              have HGP : Hid (0 < Nat.gcd G0 N0) := Nat.gcd_pos_of_pos_right _ (by omega)
              clear hlg hN0 hml3
              go_wp2_with fail
              refine (HGC.out w3 _ _ HG3.out HM3.out).mono ?_
              rintro e w4 ⟨d1, d2, d3, rfl, hd4, hdl4, hb4⟩
              have HD4 := Hid.mk' hd4
              have hdI : ((d2 : Int) == 0) = false := by
                rw [beq_eq_false_iff_ne]
                intro e
                have := hdl4.1 (by omega)
                have := HGP.out
                omega
              have HB4 := Hid.mk' (below_chain HB3.out hb4)
              clear hd4 hdl4 hb4
              go_wp2_with fail
              exact ⟨⟨k + 1, h2, by go_num, by rw [HGS.out]; exact HD4, HB4⟩, by simp [intOf]; omega⟩
        · obtain rfl : k = l.length := by omega
          rw [List.take_length, HGQ.out] at HG
          obtain ⟨ag, lg, cg, rfl, _⟩ := HG.out.len
          go_wp2_with fail
          obtain ⟨we, hwe⟩ : ∃ we, we = wr := ⟨_, rfl⟩
          rw [← hwe] at HG HC ⊢
          have HDE := Hid.mk' (HD.out.later HC.out)
          have HBE := Hid.mk' (below_chain HB.out HC.out)
          clear hwe HC
          go_loopw [15, 16] (fun s t wr => ∃ k : Nat, k ≤ l.length ∧ t = .int .i64 k ∧ Hid (wr.ownsRow we.heap.size 3 1 s (whT L l k).length (cellL (whT L l k))) ∧ Hid (Below we.heap.size we wr) ∧ Hid (∀ j p, j < k → l[j]? = some p → wholeP L p ≤ most)) (fun _ t _ => l.length - (intOf t).toNat)
          case atStart => exact ⟨0, Nat.zero_le _, rfl, World.ownsRow_nil _ _ _ _, Below.refl _ _, fun j p hj => by omega⟩
          case round =>
            obtain ⟨k, hk, rfl, HO, HC, HA⟩ := hrel
            rcases Nat.lt_or_ge k l.length with h2 | h2
            · have hkI : (k : Int) < (l.length : Int) := by omega
              have hk0 : (0 : Int) ≤ (k : Int) := by omega
              obtain ⟨p, hp⟩ : ∃ p, l[k]? = some p := ⟨l[k], by simp [h2]⟩
              obtain ⟨b, o, a1, l1, c1, a2, l2, c2, rfl, hc1, hc2, hn1, hn2⟩ := (HR.out wr (below_chain HBE.out HC.out)).cellsAt hp
              have hpm := HL.out p (List.mem_of_getElem? hp)
              have hK := HK.out
              have hLS := HLS2.out
              have hws := HWS.out p (List.mem_of_getElem? hp)
              have HPM := Hid.mk' (List.mem_of_getElem? hp)
              have HPT := Hid.mk' (bigPart2 u6 (.slice a2 l2 c2) L p.2 (K + 2) wr (HDE.out.later HC.out) hn2 hpm.1 (by omega) (by omega) (by omega))
              have hqL : L / p.2 ≤ L := Nat.div_le_self _ _
              have HML : Hid (∀ (W : World) (x : Value), Below wr.heap.size wr W → BigAt W x (L / p.2) → Calls Tryz.prog 37 #[.slice a1 l1 c1, x] W fun e w' => ∃ a1 l1 c1, e = .returned (.slice a1 l1 c1) ∧ BigAt w' (.slice a1 l1 c1) (wholeP L p) ∧ (l1 = 0 ↔ wholeP L p = 0) ∧ Below W.heap.size W w') := fun W x hb hx => bigMul2 _ _ _ _ (K + 2) W (hn1.later hb) hx (by omega) (by omega) (by omega)
              have HC1 : Hid (∀ W, Below wr.heap.size wr W → W.cell? ⟨b, o + k * 3 + 1, none⟩ = some (.slice a1 l1 c1)) := fun W hb => by rw [hb.cell (cell_lt hc1)]; exact hc1
              have HP1 : Hid (∀ (W : World) (x y : Value), BigAt W x (wholeP L p) → BigAt W y 1 → Calls Tryz.prog 39 #[x, y] W fun e w' => ∃ a1 l1 c1 a2 l2 c2, e = .returned (.tuple #[.slice a1 l1 c1, .slice a2 l2 c2]) ∧ BigAt w' (.slice a1 l1 c1) (wholeP L p) ∧ Below W.heap.size W w') := fun W x y hx hy => by
                have := bigPart2 x y (wholeP L p) 1 (K + 2) W hx hy (by decide) (by omega) hws (by omega)
                rw [Nat.div_one] at this
                exact this
              have HCM : Hid (∀ (W : World) (x y : Value), BigAt W x (wholeP L p) → BigAt W y most → Calls Tryz.prog 41 #[x, y] W fun e w' => e = .returned (.int .i64 (cmpOf (wholeP L p) most)) ∧ Below W.heap.size W w') := fun W x y hx hy => by
                refine (BigCmp_any x y _ _ (K + 2) W hx hy hws hK.2.2 (by omega)).mono ?_
                rintro e w' ⟨rfl, m, rfl⟩
                exact ⟨rfl, below_drewN (Below.refl _ _) _⟩
              have HTK : Hid (whT L l (k + 1) = whT L l k ++ [(wholeP L p : Int)]) := whT_succ hp
              have HAK : Hid (wholeP L p ≤ most → ∀ j q, j < k + 1 → l[j]? = some q → wholeP L q ≤ most) := fun hle j q hj hq => by
                rcases Nat.lt_or_ge j k with h3 | h3
                · exact HA.out j q h3 hq
                · obtain rfl : j = k := by omega
                  rw [hp] at hq
                  obtain rfl := Option.some.inj hq
                  exact hle
              have HLN : Hid ((whT L l k).length ≤ 1000) := by show _ ≤ _; rw [whT_length hk]; omega
              clear hn1 hn2 hpm hp hc1 hqL hLS hK hws
              go_wp2_with fail
              refine HPT.out.mono ?_
              rintro e w2 ⟨e1, f1, g1, e2, f2, g2, rfl, hq2, hb2⟩
              have HQ2 := Hid.mk' hq2
              have HB2 := Hid.mk' hb2
              have hcn := HC1.out w2 hb2
              clear hq2 hb2 HPT
              go_wp2_with fail
              refine (HML.out w2 _ HB2.out HQ2.out).mono ?_
              rintro e w3 ⟨m1, m2, m3, rfl, hm3, _, hb3⟩
              have HM3 := Hid.mk' hm3
              have HB3 := Hid.mk' (below_chain HB2.out hb3)
              clear hm3 hb3 hcn hc2
              go_wp2_with fail
              refine (HP1.out w3 _ _ HM3.out (HG.out.later (below_chain HC.out HB3.out))).mono ?_
              rintro e w4 ⟨n1, n2, n3, n4, n5, n6, rfl, hm4, hb4⟩
              have HM4 := Hid.mk' hm4
              have HB4 := Hid.mk' (below_chain HB3.out hb4)
              clear hm4 hb4
              go_wp2_with fail
              refine (BigOf_any most w4 (by omega)).mono ?_
              rintro e w5 ⟨v5, rfl, hv5, hb5⟩
              have HV5 := Hid.mk' hv5
              have HM5 := Hid.mk' (HM4.out.later hb5)
              have HB5 := Hid.mk' (below_chain HB4.out hb5)
              clear hv5 hb5
              go_wp2_with fail
              refine (HCM.out w5 _ _ HM5.out HV5.out).mono ?_
              rintro e w6 ⟨rfl, hb6⟩
              have HM6 := Hid.mk' (HM5.out.later hb6)
              have HB6 := Hid.mk' (below_chain HB5.out hb6)
              clear hb6
              rcases Nat.lt_or_ge most (wholeP L p) with hbig | hbig
              · rw [cmpOf_gt hbig]
                have HX : Hid (∃ p, p ∈ l ∧ most < wholeP L p) := ⟨p, HPM.out, hbig⟩
                clear hbig
                go_wp2_with fail
                go_ret2
                refine ⟨fun hall => ?_, fun _ => rfl, below_chain HBE.out (below_chain HC.out HB6.out)⟩
                obtain ⟨q, hq, hgt⟩ := HX.out
                have := hall q hq
                rw [HLL.out] at this
                omega
              · have hcm : ¬ 0 < cmpOf (wholeP L p) most := by
                  rcases Nat.lt_or_ge (wholeP L p) most with h5 | h5
                  · rw [cmpOf_lt h5]; decide
                  · rw [cmpOf_eq (by omega)]; decide
                have HAN := Hid.mk' (HAK.out hbig)
                have hbi := BigInt_any (.slice n1 n2 n3) (wholeP L p) w6 HM6.out (by omega)
                generalize cmpOf (wholeP L p) most = cm at *
                generalize wholeP L p = N0 at *
                go_wp2_with fail
                refine hbi.mono ?_
                clear hbi
                rintro e w7 ⟨rfl, hw7⟩
                rw [hw7]
                clear hw7
                have HO6 := Hid.mk' (own_past HO.out HB6.out)
                have HC6 := Hid.mk' (below_chain HC.out HB6.out)
                have hzs := HC6.out.size
                go_wp2_with (at_builtin; go_must (refine wpList_append_lies _ rfl _ _ _ rfl we.heap.size 3 i0 _ 1 8 Tryz.underlying26 HINF.out.1 HINF.out.2.1 HINF.out.2.2.1 HINF.out.2.2.2 rfl (by omega) u15 _ _ rfl (HO6.out.alloc _) ⟨w6.heap.size, 0, none⟩ 1 1 [.int .i64 (N0 : Int)] rfl rfl (one_new _ _ _) (by simp [Value.oneCell']) (by omega) (by have := HLN.out; unfold maxLen; omega) (by have := HLN.out; omega) (by simp; omega) _ rfl ?_; intro g' cap2 w8 hown8 hgrow8 hat8 hlt8; have HO8 := Hid.mk' hown8; have HC8 := Hid.mk' (below_push HC6.out HO6.out hgrow8); clear hown8 hgrow8 hat8))
                refine ⟨⟨k + 1, h2, by go_num, ?_, HC8, HAN⟩, by simp [intOf]; omega⟩
                rw [HTK.out, cellL_append, List.length_append]
                exact HO8
            · obtain rfl : k = l.length := by omega
              have HTE : Hid (whT L l l.length = whL l) := by show _ = _; unfold whT whL; rw [List.take_length, HLL.out]
              have HLN : Hid ((whT L l l.length).length = l.length) := whT_length (Nat.le_refl _)
              have HALL : Hid (∀ p, p ∈ l → wholeP L p ≤ most) := fun p hp => by
                obtain ⟨j, hj, e⟩ := List.getElem_of_mem hp
                exact HA.out j p hj (by rw [← e]; simp)
              go_wp2_with fail
              go_ret2
              refine ⟨fun _ => ⟨_, rfl, ?_⟩, fun hx => ?_, below_chain HBE.out HC.out⟩
              · have := HO.out
                rw [HLN.out, HTE.out] at this
                exact this.mono HBE.out.size
              · obtain ⟨q, hq, hgt⟩ := hx
                have := HALL.out q hq
                rw [HLL.out] at hgt
                omega
theorem Whole_any (v : Value) (l : List (Nat × Nat)) (most : Nat) (w : World) (h : RtAt w v l) (hl : ∀ p, p ∈ l → 0 < p.2 ∧ p.2 ≤ 1000000000 ∧ p.1 ≤ 1000000000) (hn : l.length ≤ 1000) (hm : most ≤ 1000000) (hG : gcdP (lcmP l) l = 1) :
    Calls Tryz.prog 18 #[v, .int .i64 (most : Int)] w fun e w' => ((∀ p, p ∈ l → wholeP (lcmP l) p ≤ most) → ∃ v', e = .returned (.tuple #[v', .bool true]) ∧ w'.ownsRow w.heap.size 3 1 v' l.length (cellL (whL l))) ∧ ((∃ p, p ∈ l ∧ most < wholeP (lcmP l) p) → e = .returned (.tuple #[.slice none 0 0, .bool false])) ∧ Below w.heap.size w w' := by
  obtain ⟨K, hK1, hK2⟩ : ∃ K, 2001 ≤ K ∧ K ≤ 90000 := ⟨2001, by decide, by decide⟩
  have hSM := lcmP_small_take l (fun p hp => ⟨(hl p hp).1, (hl p hp).2.1⟩) hn K hK1
  have h1 : (1000000000 : Nat) < 1000000 ^ 2 := by decide
  have h2 : (1000000 : Nat) ^ 2 ≤ 1000000 ^ (K + 2) := Nat.pow_le_pow_right (by decide) (by omega)
  exact Whole_gen v l most w K 1000000000 hK2 h hl hn hm hG hSM (by omega) (fun p hp => wholeP_small (a := K) (by have := hSM l.length; rw [List.take_length] at this; exact this) (hl p hp).2.2)
end Go.Proofs.YtnihclkaaglnjaaGreatDoor

/- Sums of fractions over one number; a fraction that is appended. -/
namespace Go.Proofs.YtnihclkaaglnjaaGreatDoor
open Go.RowKit

theorem lowP_add {x y L : Nat} (hL : 0 < L) : lowP ((lowP x L).1 * (lowP y L).2 + (lowP y L).1 * (lowP x L).2) ((lowP x L).2 * (lowP y L).2) = lowP (x + y) L := by
  have g1 : 0 < Nat.gcd x L := Nat.gcd_pos_of_pos_right _ hL
  have g2 : 0 < Nat.gcd y L := Nat.gcd_pos_of_pos_right _ hL
  have e1 : Nat.gcd x L * (lowP x L).1 = x := Nat.mul_div_cancel' (Nat.gcd_dvd_left x L)
  have e2 : Nat.gcd x L * (lowP x L).2 = L := Nat.mul_div_cancel' (Nat.gcd_dvd_right x L)
  have e3 : Nat.gcd y L * (lowP y L).1 = y := Nat.mul_div_cancel' (Nat.gcd_dvd_left y L)
  have e4 : Nat.gcd y L * (lowP y L).2 = L := Nat.mul_div_cancel' (Nat.gcd_dvd_right y L)
  rw [← lowP_scale (c := Nat.gcd x L * Nat.gcd y L) (Nat.mul_pos g1 g2), ← lowP_scale (a := x + y) (b := L) hL]
  congr 1
  · rw [Nat.mul_add, Nat.mul_add, Nat.mul_mul_mul_comm, e1, e4, Nat.mul_comm (lowP y L).1, Nat.mul_mul_mul_comm, e2, e3, Nat.mul_comm x L]
  · rw [Nat.mul_mul_mul_comm, e2, e4]
theorem Plus_lowP (u1 q1 u2 q2 : Value) (x y L : Nat) (w : World) (h1 : BigAt w u1 (lowP x L).1) (h2 : BigAt w q1 (lowP x L).2) (h3 : BigAt w u2 (lowP y L).1) (h4 : BigAt w q2 (lowP y L).2) (hL : 0 < L) (hx : x ≤ L) (hy : y ≤ L) (hL4 : L < 1000000 ^ 24) :
    Calls Tryz.prog 15 #[.agg #[.bool false, u1, q1], .agg #[.bool false, u2, q2]] w fun e w' => ∃ a1 l1 c1 a2 l2 c2, e = .returned (.agg #[.bool false, .slice a1 l1 c1, .slice a2 l2 c2]) ∧ BigAt w' (.slice a1 l1 c1) (lowP (x + y) L).1 ∧ BigAt w' (.slice a2 l2 c2) (lowP (x + y) L).2 ∧ Below w.heap.size w w' := by
  have k1 := lowP_le x L
  have k2 := lowP_le y L
  refine (Plus_ratio _ _ _ _ _ _ 24 w (ratio_parts h1 h2) (ratio_parts h3 h4) (lowP_low hL).1 (lowP_low hL).1 (by rw [Int.natAbs_natCast]; exact Nat.lt_of_le_of_lt (Nat.le_trans k1.1 hx) hL4) (by rw [Int.natAbs_natCast]; exact Nat.lt_of_le_of_lt (Nat.le_trans k2.1 hy) hL4) (Nat.lt_of_le_of_lt k1.2 hL4) (Nat.lt_of_le_of_lt k2.2 hL4) (by decide)).mono ?_
  rintro e w' ⟨r, rfl, ⟨u, q, rfl, hu, hq⟩, hbw⟩
  have e1 : ((lowP x L).1 : Int) * ((lowP y L).2 : Int) + ((lowP y L).1 : Int) * ((lowP x L).2 : Int) = (((lowP x L).1 * (lowP y L).2 + (lowP y L).1 * (lowP x L).2 : Nat) : Int) := by simp
  rw [e1, Int.natAbs_natCast, tdiv_nat] at hu
  rw [e1, Int.natAbs_natCast] at hq
  rw [Int.natAbs_natCast] at hu
  have hs := lowP_add (x := x) (y := y) hL
  have hu2 : BigAt w' u (lowP ((lowP x L).1 * (lowP y L).2 + (lowP y L).1 * (lowP x L).2) ((lowP x L).2 * (lowP y L).2)).1 := hu
  have hq2 : BigAt w' q (lowP ((lowP x L).1 * (lowP y L).2 + (lowP y L).1 * (lowP x L).2) ((lowP x L).2 * (lowP y L).2)).2 := hq
  rw [hs] at hu2 hq2
  obtain ⟨a1, l1, c1, rfl, _⟩ := hu2.len
  obtain ⟨a2, l2, c2, rfl, _⟩ := hq2.len
  refine ⟨a1, l1, c1, a2, l2, c2, ?_, hu2, hq2, hbw⟩
  rw [e1, Int.natAbs_natCast, tdiv_nat, decide_eq_false (Int.not_lt.mpr (Int.natCast_nonneg _))]
theorem wpList_append_clean {P : Program} (w : World) {ops : Array Oper} {rest : List Oper} {o : Oper} {a : Act} {Q : Exit → Act → World → Prop} (hgd : o.guard = none) (s x : Operand) (t : TypeId)
    (ho : o.op = .call { callee := .builtin .append, args := #[s, x], argTypes := #[t, t] })
    (base : Nat) (e : TypeId) (i : TypeInfo) (z : Value) (size bytes : Nat) (ht : P.underlying t = some (.slice e)) (hI : P.info? e = some i ∧ i.zero = some z ∧ i.size = size ∧ i.bytes = bytes) (hzs : z.cells.size = size) (hsz : 0 < size)
    (v : Value) (n : Nat) (xs : List Value) (hs : a.eval s = v) (hown : w.ownsRow base e size v n xs)
    (ad : Addr) (m c : Nat) (news : List Value) (hx : a.eval x = .slice (some ad) m c) (hl : news.length = m * size) (hnews : ∀ j u, news[j]? = some u → w.cell? (ad.add j) = some u) (h1 : ∀ u ∈ news, u.oneCell' = true)
    (hm : 0 < m) (hN : n + m ≤ 100000) (hB : bytes ≤ 1000) (hbase : base ≤ w.heap.size) (hz0 : ∀ u, u ∈ z.cells.toList → notI u) (hnw : ∀ u, u ∈ news → notI u) (hcl : ∀ g, v.ownBlock = some g → NoInts w g)
    (h : ∀ g cap w', w'.ownsRow base e size (.slice (some ⟨g, 0, none⟩) (n + m) cap) (n + m) (xs ++ news) → w.grownBy w' v.ownBlock → NoInts w' g → wpList P ops Q rest (a.put o.dst (.slice (some ⟨g, 0, none⟩) (n + m) cap)) w') :
    wpList P ops Q (o :: rest) a w := by
  obtain ⟨hi, hz, hsize, hby⟩ := hI
  have h63 : n + m ≤ maxLen := by unfold maxLen; omega
  have hbytes : (n + m) * bytes ≤ 140737488355328 := Nat.le_trans (Nat.mul_le_mul hN hB) (by decide)
  obtain ⟨g, cap, w', hr, h2, h3, _, _⟩ := run_append_lies (P := P) w t o.type base e i z size bytes ht hi hz hsize hby hzs hsz v n xs hown ad m c news hl hnews h1 hm h63 hbytes hbase _ rfl
  have hC := append_clean w ht hi hz hsize hby hown hl hnews h1 hm h63 hbytes hz0 hnw hcl hr
  refine wpList_plain hgd fun K hKK => ?_
  unfold Oper.wp
  simp [execOp, ho, resolve, invoke, builtin, hs, hx, hr, Result.andThen]
  exact hKK _ _ (h g cap w' h2 h3 hC)
theorem put_threeB {W : World} {b : Nat} {x0 x1 x2 : Value} (y0 y1 y2 : Value) (h0 : W.cell? ⟨b, 0, none⟩ = some x0) (h1 : W.cell? ⟨b, 1, none⟩ = some x1) (h2 : W.cell? ⟨b, 2, none⟩ = some x2) :
    ((W.setCell ⟨b, 0, none⟩ y0).cell? ⟨b, 1, none⟩ = some x1 ∧ ((W.setCell ⟨b, 0, none⟩ y0).setCell ⟨b, 1, none⟩ y1).cell? ⟨b, 2, none⟩ = some x2) ∧
    ((((W.setCell ⟨b, 0, none⟩ y0).setCell ⟨b, 1, none⟩ y1).setCell ⟨b, 2, none⟩ y2).cell? ⟨b, 0, none⟩ = some y0 ∧ (((W.setCell ⟨b, 0, none⟩ y0).setCell ⟨b, 1, none⟩ y1).setCell ⟨b, 2, none⟩ y2).cell? ⟨b, 1, none⟩ = some y1) ∧
    (((W.setCell ⟨b, 0, none⟩ y0).setCell ⟨b, 1, none⟩ y1).setCell ⟨b, 2, none⟩ y2).cell? ⟨b, 2, none⟩ = some y2 := by
  have e1 : (W.setCell ⟨b, 0, none⟩ y0).cell? ⟨b, 1, none⟩ = some x1 := by rw [put_cell _ h0, if_neg (by simp)]; exact h1
  have e2 : ((W.setCell ⟨b, 0, none⟩ y0).setCell ⟨b, 1, none⟩ y1).cell? ⟨b, 2, none⟩ = some x2 := by rw [put_cell _ e1, if_neg (by simp), put_cell _ h0, if_neg (by simp)]; exact h2
  refine ⟨⟨e1, e2⟩, ⟨?_, ?_⟩, ?_⟩
  · rw [put_cell _ e2, if_neg (by simp), put_cell _ e1, if_neg (by simp), put_cell _ h0, if_pos rfl]
  · rw [put_cell _ e2, if_neg (by simp), put_cell _ e1, if_pos rfl]
  · rw [put_cell _ e2, if_pos rfl]
theorem whL_row (R C : Nat) (za zb : Nat → Nat → Int) (i : Nat) (bhZ : Nat → Nat → Int) (hZ : ∀ k, bhZ i k = (wholeP (lcmP (bhL R C za zb i)) (lowP (bhX R C za zb i k) (bhD R C za zb i)) : Int)) : whL (bhL R C za zb i) = rowL (bhZ i) C := by
  unfold whL rowL
  have e : (fun k => bhZ i k) = fun k => (wholeP (lcmP (bhL R C za zb i)) (lowP (bhX R C za zb i k) (bhD R C za zb i)) : Int) := funext hZ
  show _ = (List.range C).map (fun k => bhZ i k)
  rw [e]
  unfold bhL frcL
  rw [List.map_map]
  rfl
end Go.Proofs.YtnihclkaaglnjaaGreatDoor
