/- The least programs, level by level: plain functions. -/
import Derived.Test.YtdfcipdknfebpaaDoorMacMath
import Derived.Lib.Bytealg
namespace Go.Proofs.YtdfcipdknfebpaaDoor

/-- A map from texts to programs. -/
inductive MT where
  | nil : MT
  | node (v : Option Pg) (l r : MT) : MT
def MT.get : MT → List UInt8 → Option Pg
  | .nil, _ => none
  | .node v _ _, [] => v
  | .node _ l r, c :: t => if c = 48 then l.get t else r.get t
def MT.put (p : Pg) : List UInt8 → MT → MT
  | [], .nil => .node (some p) .nil .nil
  | [], .node _ l r => .node (some p) l r
  | c :: t, .nil => if c = 48 then .node .none (MT.put p t .nil) .nil else .node .none .nil (MT.put p t .nil)
  | c :: t, .node v l r => if c = 48 then .node v (MT.put p t l) r else .node v l (MT.put p t r)
theorem MT.get_put (p : Pg) : ∀ (x y : List UInt8) (T : MT), bitL x = true → bitL y = true → (MT.put p x T).get y = if x = y then some p else T.get y := by
  intro x
  induction x with
  | nil =>
    intro y T _ _
    cases T <;> cases y <;> simp [MT.put, MT.get]
  | cons c t ih =>
    intro y T hx hy
    have hc := (mem_bit.1 hx) c (by simp)
    have ht : bitL t = true := mem_bit.2 fun d hd => mem_bit.1 hx d (by simp [hd])
    cases y with
    | nil => cases T <;> rcases hc with rfl | rfl <;> simp [MT.put, MT.get]
    | cons d s =>
      have hd := (mem_bit.1 hy) d (by simp)
      have hs : bitL s = true := mem_bit.2 fun e he => mem_bit.1 hy e (by simp [he])
      have ih2 := fun T => ih s T ht hs
      cases T <;> rcases hc with rfl | rfl <;> rcases hd with rfl | rfl <;> simp [MT.put, MT.get, ih2]
/-- Texts in order of their bytes. -/
def ltU : List UInt8 → List UInt8 → Bool
  | [], [] => false
  | [], _ :: _ => true
  | _ :: _, [] => false
  | a :: s, b :: t => if a < b then true else if b < a then false else ltU s t
theorem ltU_cmp : ∀ a b : List UInt8, decide (Lib.compareBytes a b < 0) = ltU a b
  | [], [] => rfl
  | [], _ :: _ => rfl
  | _ :: _, [] => rfl
  | a :: s, b :: t => by
    unfold Lib.compareBytes ltU
    by_cases h : a < b
    · simp [h]
    · by_cases h2 : b < a
      · simp [h, h2]
      · simp only [h, h2, if_false]; exact ltU_cmp s t
theorem ltU_irrefl : ∀ a : List UInt8, ltU a a = false
  | [] => rfl
  | a :: s => by unfold ltU; simp only [UInt8.lt_irrefl, if_false]; exact ltU_irrefl s
theorem ltU_trans : ∀ a b c : List UInt8, ltU a b = true → ltU b c = true → ltU a c = true
  | [], b, [], h1, h2 => by cases b <;> simp [ltU] at h1 h2
  | [], _, _ :: _, _, _ => rfl
  | _ :: _, [], _, h1, _ => by simp [ltU] at h1
  | _ :: _, _ :: _, [], _, h2 => by simp [ltU] at h2
  | a :: s, b :: t, c :: u, h1, h2 => by
    unfold ltU at h1 h2 ⊢
    simp only [UInt8.lt_iff_toNat_lt] at h1 h2 ⊢
    by_cases x1 : a.toNat < b.toNat
    · by_cases y1 : b.toNat < c.toNat
      · rw [if_pos (by omega)]
      · by_cases y2 : c.toNat < b.toNat
        · simp [y1, y2] at h2
        · rw [if_pos (by omega)]
    · by_cases x2 : b.toNat < a.toNat
      · simp [x1, x2] at h1
      · simp only [x1, x2, if_false] at h1
        by_cases y1 : b.toNat < c.toNat
        · rw [if_pos (by omega)]
        · by_cases y2 : c.toNat < b.toNat
          · simp [y1, y2] at h2
          · simp only [y1, y2, if_false] at h2
            rw [if_neg (by omega), if_neg (by omega)]
            exact ltU_trans s t u h1 h2
theorem ltU_total : ∀ a b : List UInt8, ltU a b = false → ltU b a = false → a = b
  | [], [], _, _ => rfl
  | [], _ :: _, h, _ => by simp [ltU] at h
  | _ :: _, [], _, h => by simp [ltU] at h
  | a :: s, b :: t, h1, h2 => by
    unfold ltU at h1 h2
    by_cases x1 : a < b
    · simp [x1] at h1
    · by_cases x2 : b < a
      · simp [x2] at h2
      · simp only [x1, x2, if_false] at h1 h2
        have e : a = b := by
          rw [UInt8.lt_iff_toNat_lt] at x1 x2
          exact UInt8.toNat_inj.1 (by omega)
        rw [e, ltU_total s t h1 h2]
theorem ltU_ntrans (a b c : List UInt8) (h1 : ltU a b = false) (h2 : ltU b c = false) : ltU a c = false := by
  cases h : ltU a c with
  | false => rfl
  | true =>
    cases h3 : ltU b a with
    | true => rw [ltU_trans b a c h3 h] at h2; exact absurd h2 (by simp)
    | false => rw [ltU_total a b h1 h3] at h; rw [h] at h2; exact absurd h2 (by simp)
def ltP (p q : Pg) : Bool := ltU (fla p) (fla q)
theorem ltP_trans {a b c : Pg} (h1 : ltP a b = true) (h2 : ltP b c = true) : ltP a c = true := ltU_trans _ _ _ h1 h2
def six : List (Fin 6) := [0, 1, 2, 3, 4, 5]
def mrg : Nat → List Pg → List Pg → List Pg
  | 0, a, b => a ++ b
  | _ + 1, [], b => b
  | _ + 1, a :: s, [] => a :: s
  | f + 1, a :: s, b :: t => if ltP b a then b :: mrg f (a :: s) t else a :: mrg f s (b :: t)
theorem mrg_perm : ∀ (f : Nat) (a b : List Pg), (mrg f a b).Perm (a ++ b)
  | 0, a, b => List.Perm.refl _
  | f + 1, [], b => by simp [mrg]
  | f + 1, a :: s, [] => by simp [mrg]
  | f + 1, a :: s, b :: t => by
    unfold mrg
    by_cases h : ltP b a = true
    · rw [if_pos h]
      refine (List.Perm.cons b (mrg_perm f (a :: s) t)).trans ?_
      exact (List.perm_middle (l₁ := a :: s)).symm
    · rw [if_neg h]
      exact List.Perm.cons a (mrg_perm f s (b :: t))
/-- The programs of n bytes that are to be looked at, part by part. -/
def lonL (L : List (List Pg)) (n : Nat) (k : Fin 6) : List Pg := if (mW k).length ≤ n then (L.getD (n - (mW k).length) []).map (· ++ [k]) else []
def lon (L : List (List Pg)) (n : Nat) : List Pg := if n = 0 then [[]] else six.flatMap (lonL L n)
/-- The same in order of their bytes. -/
def lonS (L : List (List Pg)) (n : Nat) : List Pg := if n = 0 then [[]] else six.foldl (fun a k => mrg 4000 a (lonL L n k)) []
theorem fold_perm (f : Fin 6 → List Pg) : ∀ (l : List (Fin 6)) (a : List Pg), (l.foldl (fun a k => mrg 4000 a (f k)) a).Perm (a ++ l.flatMap f)
  | [], a => by simp
  | k :: l, a => by
    rw [List.foldl_cons, List.flatMap_cons, ← List.append_assoc]
    exact (fold_perm f l _).trans ((mrg_perm 4000 a (f k)).append_right _)
theorem lonS_perm (L : List (List Pg)) (n : Nat) : (lonS L n).Perm (lon L n) := by
  unfold lonS lon
  split
  · exact List.Perm.refl _
  · exact fold_perm (lonL L n) six []
def srtd : List Pg → Bool
  | a :: b :: r => ltP a b && srtd (b :: r)
  | _ => true
theorem srtd_pair : ∀ l : List Pg, srtd l = true → l.Pairwise (fun a b => ltP a b = true)
  | [], _ => List.Pairwise.nil
  | [a], _ => by simp
  | a :: b :: r, h => by
    unfold srtd at h
    rw [Bool.and_eq_true] at h
    have ih := srtd_pair (b :: r) h.2
    refine List.Pairwise.cons (fun x hx => ?_) ih
    rcases List.mem_cons.1 hx with rfl | hx
    · exact h.1
    · exact ltP_trans h.1 ((List.pairwise_cons.1 ih).1 x hx)
theorem sort_is {L : List (List Pg)} {n : Nat} (h : srtd (lonS L n) = true) : (lon L n).mergeSort (fun x y => !ltP y x) = lonS L n := by
  refine List.Perm.eq_of_pairwise (le := fun a b => (!ltP b a) = true) (fun a b _ _ h1 h2 => ?_) ?_ ?_ ((List.mergeSort_perm ..).trans (lonS_perm L n).symm)
  · simp only [Bool.not_eq_true'] at h1 h2
    exact fla_inj (ltU_total _ _ h2 h1)
  · refine List.pairwise_mergeSort (fun a b c h1 h2 => ?_) (fun a b => ?_) _
    · simp only [Bool.not_eq_true'] at h1 h2 ⊢
      exact ltU_ntrans _ _ _ h2 h1
    · cases h1 : ltP b a with
      | false => rfl
      | true =>
        cases h2 : ltP a b with
        | false => rfl
        | true => have := ltP_trans h1 h2; unfold ltP at this; rw [ltU_irrefl] at this; exact absurd this (by simp)
  · refine (srtd_pair _ h).imp (fun {a b} h1 => ?_)
    cases h2 : ltP b a with
    | false => rfl
    | true => have := ltP_trans h1 h2; unfold ltP at this; rw [ltU_irrefl] at this; exact absurd this (by simp)
def frs : List Pg → MT → List Pg × MT
  | [], T => ([], T)
  | p :: r, T => if 24 < (stp p).length then frs r T else match T.get (stp p) with
    | some _ => frs r T
    | .none => let q := frs r (MT.put p (stp p) T); (p :: q.1, q.2)
theorem frs_snoc (p : Pg) : ∀ (l : List Pg) (T : MT), frs (l ++ [p]) T = if 24 < (stp p).length then frs l T else match (frs l T).2.get (stp p) with
    | some _ => frs l T
    | .none => ((frs l T).1 ++ [p], MT.put p (stp p) (frs l T).2)
  | [], T => by
    simp only [List.nil_append, frs]
  | q :: l, T => by
    rw [List.cons_append]
    simp only [frs]
    by_cases h : 24 < (stp q).length
    · simp only [if_pos h]; exact frs_snoc p l T
    · simp only [if_neg h]
      cases hg : T.get (stp q) with
      | some v => exact frs_snoc p l T
      | none =>
        simp only []
        rw [frs_snoc p l]
        by_cases h2 : 24 < (stp p).length
        · simp only [if_pos h2]
        · simp only [if_neg h2]
          cases hg2 : (frs l (MT.put q (stp q) T)).2.get (stp p) <;> simp
theorem frs_long {p : Pg} (l : List Pg) (T : MT) (h : 24 < (stp p).length) : frs (l ++ [p]) T = frs l T := by rw [frs_snoc, if_pos h]
theorem frs_old {p : Pg} (l : List Pg) (T : MT) (h : ¬ 24 < (stp p).length) (h2 : ((frs l T).2.get (stp p)).isSome = true) : frs (l ++ [p]) T = frs l T := by
  rw [frs_snoc, if_neg h]
  cases h3 : (frs l T).2.get (stp p) with
  | some v => rfl
  | none => rw [h3] at h2; exact absurd h2 (by simp)
theorem frs_new {p : Pg} (l : List Pg) (T : MT) (h : ¬ 24 < (stp p).length) (h2 : ((frs l T).2.get (stp p)).isSome = false) : frs (l ++ [p]) T = ((frs l T).1 ++ [p], MT.put p (stp p) (frs l T).2) := by
  rw [frs_snoc, if_neg h]
  cases h3 : (frs l T).2.get (stp p) with
  | some v => rw [h3] at h2; exact absurd h2 (by simp)
  | none => rfl
theorem frs_len : ∀ (l : List Pg) (T : MT), (frs l T).1.length ≤ l.length
  | [], _ => Nat.le_refl _
  | p :: r, T => by
    unfold frs
    split
    · exact Nat.le_trans (frs_len r T) (Nat.le_succ _)
    · split
      · exact Nat.le_trans (frs_len r T) (Nat.le_succ _)
      · simp only [List.length_cons]; exact Nat.succ_le_succ (frs_len r _)
def lvl : Nat → List (List Pg) × MT
  | 0 => ([], .nil)
  | n + 1 => let r := lvl n; let q := frs (lonS r.1 n) r.2; (r.1 ++ [q.1], q.2)
theorem lvl_len : ∀ n, (lvl n).1.length = n
  | 0 => rfl
  | n + 1 => by show ((lvl n).1 ++ [_]).length = _; rw [List.length_append, lvl_len n]; rfl
/-- All least programs, in order. -/
def allE (n : Nat) : List Pg := (lvl n).1.flatten
theorem allE_succ (n : Nat) : allE (n + 1) = allE n ++ (frs (lonS (lvl n).1 n) (lvl n).2).1 := by
  show ((lvl n).1 ++ [_]).flatten = _
  rw [List.flatten_append]; simp [allE]
theorem frs_find : ∀ (l : List Pg) (T : MT) (E : List Pg), (∀ x, bitL x = true → T.get x = E.find? (fun p => decide (stp p = x))) → ∀ x, bitL x = true → (frs l T).2.get x = (E ++ (frs l T).1).find? (fun p => decide (stp p = x))
  | [], T, E, h, x, hx => by simp only [frs, List.append_nil]; exact h x hx
  | p :: r, T, E, h, x, hx => by
    unfold frs
    split
    · exact frs_find r T E h x hx
    · cases hg : T.get (stp p) with
      | some v => exact frs_find r T E h x hx
      | none =>
        have ih := frs_find r (MT.put p (stp p) T) (E ++ [p]) (fun y hy => by
          rw [MT.get_put p (stp p) y T (stp_bit p) hy, List.find?_append, ← h y hy]
          by_cases e : stp p = y
          · rw [if_pos e, ← e, hg]; simp
          · rw [if_neg e]; simp [e]) x hx
        simpa using ih
theorem lvl_find : ∀ (n : Nat) (x : List UInt8), bitL x = true → (lvl n).2.get x = (allE n).find? (fun p => decide (stp p = x))
  | 0, x, _ => by simp [lvl, MT.get, allE]
  | n + 1, x, hx => by
    rw [allE_succ]
    exact frs_find _ _ _ (fun y hy => lvl_find n y hy) x hx
end Go.Proofs.YtdfcipdknfebpaaDoor
