/- KNUTH's search trees: by all roots, and by parts. Plain functions. -/
namespace Go.Proofs.YtcigmihfannmjabDoor

/-- The weight of keys i to ahead of i + m, and of the gaps around them. -/
def kSum (f : Nat → Int) (i : Nat) : Nat → Int
  | 0 => 0
  | m + 1 => kSum f i m + f (i + m)
def wSum (ks gs : Nat → Int) (i m : Nat) : Int := kSum ks i m + kSum gs i (m + 1)
/-- Of the first c roots the first one at which f is least. -/
def argLeast (f : Nat → Int) : Nat → Nat
  | 0 => 0
  | c + 1 => if f (c + 1) < f (argLeast f c) then c + 1 else argLeast f c
theorem argLeast_le (f : Nat → Int) : ∀ c, argLeast f c ≤ c
  | 0 => Nat.le_refl _
  | c + 1 => by rw [argLeast]; split <;> have := argLeast_le f c <;> omega
theorem argLeast_congr {f g : Nat → Int} {c : Nat} (h : ∀ a b, a ≤ c → b ≤ c → (f a < f b ↔ g a < g b)) : argLeast f c = argLeast g c := by
  induction c with
  | zero => rfl
  | succ c ih =>
    have e := ih (fun a b ha hb => h a b (by omega) (by omega))
    rw [argLeast, argLeast, e]
    have := h (c + 1) (argLeast g c) (Nat.le_refl _) (by have := argLeast_le g c; omega)
    by_cases h1 : f (c + 1) < f (argLeast g c)
    · rw [if_pos h1, if_pos (this.1 h1)]
    · rw [if_neg h1, if_neg (fun h2 => h1 (this.2 h2))]
/-- The least cost of a tree over m keys from i on (fuel: as many as there are keys, at least). -/
def cost (ks gs : Nat → Int) : Nat → Nat → Nat → Int
  | 0, _, _ => 0
  | _ + 1, _, 0 => 0
  | u + 1, i, m + 1 => cost ks gs u i (argLeast (fun r => cost ks gs u i r + cost ks gs u (i + r + 1) (m - r)) m) + cost ks gs u (i + argLeast (fun r => cost ks gs u i r + cost ks gs u (i + r + 1) (m - r)) m + 1) (m - argLeast (fun r => cost ks gs u i r + cost ks gs u (i + r + 1) (m - r)) m) + wSum ks gs i (m + 1)
theorem cost_fuel (ks gs : Nat → Int) : ∀ (u v i m : Nat), m ≤ u → m ≤ v → cost ks gs u i m = cost ks gs v i m
  | 0, v, i, m, h, _ => by obtain rfl : m = 0 := by omega
                           cases v <;> simp [cost]
  | u + 1, 0, i, m, _, h => by obtain rfl : m = 0 := by omega
                               simp [cost]
  | u + 1, v + 1, i, 0, _, _ => by simp [cost]
  | u + 1, v + 1, i, m + 1, hu, hv => by
    have e : ∀ r, r ≤ m → cost ks gs u i r + cost ks gs u (i + r + 1) (m - r) = cost ks gs v i r + cost ks gs v (i + r + 1) (m - r) := fun r hr => by
      rw [cost_fuel ks gs u v i r (by omega) (by omega), cost_fuel ks gs u v (i + r + 1) (m - r) (by omega) (by omega)]
    have ea : argLeast (fun r => cost ks gs u i r + cost ks gs u (i + r + 1) (m - r)) m = argLeast (fun r => cost ks gs v i r + cost ks gs v (i + r + 1) (m - r)) m := argLeast_congr fun a b ha hb => by
      show _ < _ ↔ _ < _
      rw [e a ha, e b hb]
    rw [cost, cost, ea]
    have hl := argLeast_le (fun r => cost ks gs v i r + cost ks gs v (i + r + 1) (m - r)) m
    rw [e _ hl]
def cst (ks gs : Nat → Int) (i m : Nat) : Int := cost ks gs m i m
/-- Both sides of a root. -/
def sides2 (ks gs : Nat → Int) (i m r : Nat) : Int := cst ks gs i r + cst ks gs (i + r + 1) (m - r)
def rootOf (ks gs : Nat → Int) (i m : Nat) : Nat := argLeast (sides2 ks gs i m) m
theorem cst_zero (ks gs : Nat → Int) (i : Nat) : cst ks gs i 0 = 0 := by simp [cst, cost]
theorem cst_succ (ks gs : Nat → Int) (i m : Nat) : cst ks gs i (m + 1) = sides2 ks gs i m (rootOf ks gs i m) + wSum ks gs i (m + 1) := by
  have e : ∀ r, r ≤ m → cost ks gs m i r + cost ks gs m (i + r + 1) (m - r) = sides2 ks gs i m r := fun r hr => by
    unfold sides2 cst
    rw [cost_fuel ks gs m r i r (by omega) (by omega), cost_fuel ks gs m (m - r) (i + r + 1) (m - r) (by omega) (by omega)]
  have ea : argLeast (fun r => cost ks gs m i r + cost ks gs m (i + r + 1) (m - r)) m = rootOf ks gs i m := argLeast_congr fun a b ha hb => by
    show _ < _ ↔ _ < _
    rw [e a ha, e b hb]
  unfold cst
  rw [cost, ea]
  have hl : rootOf ks gs i m ≤ m := argLeast_le _ m
  rw [e _ hl]
theorem kSum_split (f : Nat → Int) (i a : Nat) : ∀ b, kSum f i (a + b) = kSum f i a + kSum f (i + a) b
  | 0 => by simp [kSum]
  | b + 1 => by rw [show a + (b + 1) = a + b + 1 by omega, kSum, kSum_split f i a b, kSum, show i + (a + b) = i + a + b by omega]; omega
/-- A root parts the weight. -/
theorem wSum_root (ks gs : Nat → Int) (i m r : Nat) (hr : r ≤ m) : wSum ks gs i r + ks (i + r) + wSum ks gs (i + r + 1) (m - r) = wSum ks gs i (m + 1) := by
  unfold wSum
  have h1 := kSum_split ks i (r + 1) (m - r)
  have h2 := kSum_split gs i (r + 1) (m - r + 1)
  rw [show r + 1 + (m - r) = m + 1 by omega] at h1
  rw [show r + 1 + (m - r + 1) = m + 1 + 1 by omega] at h2
  rw [show i + (r + 1) = i + r + 1 by omega] at h1 h2
  have h3 : kSum ks i (r + 1) = kSum ks i r + ks (i + r) := rfl
  rw [h1, h2, h3]
  omega
/-- What the document says at a depth: the cost and, for each level above, the weight. -/
def deepC (ks gs : Nat → Int) (i m d : Nat) : Int := cst ks gs i m + (d : Int) * wSum ks gs i m
theorem deepC_zero (ks gs : Nat → Int) (i d : Nat) : deepC ks gs i 0 d = gs i * (d : Int) := by
  unfold deepC; rw [cst_zero]; simp [wSum, kSum, Int.mul_comm]
theorem deepC_root (ks gs : Nat → Int) (i m r d : Nat) (hr : r ≤ m) : deepC ks gs i r (d + 1) + deepC ks gs (i + r + 1) (m - r) (d + 1) + ks (i + r) * ((d : Int) + 1) = sides2 ks gs i m r + ((d : Int) + 1) * wSum ks gs i (m + 1) := by
  unfold deepC sides2
  have h1 : ((d + 1 : Nat) : Int) = (d : Int) + 1 := by omega
  have h2 : ((d : Int) + 1) * wSum ks gs i (m + 1) = ((d : Int) + 1) * wSum ks gs i r + ((d : Int) + 1) * ks (i + r) + ((d : Int) + 1) * wSum ks gs (i + r + 1) (m - r) := by rw [← wSum_root ks gs i m r hr, Int.mul_add, Int.mul_add]
  rw [h1, h2, Int.mul_comm (ks (i + r))]
  generalize ((d : Int) + 1) * wSum ks gs i r = A
  generalize ((d : Int) + 1) * ks (i + r) = B
  generalize ((d : Int) + 1) * wSum ks gs (i + r + 1) (m - r) = C
  omega
theorem deepC_succ (ks gs : Nat → Int) (i m d : Nat) : deepC ks gs i (m + 1) d = sides2 ks gs i m (rootOf ks gs i m) + ((d : Int) + 1) * wSum ks gs i (m + 1) := by
  unfold deepC
  rw [cst_succ, Int.add_mul]
  omega
/-- Bounds. -/
theorem kSum_bound {f : Nat → Int} {B : Int} (hf : ∀ i, 0 ≤ f i ∧ f i ≤ B) (i : Nat) : ∀ m, 0 ≤ kSum f i m ∧ kSum f i m ≤ (m : Int) * B
  | 0 => by simp [kSum]
  | m + 1 => by
    have h1 := kSum_bound hf i m
    have h2 := hf (i + m)
    rw [kSum, show ((m + 1 : Nat) : Int) * B = (m : Int) * B + B by rw [show ((m + 1 : Nat) : Int) = (m : Int) + 1 by omega, Int.add_mul]; omega]
    omega
theorem wSum_bound {ks gs : Nat → Int} (hk : ∀ i, 0 ≤ ks i ∧ ks i ≤ 4096) (hg : ∀ i, 0 ≤ gs i ∧ gs i ≤ 4096) (i m : Nat) (hm : m ≤ 16) : 0 ≤ wSum ks gs i m ∧ wSum ks gs i m ≤ 140000 := by
  have h1 := kSum_bound hk i m
  have h2 := kSum_bound hg i (m + 1)
  unfold wSum; omega
theorem cst_bound {ks gs : Nat → Int} (hk : ∀ i, 0 ≤ ks i ∧ ks i ≤ 4096) (hg : ∀ i, 0 ≤ gs i ∧ gs i ≤ 4096) : ∀ (u i m : Nat), m ≤ u → m ≤ 16 → 0 ≤ cst ks gs i m ∧ cst ks gs i m ≤ (m : Int) * 140000
  | _, i, 0, _, _ => by rw [cst_zero]; simp
  | 0, i, m + 1, h, _ => by omega
  | u + 1, i, m + 1, hu, hm => by
    have hl : rootOf ks gs i m ≤ m := argLeast_le _ m
    have h1 := cst_bound hk hg u i (rootOf ks gs i m) (by omega) (by omega)
    have h2 := cst_bound hk hg u (i + rootOf ks gs i m + 1) (m - rootOf ks gs i m) (by omega) (by omega)
    have h3 := wSum_bound hk hg i (m + 1) hm
    rw [cst_succ, sides2]
    omega
end Go.Proofs.YtcigmihfannmjabDoor
