/- The law LogsAdds. -/
import Derived.Test.YtkcpmfilencekabGreatDoorOnes
import Derived.Test.YtkcpmfilencekabGreatDoorSame
namespace Go.Proofs.YtkcpmfilencekabGreatDoor
open Go.RowKit

theorem lcm_two {da db g : Nat} (hg : g = Int.gcd (da : Int) (db : Int)) (hda : 0 < da) : da / g * db = da * 1 * (db / g) ∧ da / g * db = db * 1 * (da / g) ∧ 0 < g := by
  have h1 : g = Nat.gcd da db := by rw [hg]; simp [Int.gcd]
  have hp : 0 < g := by rw [h1]; exact Nat.gcd_pos_of_pos_left _ hda
  obtain ⟨a, ha⟩ : g ∣ da := by rw [h1]; exact Nat.gcd_dvd_left _ _
  obtain ⟨b, hb⟩ : g ∣ db := by rw [h1]; exact Nat.gcd_dvd_right _ _
  clear hg h1
  have e1 : da / g = a := by rw [ha]; exact Nat.mul_div_cancel_left _ hp
  have e2 : db / g = b := by rw [hb]; exact Nat.mul_div_cancel_left _ hp
  rw [e1, e2]
  refine ⟨?_, ?_, hp⟩
  · rw [ha, hb]; grind
  · rw [hb]; grind

/-- Add's answer of two in form. -/
theorem Add_said (da db : Nat) (ad1 ad2 : Option Addr) (cap1 cap2 : Nat) (t1 t2 : List (Int × Int)) (a : Nat → Addr) (w : World) (h : Errs w a) (hl1 : LogAt w (.slice ad1 t1.length cap1) t1.length (pOf t1) (cOf t1)) (hl2 : LogAt w (.slice ad2 t2.length cap2) t2.length (pOf t2) (cOf t2))
    (hok1 : OkLog da t1.length (pOf t1) (cOf t1)) (hok2 : OkLog db t2.length (pOf t2) (cOf t2)) (hn : t1.length + t2.length ≤ 100) (g : Nat) (hg : g = Int.gcd (da : Int) (db : Int)) :
    Calls Tryz.prog 11 #[.agg #[.int .i64 da, .slice ad1 t1.length cap1], .agg #[.int .i64 db, .slice ad2 t2.length cap2]] w fun e w' => ∃ (l : List (Int × Int)) (dn : Int) (ad : Option Addr) (len cap : Nat) (er : Value), e = .returned (.tuple #[.agg #[.int .i64 dn, .slice ad len cap], er]) ∧ Rising l ∧ (∀ x, atL l x = atL t1 x * ((db / g : Nat) : Int) + atL t2 x * ((da / g : Nat) : Int)) ∧ l.length ≤ t1.length + t2.length ∧ SaidOf (da / g * db) l a w' dn (.slice ad len cap) er ∧ Below w.heap.size w w' := by
  refine (Add_any da db ad1 ad2 cap1 cap2 t1 t2 a w h hl1 hl2 hok1 hok2 hn g hg).mono ?_
  rintro e w' ⟨⟨l, G, hr, hv, hG, hln, hx⟩, hb⟩
  rw [gcdL_list hr] at hG
  have hf : Fits ((da / g * db : Nat) : Int) G l ↔ FitsL (da / g * db) G l := by
    unfold Fits FitsL
    have : (((da / g * db : Nat) : Int) / (G : Int) ≤ 1000000) ↔ da / g * db / G ≤ 1000000 := by
      generalize da / g * db = D
      rw [show (D : Int) / (G : Int) = ((D / G : Nat) : Int) by simp]
      omega
    rw [this]
  rcases hx with ⟨hfit, v, rfl, hl⟩ | ⟨hfit, rfl⟩
  · obtain ⟨ad, m, cap, rfl⟩ := own_form hl
    refine ⟨l, _, ad, m, cap, .nilIface, rfl, hr, hv, hln, Or.inl ?_, hb⟩
    rw [hG]
    exact ⟨hf.1 hfit, by simp, rfl, hl⟩
  · refine ⟨l, 0, none, 0, 0, _, rfl, hr, hv, hln, Or.inr ?_, hb⟩
    rw [hG]
    exact ⟨fun h => hfit (hf.2 h), rfl, rfl, rfl⟩

/-- The document's sum of two in form. -/
theorem LogSum_two (da db g : Nat) (xv yv : Value) (ad1 ad2 : Option Addr) (cap1 cap2 : Nat) (t1 t2 : List (Int × Int)) (w : World) (hl1 : LogAt w (.slice ad1 t1.length cap1) t1.length (pOf t1) (cOf t1)) (hl2 : LogAt w (.slice ad2 t2.length cap2) t2.length (pOf t2) (cOf t2)) (hx : RatioAt w xv 1 1) (hy : RatioAt w yv 1 1)
    (hok1 : OkLog da t1.length (pOf t1) (cOf t1)) (hok2 : OkLog db t2.length (pOf t2) (cOf t2)) (hn1 : t1.length ≤ 30) (hn2 : t2.length ≤ 30) (hg : g = Int.gcd (da : Int) (db : Int)) :
    Calls Tryz.prog 9 #[.agg #[.int .i64 da, .slice ad1 t1.length cap1], xv, .agg #[.int .i64 db, .slice ad2 t2.length cap2], yv] w fun e w' => ∃ (l : List (Int × Int)) (dn : Int) (ad : Option Addr) (len cap : Nat) (code : Int), e = .returned (.tuple #[.agg #[.int .i64 dn, .slice ad len cap], .int .i64 code]) ∧ Rising l ∧ (∀ x, atL l x = atL t1 x * ((db / g : Nat) : Int) + atL t2 x * ((da / g : Nat) : Int)) ∧ ToldOf (da / g * db) l w' dn (.slice ad len cap) code ∧ Below w.heap.size w w' := by
  have hda := hok1.1
  have hda6 := hok1.2.1
  have hdb := hok2.1
  have hdb6 := hok2.2.1
  obtain ⟨e1, e2, hgp⟩ := lcm_two hg (by omega)
  have q1 : db / g ≤ 1000000 := Nat.le_trans (Nat.div_le_self _ _) (by omega)
  have q2 : da / g ≤ 1000000 := Nat.le_trans (Nat.div_le_self _ _) (by omega)
  have hM0 : 0 < da / g * db := by
    refine Nat.mul_pos (Nat.div_pos (Nat.le_of_dvd (by omega) ?_) hgp) (by omega)
    rw [hg, show Int.gcd (da : Int) (db : Int) = Nat.gcd da db by simp [Int.gcd]]
    exact Nat.gcd_dvd_left _ _
  have hMb : da / g * db ≤ 1000000 * 1000000 := Nat.mul_le_mul q2 (by omega)
  have p4 : (1000000 : Nat) ^ 4 = 1000000000000000000000000 := by decide
  have pc1 := okLog_pc hok1
  have pc2 := okLog_pc hok2
  have f1 : ((1 : Int) * ((db / g : Nat) : Int)).natAbs ≤ 1000000 := by rw [Int.one_mul, Int.natAbs_natCast]; exact q1
  have f2 : ((1 : Int) * ((da / g : Nat) : Int)).natAbs ≤ 1000000 := by rw [Int.one_mul, Int.natAbs_natCast]; exact q2
  have s1 : ∀ x k, k ≤ t1.length → ((1 : Int) * ((db / g : Nat) : Int) * sumAt (pOf t1) (cOf t1) x k).natAbs ≤ 1000000 * (30 * 1099511627776) := fun x k hk => mul_bound f1 (Nat.le_trans (sumAt_le pc1 x k hk) (Nat.mul_le_mul_right _ (by omega)))
  have s2 : ∀ x k, k ≤ t2.length → ((1 : Int) * ((da / g : Nat) : Int) * sumAt (pOf t2) (cOf t2) x k).natAbs ≤ 1000000 * (30 * 1099511627776) := fun x k hk => mul_bound f2 (Nat.le_trans (sumAt_le pc2 x k hk) (Nat.mul_le_mul_right _ (by omega)))
  refine (LogSum_any (da / g * db) da db 1 1 (db / g) (da / g) 1 1 xv yv ad1 ad2 t1.length t2.length cap1 cap2 (pOf t1) (cOf t1) (pOf t2) (cOf t2) 4 w hl1 hl2 hx hy e1 e2 hM0 hn1 hn2 pc1 pc2 (by omega) (by omega) (by rw [p4]; decide) (by rw [p4]; decide)
    (fun i hi => by rw [p4]; exact Nat.lt_of_le_of_lt (mul_bound f1 (b := 1099511627776) (by have := pc1 i hi; omega)) (by decide)) (fun i hi => by rw [p4]; exact Nat.lt_of_le_of_lt (mul_bound f2 (b := 1099511627776) (by have := pc2 i hi; omega)) (by decide))
    (fun x k hk => by rw [p4]; exact Nat.lt_of_le_of_lt (s1 x k hk) (by decide)) (fun x k hk => by rw [p4]; exact Nat.lt_of_le_of_lt (Nat.le_trans (Int.natAbs_add_le _ _) (Nat.add_le_add (s1 x t1.length (Nat.le_refl _)) (s2 x k hk))) (by decide)) (by rw [p4]; omega) (by decide) (by decide)).mono ?_
  rintro e w' ⟨l, dn, ad, len, cap, code, rfl, hr, hv, _, ht, hb⟩
  have r1 : Rising t1 := (show OkLog (da : Int) t1.length (pOf t1) (cOf t1) from hok1).rising
  have r2 : Rising t2 := (show OkLog (db : Int) t2.length (pOf t2) (cOf t2) from hok2).rising
  refine ⟨l, dn, ad, len, cap, code, rfl, hr, fun x => ?_, ht, hb⟩
  rw [hv, sumAt_all r1, sumAt_all r2, Int.one_mul, Int.one_mul, Int.mul_comm, Int.mul_comm ((da / g : Nat) : Int)]
end Go.Proofs.YtkcpmfilencekabGreatDoor
