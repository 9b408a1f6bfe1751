/- logs.Add by forms. -/
import Derived.Test.YtiecbconcdncmabDoorRingGrains
import Derived.Test.YtiecbconcdncmabDoorScaleBack
namespace Go.Proofs.YtiecbconcdncmabDoor
open Go.RowKit Go.Maps

/-- A form of the sum of two. -/
structure SumIs (da db : Nat) (t1 t2 : List (Int × Int)) (d : Nat) (t : List (Int × Int)) : Prop where
  can : Canon d t
  val : ∀ x, atL t x * ((da : Int) * (db : Int)) = (atL t1 x * (db : Int) + atL t2 x * (da : Int)) * (d : Int)
  len : t.length ≤ t1.length + t2.length
/-- The sum of two is in form. -/
def SumOk (da db : Int) (t1 t2 : List (Int × Int)) (d : Nat) (t : List (Int × Int)) : Prop := OkLog da t1.length (pOf t1) (cOf t1) ∧ OkLog db t2.length (pOf t2) (cOf t2) ∧ SumIs da.toNat db.toNat t1 t2 d t ∧ d ≤ 1000000 ∧ ∀ e ∈ t, e.2.natAbs ≤ 1099511627776
theorem SumOk.ok {da db : Int} {t1 t2 : List (Int × Int)} {d : Nat} {t : List (Int × Int)} (h : SumOk da db t1 t2 d t) : OkLog d t.length (pOf t) (cOf t) := by
  obtain ⟨h1, h2, h3, h4, h5⟩ := h
  have hp := h3.can.pos
  refine okLog_list h3.can.rise (fun e he => ?_) (by omega) (by omega) ?_
  · have hv := h3.val e.1
    rw [atL_mem h3.can.rise he] at hv
    have hnz := h3.can.nz e he
    have hb := h5 e he
    have hda : 0 < da.toNat := by have := h1.1; omega
    have hdb : 0 < db.toNat := by have := h2.1; omega
    have hpr : TermOk e.1 e.2 ∨ (atL t1 e.1 = 0 ∧ atL t2 e.1 = 0) := by
      by_cases q1 : atL t1 e.1 = 0
      · by_cases q2 : atL t2 e.1 = 0
        · exact Or.inr ⟨q1, q2⟩
        · have := h2.mem _ (atL_some q2)
          exact Or.inl ⟨this.1, hnz, by omega, by omega, this.2.2.2.2.1, this.2.2.2.2.2⟩
      · have := h1.mem _ (atL_some q1)
        exact Or.inl ⟨this.1, hnz, by omega, by omega, this.2.2.2.2.1, this.2.2.2.2.2⟩
    rcases hpr with h | ⟨q1, q2⟩
    · exact h
    · rw [q1, q2] at hv
      exfalso
      have h6 : e.2 * ((da.toNat : Int) * (db.toNat : Int)) = 0 := by rw [hv]; simp
      rcases Int.mul_eq_zero.1 h6 with h7 | h7
      · exact hnz h7
      · rcases Int.mul_eq_zero.1 h7 with h8 | h8 <;> omega
  · rw [gcdTo_list _ _ _ (Nat.le_refl _), List.take_length, Int.natAbs_natCast]
    exact h3.can.one
theorem SumOk.uniq {da db : Int} {t1 t2 : List (Int × Int)} {d d' : Nat} {t t' : List (Int × Int)} (h : SumOk da db t1 t2 d t) (h' : SumOk da db t1 t2 d' t') : d = d' ∧ t = t' := by
  have hda : 0 < da.toNat := by have := h.1.1; omega
  have hdb : 0 < db.toNat := by have := h.2.1.1; omega
  refine canon_uniq h.2.2.1.can h'.2.2.1.can (fun x => ?_)
  have h1 := h.2.2.1.val x
  have h2 := h'.2.2.1.val x
  have hp : ((da.toNat : Int) * (db.toNat : Int)) ≠ 0 := by
    intro h0
    rcases Int.mul_eq_zero.1 h0 with h3 | h3 <;> omega
  refine Int.eq_of_mul_eq_mul_right hp ?_
  generalize (da.toNat : Int) * (db.toNat : Int) = M at *
  grind
theorem SumOk.comm {da db : Int} {t1 t2 : List (Int × Int)} {d : Nat} {t : List (Int × Int)} (h : SumOk da db t1 t2 d t) : SumOk db da t2 t1 d t :=
  ⟨h.2.1, h.1, ⟨h.2.2.1.can, fun x => by rw [Int.mul_comm (db.toNat : Int), h.2.2.1.val x, Int.add_comm], by have := h.2.2.1.len; omega⟩, h.2.2.2⟩
/-- In any brackets. -/
theorem SumOk.assoc {da db dc : Int} {ta tb tc tx tp tq tr : List (Int × Int)} {dx dp dq dr : Nat} (h1 : SumOk da db ta tb dx tx) (h2 : SumOk dx dc tx tc dp tp) (h3 : SumOk db dc tb tc dq tq) (h4 : SumOk da dq ta tq dr tr) : dp = dr ∧ tp = tr := by
  refine canon_uniq h2.2.2.1.can h4.2.2.1.can (fun x => ?_)
  have e1 := h1.2.2.1.val x
  have e2 := h2.2.2.1.val x
  have e3 := h3.2.2.1.val x
  have e4 := h4.2.2.1.val x
  have pa : (da.toNat : Int) ≠ 0 := by have := h1.1.1; omega
  have pb : (db.toNat : Int) ≠ 0 := by have := h1.2.1.1; omega
  have pc : (dc.toNat : Int) ≠ 0 := by have := h2.2.1.1; omega
  have px : (dx : Int) ≠ 0 := by have := h1.2.2.1.can.pos; omega
  have pq : (dq : Int) ≠ 0 := by have := h3.2.2.1.can.pos; omega
  rw [Int.toNat_natCast] at e2 e4
  generalize (da.toNat : Int) = A at *
  generalize (db.toNat : Int) = B at *
  generalize (dc.toNat : Int) = C at *
  generalize (dx : Int) = X at *
  generalize (dp : Int) = P at *
  generalize (dq : Int) = Q at *
  generalize (dr : Int) = R at *
  generalize atL tx x = x' at *
  generalize atL tp x = p' at *
  generalize atL tq x = q' at *
  generalize atL tr x = r' at *
  generalize atL ta x = a' at *
  generalize atL tb x = b' at *
  generalize atL tc x = c' at *
  have f1 : p' * (A * B * C) * X = (a' * B * C + b' * A * C + c' * A * B) * P * X := by grind
  have f2 : r' * (A * B * C) * Q = (a' * B * C + b' * A * C + c' * A * B) * R * Q := by grind
  have f3 := Int.eq_of_mul_eq_mul_right px f1
  have f4 := Int.eq_of_mul_eq_mul_right pq f2
  have hM : A * B * C ≠ 0 := by
    intro h0
    rcases Int.mul_eq_zero.1 h0 with h5 | h5
    · rcases Int.mul_eq_zero.1 h5 with h6 | h6
      · exact pa h6
      · exact pb h6
    · exact pc h5
  refine Int.eq_of_mul_eq_mul_right hM ?_
  generalize A * B * C = M at *
  generalize a' * B * C + b' * A * C + c' * A * B = S at *
  calc p' * R * M = p' * M * R := by rw [Int.mul_right_comm]
    _ = S * P * R := by rw [f3]
    _ = S * R * P := by rw [Int.mul_right_comm]
    _ = r' * M * P := by rw [f4]
    _ = r' * P * M := by rw [Int.mul_right_comm]

/-- Add, by forms. -/
theorem Add_all (da db : Int) (v1 v2 : Value) (t1 t2 : List (Int × Int)) (a : Nat → Addr) (w : World) (h : Errs w a) (hl1 : LogAt w v1 t1.length (pOf t1) (cOf t1)) (hl2 : LogAt w v2 t2.length (pOf t2) (cOf t2)) (hn : t1.length + t2.length ≤ 100) :
    Calls Tryd.prog 7 #[.agg #[.int .i64 da, v1], .agg #[.int .i64 db, v2]] w fun e w' => ((∃ d t v, SumOk da db t1 t2 d t ∧ e = .returned (.tuple #[.agg #[.int .i64 (d : Nat), v], .nilIface]) ∧ ListAt w' v t) ∨ ((∀ d t, ¬ SumOk da db t1 t2 d t) ∧ ∃ ad, e = .returned (.tuple #[.agg #[.int .i64 0, .slice none 0 0], .iface 102 (.pointer (some ad))]))) ∧ Below w.heap.size w w' := by
  by_cases hok : OkLog da t1.length (pOf t1) (cOf t1) ∧ OkLog db t2.length (pOf t2) (cOf t2)
  · obtain ⟨hok1, hok2⟩ := hok
    obtain ⟨na, rfl⟩ := Int.eq_ofNat_of_zero_le (show 0 ≤ da by have := hok1.1; omega)
    obtain ⟨nb, rfl⟩ := Int.eq_ofNat_of_zero_le (show 0 ≤ db by have := hok2.1; omega)
    have pa : 0 < na := by have := hok1.1; omega
    have pb : 0 < nb := by have := hok2.1; omega
    obtain ⟨ad1, cap1, rfl⟩ := hl1.slice
    obtain ⟨ad2, cap2, rfl⟩ := hl2.slice
    refine (Add_any na nb ad1 ad2 cap1 cap2 t1 t2 a w h hl1 hl2 hok1 hok2 hn _ rfl).mono ?_
    rintro e w' ⟨⟨l, G, hr, hv, hG, hlen, hres⟩, hb⟩
    obtain ⟨s1, s2, s3, s4⟩ := sum_value rfl pa pb hr hv hG
    have hs : SumIs na nb t1 t2 (na / Int.gcd (na : Int) (nb : Int) * nb / G) (overL G l) := ⟨s1, s3, Nat.le_trans (length_over l G) hlen⟩
    refine ⟨?_, hb⟩
    rcases hres with ⟨hf, v, rfl, hlist⟩ | ⟨hf, rfl⟩
    · refine Or.inl ⟨_, _, v, ⟨hok1, hok2, by simpa using hs, s4.1 hf⟩, by rw [s2], hlist⟩
    · refine Or.inr ⟨fun d t hso => hf (s4.2 ?_), a 1, rfl⟩
      have hs' : SumIs (na : Int).toNat (nb : Int).toNat t1 t2 _ _ := hso.2.2.1
      rw [Int.toNat_natCast, Int.toNat_natCast] at hs'
      obtain ⟨u1, u2⟩ := canon_uniq hs.can hs'.can (fun x => by
        have q1 := hs.val x
        have q2 := hs'.val x
        have hp : ((na : Int) * (nb : Int)) ≠ 0 := by
          intro h0
          rcases Int.mul_eq_zero.1 h0 with h3 | h3 <;> omega
        refine Int.eq_of_mul_eq_mul_right hp ?_
        generalize (na : Int) * (nb : Int) = M at *
        grind)
      rw [u1, u2]
      exact hso.2.2.2
  · refine (Add_shape da db v1 v2 _ _ _ _ _ _ a w h hl1 hl2 (by omega) (by omega) hok).mono ?_
    rintro e w' ⟨rfl, hb⟩
    exact ⟨Or.inr ⟨fun d t hso => hok ⟨hso.1, hso.2.1⟩, a 2, rfl⟩, hb⟩
end Go.Proofs.YtiecbconcdncmabDoor
