/- Two lists of weights: the program's and the document's errors. -/
import Derived.Test.YtofflboheiflaaaGreatDoorPackB
import Derived.Test.YtofflboheiflaaaGreatDoorPutEnt
import Derived.Test.YtofflboheiflaaaGreatDoorValidWalk
import Derived.Deep.QuietTactic
import Derived.BigQuiet
import Derived.Test.YtofflboheiflaaaGreatDoorPinMath
import Derived.Test.YtofflboheiflaaaGreatDoorPlus
import Derived.Test.YtofflboheiflaaaGreatDoorWideMath
import Derived.Test.YtofflboheiflaaaGreatDoorWLog
import Derived.Test.YtofflboheiflaaaGreatDoorWTold
namespace Go.Proofs.YtofflboheiflaaaGreatDoor
open Go.RowKit

def twoErr (p : Nat → Int) (n : Nat) (q : Nat → Int) (m : Nat) : Nat := if weightsErr p n ≠ 0 then weightsErr p n else if weightsErr q m ≠ 0 then weightsErr q m else if n ≠ m then 3 else 0

set_option maxRecDepth 100000 in
set_option maxHeartbeats 1000000 in
theorem TwoError_any (v u : Value) (n m : Nat) (p q : Nat → Int) (w : World) (h : NumsAt w v n p) (k : NumsAt w u m q) (hn : n ≤ 1000000) (hm : m ≤ 1000000) :
    Calls Tryz.prog 7 #[v, u] w fun e w' => e = .returned (.int .i64 (twoErr p n q m : Int)) ∧ w' = w := by
  have h1 := WeightsError_any v n p w h hn
  have h2 := WeightsError_any u m q w k hm
  obtain ⟨ad, cap, rfl⟩ := h.form
  obtain ⟨ad', cap', rfl⟩ := k.form
  clear h k
  have HT : Hid (twoErr p n q m = if weightsErr p n ≠ 0 then weightsErr p n else if weightsErr q m ≠ 0 then weightsErr q m else if n ≠ m then 3 else 0) := rfl
  generalize twoErr p n q m = r at HT ⊢
  generalize weightsErr p n = c at h1 HT
  generalize weightsErr q m = d at h2 HT
  by_cases hc : c = 0
  · subst hc
    by_cases hd : d = 0
    · subst hd
      by_cases hnm : n = m
      · subst hnm
        have HR : Hid (r = 0) := by show _ = _; rw [HT.out]; simp
        clear HT
        go_enter Tryz.func7, Tryz.ntmps7
        go_wp2_with fail
        refine h1.mono ?_
        rintro e w1 ⟨rfl, hw1⟩
        rw [hw1]
        clear hw1 h1
        go_wp2_with fail
        refine h2.mono ?_
        rintro e w1 ⟨rfl, hw1⟩
        rw [hw1]
        clear hw1 h2
        go_wp2_with fail
        go_ret
        exact ⟨by rw [HR.out]; rfl, rfl⟩
      · have HR : Hid (r = 3) := by show _ = _; rw [HT.out]; simp [hnm]
        have hb : ((n : Int) == (m : Int)) = false := by simp; omega
        clear HT
        go_enter Tryz.func7, Tryz.ntmps7
        go_wp2_with fail
        refine h1.mono ?_
        rintro e w1 ⟨rfl, hw1⟩
        rw [hw1]
        clear hw1 h1
        go_wp2_with fail
        refine h2.mono ?_
        rintro e w1 ⟨rfl, hw1⟩
        rw [hw1]
        clear hw1 h2
        go_wp2_with fail
        go_ret
        exact ⟨by rw [HR.out]; rfl, rfl⟩
    · have HR : Hid (r = d) := by show _ = _; rw [HT.out]; simp [hd]
      have hb : ((d : Int) == 0) = false := by simpa using hd
      clear HT
      go_enter Tryz.func7, Tryz.ntmps7
      go_wp2_with fail
      refine h1.mono ?_
      rintro e w1 ⟨rfl, hw1⟩
      rw [hw1]
      clear hw1 h1
      go_wp2_with fail
      refine h2.mono ?_
      rintro e w1 ⟨rfl, hw1⟩
      rw [hw1]
      clear hw1 h2
      go_wp2_with fail
      go_ret
      exact ⟨by rw [HR.out]; rfl, rfl⟩
  · have HR : Hid (r = c) := by show _ = _; rw [HT.out]; simp [hc]
    have hb : ((c : Int) == 0) = false := by simpa using hc
    clear HT
    go_enter Tryz.func7, Tryz.ntmps7
    go_wp2_with (go_at_call 25; refine h1.mono ?_; rintro e w1 ⟨rfl, hw1⟩; rw [hw1]; clear hw1)
    go_ret
    exact ⟨by rw [HR.out]; rfl, rfl⟩

set_option maxRecDepth 100000 in
set_option maxHeartbeats 1000000 in
theorem checkPair_any (a : Nat → Addr) (v u : Value) (n m : Nat) (p q : Nat → Int) (w : World) (hE : Errs w a) (h : NumsAt w v n p) (k : NumsAt w u m q) (hn : n ≤ 1000000) (hm : m ≤ 1000000) :
    Calls Tryz.prog 26 #[v, u] w fun e w' => e = .returned (errV a (twoErr p n q m)) ∧ w' = w := by
  have h1 := Valid_weights a v n p w hE h hn
  have h2 := Valid_weights a u m q w hE k hm
  obtain ⟨ad, cap, rfl⟩ := h.form
  obtain ⟨ad', cap', rfl⟩ := k.form
  have e2 := hE.c2
  clear h k hE
  have HT : Hid (twoErr p n q m = if weightsErr p n ≠ 0 then weightsErr p n else if weightsErr q m ≠ 0 then weightsErr q m else if n ≠ m then 3 else 0) := rfl
  generalize twoErr p n q m = r at HT ⊢
  generalize weightsErr p n = c at h1 HT
  generalize weightsErr q m = d at h2 HT
  by_cases hc : c = 0
  · subst hc
    rw [errV_zero] at h1
    by_cases hd : d = 0
    · subst hd
      rw [errV_zero] at h2
      by_cases hnm : n = m
      · subst hnm
        have HR : Hid (r = 0) := by show _ = _; rw [HT.out]; simp
        clear HT
        go_enter Tryz.func26, Tryz.ntmps26
        go_wp2_with fail
        refine h1.mono ?_
        rintro e w1 ⟨rfl, hw1⟩
        rw [hw1]
        clear hw1 h1
        go_wp2_with fail
        refine h2.mono ?_
        rintro e w1 ⟨rfl, hw1⟩
        rw [hw1]
        clear hw1 h2
        go_wp2_with fail
        go_ret
        exact ⟨by rw [HR.out]; rfl, rfl⟩
      · have HR : Hid (r = 3) := by show _ = _; rw [HT.out]; simp [hnm]
        have hb : ((n : Int) == (m : Int)) = false := by simp; omega
        clear HT
        go_enter Tryz.func26, Tryz.ntmps26
        go_wp2_with fail
        refine h1.mono ?_
        rintro e w1 ⟨rfl, hw1⟩
        rw [hw1]
        clear hw1 h1
        go_wp2_with fail
        refine h2.mono ?_
        rintro e w1 ⟨rfl, hw1⟩
        rw [hw1]
        clear hw1 h2
        go_wp2_with fail
        go_ret
        exact ⟨by rw [HR.out]; rfl, rfl⟩
    · have HR : Hid (r = d) := by show _ = _; rw [HT.out]; simp [hd]
      have HD := Hid.mk' (errV_pos a hd)
      rw [HD.out] at h2
      clear HT
      go_enter Tryz.func26, Tryz.ntmps26
      go_wp2_with fail
      refine h1.mono ?_
      rintro e w1 ⟨rfl, hw1⟩
      rw [hw1]
      clear hw1 h1
      go_wp2_with fail
      refine h2.mono ?_
      rintro e w1 ⟨rfl, hw1⟩
      rw [hw1]
      clear hw1 h2
      go_wp2_with fail
      go_ret
      exact ⟨by rw [HR.out, HD.out]; rfl, rfl⟩
  · have HR : Hid (r = c) := by show _ = _; rw [HT.out]; simp [hc]
    have HD := Hid.mk' (errV_pos a hc)
    rw [HD.out] at h1
    clear HT
    go_enter Tryz.func26, Tryz.ntmps26
    go_wp2_with (go_at_call 49; refine h1.mono ?_; rintro e w1 ⟨rfl, hw1⟩; rw [hw1]; clear hw1)
    go_ret
    exact ⟨by rw [HR.out, HD.out]; rfl, rfl⟩
theorem twoErr_ok {p q : Nat → Int} {n m : Nat} (h : twoErr p n q m = 0) : n = m ∧ n ≤ 16 ∧ OkW p n ∧ OkW q m := by
  unfold twoErr at h
  by_cases h1 : weightsErr p n = 0
  · by_cases h2 : weightsErr q m = 0
    · by_cases h3 : n = m
      · refine ⟨h3, ?_⟩
        unfold weightsErr at h1 h2
        by_cases h16 : 16 < n
        · rw [if_pos h16] at h1; cases h1
        · rw [if_neg h16] at h1
          rw [← h3, if_neg h16] at h2
          rw [← h3]
          exact ⟨by omega, listErr_ok h1, listErr_ok h2⟩
      · simp [h1, h2, h3] at h
    · simp [h1, h2] at h
  · simp [h1] at h
end Go.Proofs.YtofflboheiflaaaGreatDoor

/- Cells beside a map. -/
namespace Go.Proofs.YtofflboheiflaaaGreatDoor
open Go.RowKit Go.Maps

/-- A cell beside a map's block. -/
theorem cell_side {w w' : World} {mb nn B o : Nat} {v : Value} {D : DataW Unit} {k : TypeId} {R : Value → Option (DataW Unit × List MemPlace)} (hm : w.ownsMap Tryz.prog k R mb nn D) (hg : w.grownBy w' (some mb)) (hc : w.cell? ⟨B, o, none⟩ = some v) : w'.cell? ⟨B, o, none⟩ = some v := by
  refine cell_beside hg hc ?_
  rintro rfl
  rw [map_no_cell hm] at hc
  cases hc

end Go.Proofs.YtofflboheiflaaaGreatDoor

/- dist.Divergence. -/
namespace Go.Proofs.YtofflboheiflaaaGreatDoor
open Go.RowKit Go.Maps

/-- What the i-th place puts. -/
def divV (p q : Nat → Int) (P Q : Nat) (x : Int) (i : Nat) : Int := p i * multI x (p i).toNat + -(p i) * multI x P + -(p i) * multI x (q i).toNat + p i * multI x Q
theorem divV_le {p q : Nat → Int} {P Q i : Nat} (x : Int) (hp : 0 ≤ p i ∧ p i ≤ 4096) (hq : 0 ≤ q i ∧ q i ≤ 4096) (hP : P ≤ 4096) (hQ : Q ≤ 4096) : -400000 ≤ divV p q P Q x i ∧ divV p q P Q x i ≤ 400000 := by
  unfold divV
  have h1 := mul_weight (t := p i) (by omega) (multI_small x (n := (p i).toNat) (by omega))
  have h2 := mul_weight (t := -(p i)) (by omega) (multI_small x (n := P) (by omega))
  have h3 := mul_weight (t := -(p i)) (by omega) (multI_small x (n := (q i).toNat) (by omega))
  have h4 := mul_weight (t := p i) (by omega) (multI_small x (n := Q) (by omega))
  omega
set_option maxRecDepth 100000 in
set_option maxHeartbeats 4000000 in
theorem Divergence_parts (den : Int) (mb Bp BP Bq BQ b o cap b' o' cap' n P Q : Nat) (p q : Nat → Int) (w : World) (hown : w.ownsMap Tryz.prog 3 (plainElem (H := Unit) Tryz.prog 3) mb 0 (mapOf []))
    (cp : w.cell? ⟨Bp, 0, none⟩ = some (.slice (some ⟨b, o, none⟩) n cap)) (cP : w.cell? ⟨BP, 0, none⟩ = some (.int .i64 P)) (cq : w.cell? ⟨Bq, 0, none⟩ = some (.slice (some ⟨b', o', none⟩) n cap')) (cQ : w.cell? ⟨BQ, 0, none⟩ = some (.int .i64 Q))
    (h : RowAt w b o n p) (k : RowAt w b' o' n q) (hp : ∀ i, i < n → 0 ≤ p i ∧ p i ≤ 4096) (hq : ∀ i, i < n → 0 ≤ q i ∧ q i ≤ 4096) (hpq : ∀ i, i < n → 0 < p i → 0 < q i) (hP : 1 ≤ P ∧ P ≤ 4096) (hQ : 1 ≤ Q ∧ Q ≤ 4096) (hn : n ≤ 16) :
    Calls Tryz.prog 37 #[putV den mb, .pointer (some ⟨Bp, 0, none⟩), .pointer (some ⟨BP, 0, none⟩), .pointer (some ⟨Bq, 0, none⟩), .pointer (some ⟨BQ, 0, none⟩)] w fun e w' => e = .returned (.tuple #[]) ∧ ∃ l nn, Puts w w' mb (fun x => sumN (divV p q P Q x) n) (4 * n) [] 0 l nn := by
  have HP0 : Hid (Puts w w mb (fun x => sumN (divV p q P Q x) 0) (4 * 0) [] 0 [] 0) := ⟨hown, List.Pairwise.nil, (fun x => by simp [sumN]), (fun e he => by cases he), by omega, by simp, grown_refl _ _⟩
  have HROW := Hid.mk' (fun (wr : World) (hg : w.grownBy wr (some mb)) => And.intro (h.beside hown hg) (And.intro (k.beside hown hg) (And.intro (cell_side hown hg cP) (And.intro (cell_side hown hg cq) (cell_side hown hg cQ)))))
  have HPI := Hid.mk' hp
  have HQI := Hid.mk' hq
  have HPQ := Hid.mk' hpq
  clear hown h k hp hq hpq cP cq cQ
  unfold putV
  go_enter Tryz.func37, Tryz.ntmps37
  go_wp2_with fail
  go_loopw [6, 7, 10] (fun _ _ i wr => ∃ (k nn : Nat) (l : List (Int × Int)), k ≤ n ∧ i = .int .i64 k ∧ Hid (Puts w wr mb (fun x => sumN (divV p q P Q x) k) (4 * k) [] 0 l nn)) (fun _ _ i _ => n - (intOf i).toNat)
  case atStart => exact ⟨0, 0, [], Nat.zero_le _, rfl, HP0⟩
  case round =>
    clear HP0 cp
    obtain ⟨k, nn, l, hk, rfl, HP⟩ := hrel
    rcases Nat.lt_or_ge k n with h1 | h1
    · have hc := (HROW.out _ HP.out.grow).1 k h1
      have hkn : (k : Int) < (n : Int) := by omega
      have hpk := HPI.out k h1
      have hqk := HQI.out k h1
      have hpqk := HPQ.out k h1
      have HV : Hid (∀ x, sumN (divV p q P Q x) (k + 1) = sumN (divV p q P Q x) k + (p k * multI x (p k).toNat + (-(p k) * multI x P + (-(p k) * multI x (q k).toNat + p k * multI x Q)))) := fun x => by
        show sumN (divV p q P Q x) k + divV p q P Q x k = _
        unfold divV
        omega
      have HBD : Hid (∀ x, -100000000 ≤ atL l x ∧ atL l x ≤ 100000000) := fun x => by
        rw [HP.out.val]
        have h3 := sumN_bound (f := divV p q P Q x) (B := 400000) (n := k) (fun i hi => divV_le x (HPI.out i (by omega)) (HQI.out i (by omega)) hP.2 hQ.2)
        have : (k : Int) * 400000 ≤ 6400000 := by omega
        simp only [atL]
        omega
      have hcq := (HROW.out _ HP.out.grow).2.1 k h1
      obtain ⟨y, hy⟩ := Int.eq_ofNat_of_zero_le hpk.1
      obtain ⟨u, hu⟩ := Int.eq_ofNat_of_zero_le hqk.1
      rw [hy] at hc hpk HV hpqk
      rw [hu] at hqk HV hpqk hcq
      simp only [Int.toNat_natCast] at HV
      have HCQ : Hid (∀ W, w.grownBy W (some mb) → W.cell? ⟨b', o' + k, none⟩ = some (.int .i64 (u : Int))) := fun W hg => by rw [← hu]; exact (HROW.out W hg).2.1 k h1
      have hy6 : y ≤ 4096 := by have := hpk.2; omega
      have hu6 : u ≤ 4096 := by have := hqk.2; omega
      have hyu : y ≠ 0 → 1 ≤ u := fun h => by have := hpqk (by omega); omega
      have hnn1 : nn ≤ 10000 := by have := HP.out.cnt; omega
      have MW := Hid.mk' (fun (x : Int) (m : Nat) (hm : m ≤ 4096) => mul_weight (t := (y : Int)) (by omega) (multI_small x (n := m) (by omega)))
      have MN := Hid.mk' (fun (x : Int) (m : Nat) (hm : m ≤ 4096) => mul_weight (t := -(y : Int)) (by omega) (multI_small x (n := m) (by omega)))
      clear hy hu hpk hqk hpqk hcq
      have HP1 := Hid.mk' (Put_by den (y : Int) mb y nn l wr HP.out.own HP.out.rise HP.out.keys (fun x => by have := HBD.out x; omega) (by omega) (fun h => by omega) (by omega) (by omega))
      go_wp2_with fail
      refine HP1.out.mono ?_
      clear HP1 hc
      rintro e w2 ⟨rfl, l2, nn2, hp2⟩
      have hg2 := grown_two HP.out.grow hp2.grow
      have cP2 := (HROW.out _ hg2).2.2.1
      have B2 : Hid (∀ x, -100100000 ≤ atL l2 x ∧ atL l2 x ≤ 100100000) := fun x => by rw [hp2.val]; have h2 := HBD.out x; have h3 := MW.out x y hy6; omega
      have hn2 : nn2 ≤ 10020 := by have := hp2.cnt; omega
      have HP2 := Hid.mk' (Put_by den (-(y : Int)) mb P nn2 l2 w2 hp2.own hp2.rise hp2.keys (fun x => by have := B2.out x; omega) (by omega) (fun _ => hP.1) (by omega) (by omega))
      have HQ2 := Hid.mk' (HP.out.trans hp2)
      clear hp2 hg2
      go_wp2_with fail
      refine HP2.out.mono ?_
      clear HP2 cP2
      rintro e w3 ⟨rfl, l3, nn3, hp3⟩
      have hg3 := grown_two HQ2.out.grow hp3.grow
      have cq3 := (HROW.out _ hg3).2.2.2.1
      have cu3 := HCQ.out _ hg3
      have B3 : Hid (∀ x, -100200000 ≤ atL l3 x ∧ atL l3 x ≤ 100200000) := fun x => by rw [hp3.val]; have h2 := B2.out x; have h3 := MN.out x P hP.2; omega
      have hn3 : nn3 ≤ 10040 := by have := hp3.cnt; omega
      have HP3 := Hid.mk' (Put_by den (-(y : Int)) mb u nn3 l3 w3 hp3.own hp3.rise hp3.keys (fun x => by have := B3.out x; omega) (by omega) (fun h => hyu (by omega)) (by omega) (by omega))
      have HQ3 := Hid.mk' (HQ2.out.trans hp3)
      clear hp3 hg3 HQ2
      go_wp2_with fail
      refine HP3.out.mono ?_
      clear HP3 cq3 cu3
      rintro e w4 ⟨rfl, l4, nn4, hp4⟩
      have hg4 := grown_two HQ3.out.grow hp4.grow
      have cQ4 := (HROW.out _ hg4).2.2.2.2
      have B4 : Hid (∀ x, -100300000 ≤ atL l4 x ∧ atL l4 x ≤ 100300000) := fun x => by rw [hp4.val]; have h2 := B3.out x; have h3 := MN.out x u hu6; omega
      have hn4 : nn4 ≤ 10060 := by have := hp4.cnt; omega
      have HP4 := Hid.mk' (Put_by den (y : Int) mb Q nn4 l4 w4 hp4.own hp4.rise hp4.keys (fun x => by have := B4.out x; omega) (by omega) (fun _ => hQ.1) (by omega) (by omega))
      have HQ4 := Hid.mk' (HQ3.out.trans hp4)
      clear hp4 hg4 HQ3
      go_wp2_with fail
      refine HP4.out.mono ?_
      clear HP4 cQ4
      rintro e w5 ⟨rfl, l5, nn5, hp5⟩
      have HQ5 := Hid.mk' ((HQ4.out.trans hp5).congr (d := 4 * (k + 1)) (by omega) (g := fun x => sumN (divV p q P Q x) (k + 1)) (fun x => by rw [HV.out x]; omega))
      clear hp5 HQ4
      go_wp2_with fail
      exact ⟨⟨k + 1, nn5, l5, h1, by go_num, HQ5⟩, by simp [intOf]; omega⟩
    · obtain rfl : k = n := by omega
      go_wp2_with fail
      go_end0
      exact ⟨rfl, l, nn, HP.out⟩
end Go.Proofs.YtofflboheiflaaaGreatDoor

/- The sides of a divergence. -/
namespace Go.Proofs.YtofflboheiflaaaGreatDoor
open Go.RowKit

theorem mult_prod {x : Nat} (hx : Pr x) {a b : Nat → Nat} : ∀ {n : Nat}, (∀ i, i < n → 0 < a i → 0 < b i) → mult x (prodA (fun i => b i ^ a i) n) = sumA (fun i => a i * mult x (b i)) n ∧ 0 < prodA (fun i => b i ^ a i) n
  | 0, _ => ⟨by simp only [prodA, sumA]; exact mult_one hx.1, by simp [prodA]⟩
  | n + 1, h => by
    obtain ⟨h1, h2⟩ := mult_prod hx (n := n) (fun i hi => h i (by omega))
    have h3 : mult x (b n ^ a n) = a n * mult x (b n) ∧ 0 < b n ^ a n := by
      rcases Nat.eq_zero_or_pos (a n) with h0 | h0
      · rw [h0, Nat.pow_zero, Nat.zero_mul]
        exact ⟨mult_one hx.1, by omega⟩
      · exact ⟨mult_power hx (h n (by omega) h0) _, Nat.pow_pos (h n (by omega) h0)⟩
    simp only [prodA, sumA]
    exact ⟨by rw [mult_mul hx _ _ h2 h3.2, h1, h3.1], Nat.mul_pos h2 h3.2⟩
theorem sumA_nat {z : Nat → Int} {a : Nat → Nat} : ∀ {n : Nat}, (∀ i, i < n → z i = (a i : Int)) → sumN z n = (sumA a n : Int)
  | 0, _ => rfl
  | n + 1, h => by
    simp only [sumN, sumA]
    rw [sumA_nat (n := n) (fun i hi => h i (by omega)), h n (by omega)]
    simp
/-- A divergence's multiplicity of a prime. -/
theorem div_mult {x : Nat} (hx : Pr x) {p q : Nat → Int} {a b : Nat → Nat} {P Q : Nat} : ∀ {n : Nat}, (∀ i, i < n → p i = (a i : Int)) → (∀ i, i < n → q i = (b i : Int)) →
    sumN (divV p q P Q (x : Int)) n = (sumA (fun i => a i * mult x (a i)) n : Int) + (sumA a n : Int) * (mult x Q : Int) - (sumA (fun i => a i * mult x (b i)) n : Int) - (sumA a n : Int) * (mult x P : Int)
  | 0, _, _ => by simp [sumN, sumA]
  | n + 1, hp, hq => by
    have ih := div_mult hx (P := P) (Q := Q) (n := n) (fun i hi => hp i (by omega)) (fun i hi => hq i (by omega))
    have e : ∀ m, multI (x : Int) m = (mult x m : Int) := fun m => by rw [multI_pr (by simpa using hx)]; simp
    simp only [sumN, sumA]
    rw [ih]
    unfold divV
    rw [hp n (by omega), hq n (by omega)]
    simp only [Int.toNat_natCast, e]
    simp only [Int.natCast_add, Int.natCast_mul]
    grind
def upD (a : Nat → Nat) (Q n : Nat) : Nat := Q ^ sumA a n * prodA (fun i => a i ^ a i) n
def downD (a b : Nat → Nat) (P n : Nat) : Nat := P ^ sumA a n * prodA (fun i => b i ^ a i) n
theorem div_sides {a b : Nat → Nat} {p q : Nat → Int} {P Q n : Nat} (hp : ∀ i, i < n → p i = (a i : Int)) (hq : ∀ i, i < n → q i = (b i : Int)) (hP : 0 < P) (hQ : 0 < Q) (hz : ∀ i, i < n → 0 < a i → 0 < b i) :
    0 < upD a Q n ∧ 0 < downD a b P n ∧ ∀ x : Nat, Pr x → sumN (divV p q P Q (x : Int)) n = (mult x (upD a Q n) : Int) - (mult x (downD a b P n) : Int) := by
  have h2 : Pr 2 := ⟨by omega, fun d hd hdd => by have := Nat.mul_le_mul hd hd; omega⟩
  have ha : ∀ i, i < n → 0 < a i → 0 < a i := fun _ _ h => h
  have u2 := (mult_prod h2 (b := a) ha).2
  have d2 := (mult_prod h2 hz).2
  refine ⟨Nat.mul_pos (Nat.pow_pos hQ) u2, Nat.mul_pos (Nat.pow_pos hP) d2, fun x hx => ?_⟩
  rw [div_mult hx hp hq]
  unfold upD downD
  rw [mult_mul hx _ _ (Nat.pow_pos hQ) u2, mult_mul hx _ _ (Nat.pow_pos hP) d2, mult_power hx hQ, mult_power hx hP, (mult_prod hx (b := a) ha).1, (mult_prod hx hz).1]
  simp only [Int.natCast_add, Int.natCast_mul]
  omega
/-- A divergence speaks of primes. -/
theorem div_prim {p q : Nat → Int} {P Q n : Nat} (hp : ∀ i, i < n → 0 ≤ p i ∧ p i ≤ 4096) (hq : ∀ i, i < n → 0 ≤ q i ∧ q i ≤ 4096) (hn : n ≤ 16) (hP : 1 ≤ P ∧ P ≤ 4096) (hQ : 1 ≤ Q ∧ Q ≤ 4096) (hz : ∀ i, i < n → 0 < p i → 0 < q i) : Prim fun x => sumN (divV p q P Q x) n := by
  refine ⟨fun x => ?_, fun x hx => ?_⟩
  · have h1 := sumN_bound (f := divV p q P Q x) (B := 400000) (n := n) (fun i hi => divV_le x (hp i hi) (hq i hi) hP.2 hQ.2)
    have : (n : Int) * 400000 ≤ 6400000 := by omega
    omega
  · have aux : ∀ k, k ≤ n → sumN (divV p q P Q x) k ≠ 0 → 2 ≤ x ∧ x ≤ 4096 ∧ Pr x.toNat := by
      intro k
      induction k with
      | zero => intro _ h; exact absurd rfl h
      | succ k ih =>
        intro hk h
        by_cases h0 : sumN (divV p q P Q x) k = 0
        · have h1 : divV p q P Q x k ≠ 0 := fun e => h (by simp only [sumN]; rw [h0, e]; rfl)
          have hpk := hp k (by omega)
          have hqk := hq k (by omega)
          have hp0 : 0 < p k := by
            rcases Int.lt_or_le 0 (p k) with h2 | h2
            · exact h2
            · refine absurd ?_ h1
              unfold divV
              rw [show p k = 0 by omega]
              simp
          have hq0 := hz k (by omega) hp0
          have hs : ∀ m : Nat, 0 < m → m ≤ 4096 → multI x m ≠ 0 → 2 ≤ x ∧ x ≤ 4096 ∧ Pr x.toNat := fun m h3 h4 h5 => by
            obtain ⟨a1, a2, a3⟩ := multI_support h3 h5
            exact ⟨a2, by omega, a1⟩
          by_cases e1 : multI x (p k).toNat = 0
          · by_cases e2 : multI x P = 0
            · by_cases e3 : multI x (q k).toNat = 0
              · by_cases e4 : multI x Q = 0
                · refine absurd ?_ h1
                  unfold divV
                  rw [e1, e2, e3, e4]
                  simp
                · exact hs Q (by omega) (by omega) e4
              · exact hs _ (by omega) (by omega) e3
            · exact hs P (by omega) (by omega) e2
          · exact hs _ (by omega) (by omega) e1
        · exact ih (by omega) h0
    exact aux n (Nat.le_refl _) hx
/-- GIBBS. -/
theorem gibbs {a b : Nat → Nat} {P Q n : Nat} (hP : P = sumA a n) (hQ : Q = sumA b n) (hz : ∀ i, i < n → 0 < a i → 0 < b i) : downD a b P n ≤ upD a Q n ∧ (upD a Q n = downD a b P n → ∀ i, i < n → a i * Q = b i * P) ∧ ((∀ i, i < n → a i * Q = b i * P) → 0 < P → 0 < Q → upD a Q n = downD a b P n) := by
  unfold downD upD
  rw [hP, hQ]
  refine ⟨sums_le a b n, fun h => sums_eq hz h.symm, fun h hP hQ => ?_⟩
  have aux : ∀ k, k ≤ n → sumA b n ^ sumA a k * prodA (fun i => a i ^ a i) k = sumA a n ^ sumA a k * prodA (fun i => b i ^ a i) k := by
    intro k
    induction k with
    | zero => intro _; simp [sumA, prodA]
    | succ k ih =>
      intro hk
      have i1 := ih (by omega)
      have h1 := congrArg (fun y => y ^ a k) (h k (by omega))
      simp only [Nat.mul_pow] at h1
      simp only [sumA, prodA]
      rw [Nat.pow_add, Nat.pow_add]
      generalize sumA b n ^ sumA a k = t1 at *
      generalize sumA a n ^ sumA a k = t2 at *
      generalize prodA (fun i => a i ^ a i) k = t3 at *
      generalize prodA (fun i => b i ^ a i) k = t4 at *
      generalize sumA b n ^ a k = t5 at *
      generalize sumA a n ^ a k = t6 at *
      generalize a k ^ a k = t7 at *
      generalize b k ^ a k = t8 at *
      have e : t1 * t5 * (t3 * t7) = (t1 * t3) * (t7 * t5) := by grind
      rw [e, i1, h1]
      grind
  exact aux n (Nat.le_refl _)
end Go.Proofs.YtofflboheiflaaaGreatDoor

/- whole.Lowest at any fraction. -/
namespace Go.Proofs.YtofflboheiflaaaGreatDoor
open Go.RowKit

theorem quo_nat30 {a b : Nat} (h : a ≤ 1073741824) : wrap64 ((a : Int) / (b : Int)) = ((a / b : Nat) : Int) := by
  have h0 : (a : Int) / (b : Int) = ((a / b : Nat) : Int) := by simp
  have h1 : a / b ≤ a := Nat.div_le_self _ _
  rw [h0]
  generalize a / b = q at h1
  rw [w64 _ (by omega)]

set_option maxRecDepth 10000 in
set_option maxHeartbeats 1000000 in
theorem lowest_any (n : Int) (d : Nat) (w : World) (h1 : -1073741824 ≤ n) (h2 : n ≤ 1073741824) (hd0 : 1 ≤ d) (hd1 : d ≤ 1073741824) (g : Nat) (hg : g = Nat.gcd n.natAbs d) : Calls Tryz.prog 29 #[.int .i64 n, .int .i64 d] w fun e w' => e = .returned (.agg #[.int .i64 (n.tdiv (g : Int)), .int .i64 ((d / g : Nat) : Int)]) ∧ Below w.heap.size w w' := by
  have hB0 : Below w.heap.size w (w.alloc (.cells #[.int .i64 0, .int .i64 0] 26)) := (Below.refl _ _).alloc (Nat.le_refl _) _
  have hgc := GCD_any n d (w.alloc (.cells #[.int .i64 0, .int .i64 0] 26)) (by omega) (by omega) (by omega) (by omega)
  have hgi : Int.gcd n (d : Int) = g := by rw [hg]; simp [Int.gcd]
  rw [hgi] at hgc
  have hgp : 0 < g := by rw [hg]; exact Nat.gcd_pos_of_pos_right _ hd0
  have hgz : ¬ g = 0 := by omega
  have hgl : g ≤ d := by rw [hg]; exact Nat.gcd_le_right _ (by omega)
  have HB := Hid.mk' hB0
  clear hB0 hgi hg
  go_enter Tryz.func29, Tryz.ntmps29
  go_wp2_with fail
  refine hgc.mono ?_
  clear hgc
  rintro e w1 ⟨rfl, m, rfl⟩
  go_wp2_with fail
  go_region
  go_wp2_with fail
  refine bodyPost_ret (v := .agg #[.int .i64 (n.tdiv (g : Int)), .int .i64 (wrap64 ((d : Int) / (g : Int)))]) (by simp [results, Tryz.results29, go_sem]) rfl ⟨by rw [quo_nat30 hd1], ?_⟩
  exact ((below_drewN HB.out _).setCell (by simp) _).setCell (by simp) _
end Go.Proofs.YtofflboheiflaaaGreatDoor

/- dist.Variation. -/
namespace Go.Proofs.YtofflboheiflaaaGreatDoor
open Go.RowKit

/-- How far two are at a place, over both sums. -/
def apV (p q : Nat → Int) (P Q : Nat) (i : Nat) : Int := ((p i * Q - q i * P).natAbs : Int)
theorem mul_le6 {x : Int} {Q : Nat} (hx : 0 ≤ x ∧ x ≤ 4096) (hQ : Q ≤ 4096) : 0 ≤ x * (Q : Int) ∧ x * (Q : Int) ≤ 16777216 := by
  obtain ⟨y, rfl⟩ := Int.eq_ofNat_of_zero_le hx.1
  have h1 : y * Q ≤ 4096 * 4096 := Nat.mul_le_mul (by omega) hQ
  have h2 : (y : Int) * (Q : Int) = ((y * Q : Nat) : Int) := by simp
  rw [h2]
  generalize y * Q = z at h1
  omega
theorem apV_le {p q : Nat → Int} {P Q i : Nat} (hp : 0 ≤ p i ∧ p i ≤ 4096) (hq : 0 ≤ q i ∧ q i ≤ 4096) (hP : P ≤ 4096) (hQ : Q ≤ 4096) : 0 ≤ apV p q P Q i ∧ apV p q P Q i ≤ 16777216 := by
  unfold apV
  have h1 := mul_le6 hp hQ
  have h2 := mul_le6 hq hP
  generalize p i * (Q : Int) = a at *
  generalize q i * (P : Int) = b at *
  omega

set_option maxRecDepth 100000 in
set_option maxHeartbeats 4000000 in
theorem Variation_right (a : Nat → Addr) (b o cap b' o' cap' n P Q g : Nat) (p q : Nat → Int) (w : World) (hE : Errs w a) (h : RowAt w b o n p) (k : RowAt w b' o' n q) (h0 : twoErr p n q n = 0) (hP : sumN p n = P) (hQ : sumN q n = Q) (hg : g = Nat.gcd (sumN (apV p q P Q) n).natAbs (2 * P * Q)) :
    Calls Tryz.prog 8 #[.slice (some ⟨b, o, none⟩) n cap, .slice (some ⟨b', o', none⟩) n cap'] w fun e w' => e = .returned (.tuple #[.agg #[.int .i64 ((sumN (apV p q P Q) n).tdiv (g : Int)), .int .i64 ((2 * P * Q / g : Nat) : Int)], .nilIface]) ∧ Below w.heap.size w w' := by
  obtain ⟨_, hn, hok1, hok2⟩ := twoErr_ok h0
  have h0n := hok1.posN
  have hP1 : 1 ≤ P ∧ P ≤ 4096 := by have := hok1.pos; have := hok1.le; omega
  have hQ1 : 1 ≤ Q ∧ Q ≤ 4096 := by have := hok2.pos; have := hok2.le; omega
  obtain ⟨D, hD⟩ : ∃ D, D = 2 * P * Q := ⟨_, rfl⟩
  have hD1 : 1 ≤ D ∧ D ≤ 33554432 := by
    rw [hD]
    refine ⟨Nat.mul_pos (by omega) (by omega), ?_⟩
    have : 2 * P * Q ≤ 8192 * 4096 := Nat.mul_le_mul (by omega) hQ1.2
    omega
  have hDw : wrap64 (2 * (P : Int) * (Q : Int)) = (D : Int) := by
    rw [show 2 * (P : Int) * (Q : Int) = ((2 * P * Q : Nat) : Int) by simp, ← hD, w64 _ (by omega)]
  rw [← hD] at hg ⊢
  obtain ⟨W0, hW0⟩ : ∃ W0, W0 = w.alloc (.cells #[.int .i64 0, .int .i64 0] 26) := ⟨_, rfl⟩
  have hb0 : Below w.heap.size w W0 := by rw [hW0]; exact new_below _ _
  have hres : ∀ W, Below W0.heap.size W0 W → W.cell? ⟨w.heap.size, 0, none⟩ = some (.int .i64 0) ∧ W.cell? ⟨w.heap.size, 1, none⟩ = some (.int .i64 0) ∧ W.frozen? ⟨w.heap.size, 0, none⟩ = false ∧ W.frozen? ⟨w.heap.size, 1, none⟩ = false := fun W hb => by
    rw [hW0] at hb
    exact res_past hb
  have hcp := checkPair_any a (.slice (some ⟨b, o, none⟩) n cap) (.slice (some ⟨b', o', none⟩) n cap') n n p q W0 (hE.below hb0) (Or.inr ⟨b, o, cap, rfl, h0n, h.later hb0⟩) (Or.inr ⟨b', o', cap', rfl, h0n, k.later hb0⟩) (by omega) (by omega)
  rw [h0, errV_zero] at hcp
  have HR : Hid (RowAt W0 b o n p ∧ RowAt W0 b' o' n q) := ⟨h.later hb0, k.later hb0⟩
  have htp := total_some b o cap n p W0 HR.out.1 (fun k hk => by have := hok1.part hk; omega) (fun i hi => by have := hok1.lt hi; omega) (by omega)
  have htq := total_some b' o' cap' n q W0 HR.out.2 (fun k hk => by have := hok2.part hk; omega) (fun i hi => by have := hok2.lt hi; omega) (by omega)
  rw [hP] at htp
  rw [hQ] at htq
  have HPI : Hid (∀ i, i < n → 0 ≤ p i ∧ p i ≤ 4096) := fun i hi => hok1.lt hi
  have HQI : Hid (∀ i, i < n → 0 ≤ q i ∧ q i ≤ 4096) := fun i hi => hok2.lt hi
  have HSB : Hid (∀ k, k ≤ n → 0 ≤ sumN (apV p q P Q) k ∧ sumN (apV p q P Q) k ≤ 268435456) := fun k hk => by
    have h1 := sumN_nonneg (z := apV p q P Q) (n := k) (fun i hi => (apV_le (HPI.out i (by omega)) (HQI.out i (by omega)) hP1.2 hQ1.2).1)
    have h2 := sumN_bound (f := apV p q P Q) (B := 16777216) (n := k) (fun i hi => by have := apV_le (HPI.out i (by omega)) (HQI.out i (by omega)) hP1.2 hQ1.2; omega)
    have : (k : Int) * 16777216 ≤ 268435456 := by omega
    omega
  have hDu : D ≤ 1073741824 := Nat.le_trans hD1.2 (by decide)
  have hSn := HSB.out n (Nat.le_refl _)
  have HLO : Hid (∀ W : World, Calls Tryz.prog 29 #[.int .i64 (sumN (apV p q P Q) n), .int .i64 D] W fun e w' => e = .returned (.agg #[.int .i64 ((sumN (apV p q P Q) n).tdiv (g : Int)), .int .i64 ((D / g : Nat) : Int)]) ∧ Below W.heap.size W w') := fun W => lowest_any _ D W (Int.le_trans (by decide) hSn.1) (Int.le_trans hSn.2 (by decide)) hD1.1 hDu g hg
  clear hSn hDu
  have HB0 := Hid.mk' hb0
  have HRES := Hid.mk' hres
  have HW0 := Hid.mk' hW0
  have HDW := Hid.mk' hDw
  clear hE h k hb0 hres hW0 hok1 hok2 h0 hP hQ hD hg hDw
  go_enter Tryz.func8, Tryz.ntmps8
  go_upto_region 1 with fail
  rw [← HW0.out]
  go_wp2_with (first
    | (go_at_call 26; refine hcp.mono ?_; rintro e w1 ⟨rfl, hw1⟩; rw [hw1]; clear hw1)
    | (go_at_call_of 27 b; refine htp.mono ?_; rintro e w1 ⟨rfl, hw1⟩; rw [hw1]; clear hw1)
    | (go_at_call_of 27 b'; refine htq.mono ?_; rintro e w1 ⟨rfl, hw1⟩; rw [hw1]; clear hw1))
  clear hcp htp htq
  go_loopw [9, 10, 24] (fun s _ i wr => ∃ k : Nat, k ≤ n ∧ s = .int .i64 (sumN (apV p q P Q) k) ∧ i = .int .i64 k ∧ Hid (Below W0.heap.size W0 wr)) (fun _ _ i _ => n - (intOf i).toNat)
  case atStart => exact ⟨0, Nat.zero_le _, rfl, rfl, Hid.mk' (Below.refl _ _)⟩
  case round =>
    obtain ⟨k, hk, rfl, rfl, HW⟩ := hrel
    rcases Nat.lt_or_ge k n with h1 | h1
    · have hcP := (HR.out.1.later HW.out) k h1
      have hcQ := (HR.out.2.later HW.out) k h1
      have hkn : (k : Int) < (n : Int) := by omega
      have hk0 : (0 : Int) ≤ (k : Int) := by omega
      have HV : Hid (sumN (apV p q P Q) (k + 1) = sumN (apV p q P Q) k + ((p k * Q - q k * P).natAbs : Int)) := rfl
      have hs1 := HSB.out k hk
      have hx := mul_le6 (HPI.out k h1) hQ1.2
      have hy := mul_le6 (HQI.out k h1) hP1.2
      have hxw := w64 (p k * (Q : Int)) (by omega)
      have hyw := w64 (q k * (P : Int)) (by omega)
      generalize p k = x at *
      generalize q k = y at *
      obtain ⟨A, hA⟩ : ∃ A, A = x * (Q : Int) := ⟨_, rfl⟩
      obtain ⟨B, hB⟩ : ∃ B, B = y * (P : Int) := ⟨_, rfl⟩
      rw [← hA] at hx hxw HV
      rw [← hB] at hy hyw HV
      have hxm : wrap64 (x * (Q : Int)) = A := by rw [← hA]; exact hxw
      have hym : wrap64 (y * (P : Int)) = B := by rw [← hB]; exact hyw
      generalize sumN (apV p q P Q) k = S at *
      have hsz := fun W => size_any (A - B) W (by omega) (by omega)
      have hdf : wrap64 (A - B) = A - B := w64 _ (by omega)
      clear hA hB hxw hyw
      go_wp2_with fail
      go_quiet ((first | (go_at_call 28; exact (hsz _).mono fun _ _ h => ⟨h.1, _, h.2⟩)))
      go_wp2_with fail
      exact ⟨⟨k + 1, by omega, by rw [HV.out], by go_num, below_drewN HW.out _⟩, by simp [intOf]; omega⟩
    · obtain rfl : k = n := by omega
      obtain ⟨c0, c1, q0, q1⟩ := HRES.out wr HW.out
      have hlo := HLO.out wr
      have HBW := Hid.mk' (below_chain HB0.out HW.out)
      clear HLO HRES
      go_wp2_with fail
      rw [HDW.out]
      refine hlo.mono ?_
      clear hlo
      rintro e w2 ⟨rfl, hb2⟩
      have d0 := (cell_past c0 hb2).2
      have d1 := (cell_past c1 hb2).2
      have e0 := (frozen_past c0 q0 hb2).2
      have e1 := (frozen_past c1 q1 hb2).2
      have HB2 := Hid.mk' (below_chain HBW.out hb2)
      clear c0 c1 q0 q1 hb2
      go_wp2_with fail
      refine bodyPost_ret (v := .tuple #[.agg #[.int .i64 ((sumN (apV p q P Q) k).tdiv (g : Int)), .int .i64 ((D / g : Nat) : Int)], .nilIface]) (by simp [results, Tryz.results8, go_sem, d0, d1]) rfl ⟨rfl, ?_⟩
      exact (HB2.out.setCell (Nat.le_refl _) _).setCell (Nat.le_refl _) _

set_option maxRecDepth 100000 in
set_option maxHeartbeats 1000000 in
theorem Variation_bad (a : Nat → Addr) (v u : Value) (n m : Nat) (p q : Nat → Int) (w : World) (hE : Errs w a) (h : NumsAt w v n p) (k : NumsAt w u m q) (hn : n ≤ 400) (hm : m ≤ 400) (h0 : twoErr p n q m ≠ 0) :
    Calls Tryz.prog 8 #[v, u] w fun e w' => e = .returned (.tuple #[.agg #[.int .i64 0, .int .i64 0], errV a (twoErr p n q m)]) ∧ Below w.heap.size w w' := by
  obtain ⟨ad, cap, rfl⟩ := h.form
  obtain ⟨ad', cap', rfl⟩ := k.form
  obtain ⟨W0, hW0⟩ : ∃ W0, W0 = w.alloc (.cells #[.int .i64 0, .int .i64 0] 26) := ⟨_, rfl⟩
  have hb0 : Below w.heap.size w W0 := by rw [hW0]; exact new_below _ _
  have hres : W0.cell? ⟨w.heap.size, 0, none⟩ = some (.int .i64 0) ∧ W0.cell? ⟨w.heap.size, 1, none⟩ = some (.int .i64 0) ∧ W0.frozen? ⟨w.heap.size, 0, none⟩ = false ∧ W0.frozen? ⟨w.heap.size, 1, none⟩ = false := by
    rw [hW0]
    exact res_past (Below.refl _ _)
  have hcp := checkPair_any a (.slice ad n cap) (.slice ad' m cap') n m p q W0 (hE.below hb0) (h.later hb0) (k.later hb0) (by omega) (by omega)
  rw [errV_pos a h0] at hcp ⊢
  generalize a (twoErr p n q m - 1) = ea at hcp ⊢
  obtain ⟨c0, c1, q0, q1⟩ := hres
  have HB0 := Hid.mk' hb0
  have HW0 := Hid.mk' hW0
  clear hE h k hb0 hW0 h0
  go_enter Tryz.func8, Tryz.ntmps8
  go_upto_region 1 with fail
  rw [← HW0.out]
  go_wp2_with (go_at_call 26; refine hcp.mono ?_; rintro e w1 ⟨rfl, hw1⟩; rw [hw1]; clear hw1)
  refine bodyPost_ret (v := .tuple #[.agg #[.int .i64 0, .int .i64 0], .iface 179 (.pointer (some ea))]) (by simp [results, Tryz.results8, go_sem, c0, c1]) rfl ⟨rfl, ?_⟩
  exact (HB0.out.setCell (Nat.le_refl _) _).setCell (Nat.le_refl _) _
end Go.Proofs.YtofflboheiflaaaGreatDoor

/- PINSKER's inequality of lists; Grains of what is told of a sum. -/
namespace Go.Proofs.YtofflboheiflaaaGreatDoor
open Go.RowKit

def onC (s : Nat → Bool) (p : Nat → Nat) (i : Nat) : Nat := if s i = true then p i else 0
def offC (s : Nat → Bool) (p : Nat → Nat) (i : Nat) : Nat := if s i = true then 0 else p i
theorem on_off (s : Nat → Bool) (p : Nat → Nat) (n : Nat) : sumA (onC s p) n + sumA (offC s p) n = sumA p n := by
  rw [← sumA_add]
  refine sumA_congr fun i _ => ?_
  unfold onC offC
  by_cases h : s i = true
  · rw [if_pos h, if_pos h]; rfl
  · rw [if_neg h, if_neg h]; omega
theorem on_off_prod (s : Nat → Bool) (p q : Nat → Nat) (n : Nat) : prodA (fun i => onC s q i ^ onC s p i) n * prodA (fun i => offC s q i ^ offC s p i) n = prodA (fun i => q i ^ p i) n := by
  rw [← prod_mul]
  refine prod_congr fun i _ => ?_
  unfold onC offC
  by_cases h : s i = true
  · rw [if_pos h, if_pos h, if_pos h, if_pos h]; simp
  · rw [if_neg h, if_neg h, if_neg h, if_neg h]; simp
/-- Merged to two classes. -/
theorem two_classes (s : Nat → Bool) (p q : Nat → Nat) (n : Nat) : sumA (onC s p) n ^ sumA (onC s p) n * sumA (offC s p) n ^ sumA (offC s p) n * prodA (fun i => q i ^ p i) n ≤ sumA (onC s q) n ^ sumA (onC s p) n * sumA (offC s q) n ^ sumA (offC s p) n * prodA (fun i => p i ^ p i) n := by
  have h1 := sums_le (onC s p) (onC s q) n
  have h2 := sums_le (offC s p) (offC s q) n
  have h := Nat.mul_le_mul h1 h2
  rw [← on_off_prod s p q n, ← on_off_prod s p p n]
  generalize sumA (onC s p) n ^ sumA (onC s p) n = t1 at *
  generalize sumA (offC s p) n ^ sumA (offC s p) n = t2 at *
  generalize prodA (fun i => onC s q i ^ onC s p i) n = t3 at *
  generalize prodA (fun i => offC s q i ^ offC s p i) n = t4 at *
  generalize sumA (onC s q) n ^ sumA (onC s p) n = t5 at *
  generalize sumA (offC s q) n ^ sumA (offC s p) n = t6 at *
  generalize prodA (fun i => onC s p i ^ onC s p i) n = t7 at *
  generalize prodA (fun i => offC s p i ^ offC s p i) n = t8 at *
  have k1 : t1 * t2 * (t3 * t4) = t1 * t3 * (t2 * t4) := by grind
  have k2 : t5 * t6 * (t7 * t8) = t5 * t7 * (t6 * t8) := by grind
  rw [k1, k2]
  exact h
/-- How far they are apart is twice what the one has more where it has more. -/
theorem apart_twice {p q : Nat → Int} {a b : Nat → Nat} {P Q : Nat} : ∀ {n : Nat}, (∀ i, i < n → p i = (a i : Int)) → (∀ i, i < n → q i = (b i : Int)) → sumN (apV p q P Q) n = 2 * ((sumA (onC (fun i => decide (b i * P < a i * Q)) a) n : Int) * Q - (sumA (onC (fun i => decide (b i * P < a i * Q)) b) n : Int) * P) - ((sumA a n : Int) * Q - (sumA b n : Int) * P)
  | 0, _, _ => by simp [sumN, sumA]
  | n + 1, hp, hq => by
    have ih := apart_twice (P := P) (Q := Q) (n := n) (fun i hi => hp i (by omega)) (fun i hi => hq i (by omega))
    simp only [sumN, sumA]
    rw [ih]
    unfold apV
    rw [hp n (by omega), hq n (by omega)]
    have e1 : ((a n * Q : Nat) : Int) = (a n : Int) * Q := by simp
    have e2 : ((b n * P : Nat) : Int) = (b n : Int) * P := by simp
    by_cases h : b n * P < a n * Q
    · have o1 : onC (fun i => decide (b i * P < a i * Q)) a n = a n := by unfold onC; simp [h]
      have o2 : onC (fun i => decide (b i * P < a i * Q)) b n = b n := by unfold onC; simp [h]
      rw [o1, o2]
      simp only [Int.natCast_add, Int.add_mul]
      omega
    · have o1 : onC (fun i => decide (b i * P < a i * Q)) a n = 0 := by unfold onC; simp [h]
      have o2 : onC (fun i => decide (b i * P < a i * Q)) b n = 0 := by unfold onC; simp [h]
      rw [o1, o2]
      simp only [Int.natCast_add, Int.add_mul]
      omega
/-- PINSKER. -/
theorem pinsker {p q : Nat → Int} {a b : Nat → Nat} {P Q m n : Nat} {S : Int} (hp : ∀ i, i < m → p i = (a i : Int)) (hq : ∀ i, i < m → q i = (b i : Int)) (hP : P = sumA a m) (hQ : Q = sumA b m) (hP1 : 1 ≤ P ∧ P ≤ 60) (hQ1 : 1 ≤ Q) (hz : ∀ i, i < m → 0 < a i → 0 < b i) (hS : S = sumN (apV p q P Q) m) (hn : (6931472 : Int) * n * ((2 * P * Q) * (2 * P * Q)) ≤ 640000000 * (S * S)) :
    2 ^ (n * P) * downD a b P m ^ 32 ≤ upD a Q m ^ 32 := by
  obtain ⟨x, hx⟩ : ∃ x, x = sumA (onC (fun i => decide (b i * P < a i * Q)) a) m := ⟨_, rfl⟩
  obtain ⟨y, hy⟩ : ∃ y, y = sumA (onC (fun i => decide (b i * P < a i * Q)) b) m := ⟨_, rfl⟩
  have o1 := on_off (fun i => decide (b i * P < a i * Q)) a m
  have o2 := on_off (fun i => decide (b i * P < a i * Q)) b m
  have ht := apart_twice (P := P) (Q := Q) hp hq
  rw [← hS, ← hx, ← hy, ← hP, ← hQ] at ht
  have hcl := two_classes (fun i => decide (b i * P < a i * Q)) a b m
  rw [← hx, ← hP] at o1
  rw [← hy, ← hQ] at o2
  rw [← hx, ← hy, show sumA (offC (fun i => decide (b i * P < a i * Q)) a) m = P - x by omega, show sumA (offC (fun i => decide (b i * P < a i * Q)) b) m = Q - y by omega] at hcl
  have hg := (gibbs hP hQ hz).1
  have hS2 : S = 2 * ((x : Int) * Q - (y : Int) * P) := by
    have e : (P : Int) * Q - (Q : Int) * P = 0 := by grind
    omega
  rcases Nat.eq_zero_or_pos n with h0 | h0
  · subst h0
    rw [Nat.zero_mul, Nat.pow_zero, Nat.one_mul]
    exact Nat.pow_le_pow_left hg 32
  have hpos : y * P < x * Q := by
    have hSn : S ≠ 0 := fun e => by
      rw [e] at hn
      have h1 : (0 : Int) < 6931472 * n * ((2 * P * Q) * (2 * P * Q)) := by
        have h2 : (0 : Int) < 2 * P * Q := Int.mul_pos (by omega) (by omega)
        exact Int.mul_pos (by omega) (Int.mul_pos h2 h2)
      omega
    have hS0 : 0 ≤ S := by
      rw [hS]
      exact sumN_nonneg (fun i _ => by unfold apV; omega)
    have e1 : ((x * Q : Nat) : Int) = (x : Int) * Q := by simp
    have e2 : ((y * P : Nat) : Int) = (y : Int) * P := by simp
    omega
  have hy0 : 0 < y := by
    rcases Nat.eq_zero_or_pos y with h | h
    · have hall := sum_zero (f := onC (fun i => decide (b i * P < a i * Q)) b) (n := m) (by omega)
      have hx0 : x = 0 := by
        rw [hx]
        have : sumA (onC (fun i => decide (b i * P < a i * Q)) a) m = sumA (fun _ => 0) m := sumA_congr fun i hi => by
          have h4 := hall i hi
          unfold onC at h4 ⊢
          by_cases h5 : decide (b i * P < a i * Q) = true
          · rw [if_pos h5] at h4 ⊢
            rcases Nat.eq_zero_or_pos (a i) with h6 | h6
            · exact h6
            · have := hz i hi h6
              omega
          · rw [if_neg h5]
        rw [this]
        have z0 : ∀ n, sumA (fun _ => 0) n = 0 := by
          intro n
          induction n with
          | zero => rfl
          | succ n ih => simp only [sumA]; omega
        exact z0 m
      rw [hx0] at hpos
      omega
    · exact h
  have hpin := pin_two (P := P) (Q := Q) (a := x) (b := y) (n := n) hP1 hQ1 (by omega) (by omega) hy0 hpos (by
    obtain ⟨t, ht2⟩ : ∃ t, t = x * Q - y * P := ⟨_, rfl⟩
    rw [← ht2]
    have e : S = 2 * (t : Int) := by
      have e1 : ((x * Q : Nat) : Int) = (x : Int) * Q := by simp
      have e2 : ((y * P : Nat) : Int) = (y : Int) * P := by simp
      omega
    rw [e] at hn
    refine Int.ofNat_le.1 ?_
    simp only [Int.natCast_mul]
    have k1 : (6931472 : Int) * n * (2 * P * Q * (2 * P * Q)) = 4 * (6931472 * n * (P * P * (Q * Q))) := by grind
    have k2 : (640000000 : Int) * (2 * t * (2 * t)) = 4 * (640000000 * (t * t)) := by grind
    rw [k1, k2] at hn
    have := Int.le_of_mul_le_mul_left hn (by decide)
    simpa using this)
  unfold upD downD
  rw [← hP]
  have h32 := Nat.pow_le_pow_left hcl 32
  have hDB : 0 < y ^ x * (Q - y) ^ (P - x) := by
    refine Nat.mul_pos (Nat.pow_pos hy0) ?_
    rcases Nat.eq_zero_or_pos (P - x) with h | h
    · rw [h]; simp
    · refine Nat.pow_pos ?_
      rcases Nat.lt_or_ge y Q with h1 | h1
      · omega
      · have : y = Q := by omega
        subst this
        have h3 := Nat.mul_le_mul_right y (show x ≤ P by omega)
        rw [Nat.mul_comm P y] at h3
        omega
  refine Nat.le_of_mul_le_mul_right (c := (y ^ x * (Q - y) ^ (P - x)) ^ 32) ?_ (Nat.pow_pos hDB)
  rw [Nat.mul_pow (x ^ x * (P - x) ^ (P - x)), Nat.mul_pow (y ^ x * (Q - y) ^ (P - x))] at h32
  rw [Nat.mul_pow, Nat.mul_pow (Q ^ P)] at hpin
  rw [Nat.mul_pow, Nat.mul_pow (Q ^ P)]
  have g1 := Nat.mul_le_mul_right ((prodA (fun i => b i ^ a i) m) ^ 32) hpin
  have g2 := Nat.mul_le_mul_left ((Q ^ P) ^ 32) h32
  generalize 2 ^ (n * P) = u1 at *
  generalize (P ^ P) ^ 32 = u2 at *
  generalize (y ^ x * (Q - y) ^ (P - x)) ^ 32 = u3 at *
  generalize (Q ^ P) ^ 32 = u4 at *
  generalize (x ^ x * (P - x) ^ (P - x)) ^ 32 = u5 at *
  generalize (prodA (fun i => b i ^ a i) m) ^ 32 = u6 at *
  generalize (prodA (fun i => a i ^ a i) m) ^ 32 = u7 at *
  have k1 : u1 * (u2 * u6) * u3 = u1 * (u2 * u3) * u6 := by grind
  have k2 : u4 * u7 * u3 = u4 * (u3 * u7) := by grind
  have k3 : u4 * u5 * u6 = u4 * (u5 * u6) := by grind
  rw [k1, k2]
  rw [k3] at g1
  exact Nat.le_trans g1 g2
/-- Its sides, 32 times, are as the sides of the sum. -/
theorem by_sides32 {d G U D : Nat} {t : List (Int × Int)} {f : Int → Int} (hok : OkLog d t.length (pOf t) (cOf t)) (hv : ∀ x, f x = (G : Int) * atL t x) (hU : 0 < U) (hD : 0 < D) (hm : ∀ q : Nat, Pr q → f (q : Int) = (mult q U : Int) - (mult q D : Int)) :
    sideUp (pOf t) (cOf t) 32 t.length ^ G * D ^ 32 = sideDown (pOf t) (cOf t) 32 t.length ^ G * U ^ 32 := by
  have h2 : Pr 2 := ⟨by omega, fun d hd hdd => by have := Nat.mul_le_mul hd hd; omega⟩
  obtain ⟨_, a1, a2⟩ := hok.side 32 h2
  refine eq_of_mult _ _ (Nat.mul_pos (Nat.pow_pos a1) (Nat.pow_pos hD)) (Nat.mul_pos (Nat.pow_pos a2) (Nat.pow_pos hU)) (fun q hq => ?_)
  have e1 := (hok.side 32 hq).1
  have e2 := hm q hq
  rw [hv] at e2
  rw [mult_mul hq _ _ (Nat.pow_pos a1) (Nat.pow_pos hD), mult_mul hq _ _ (Nat.pow_pos a2) (Nat.pow_pos hU), mult_power hq a1, mult_power hq a2, mult_power hq hD, mult_power hq hU]
  generalize mult q (sideUp (pOf t) (cOf t) 32 t.length) = A at *
  generalize mult q (sideDown (pOf t) (cOf t) 32 t.length) = B at *
  generalize mult q U = u at *
  generalize mult q D = e at *
  generalize atL t (q : Int) = z at *
  apply Int.ofNat_inj.1
  simp only [Int.natCast_add, Int.natCast_mul]
  have h3 : (A : Int) = B + z * 32 := by omega
  rw [h3]
  grind
theorem grains_ge {d G M U D su sd n : Nat} {q z : Int} (hs : su ^ G * D ^ 32 = sd ^ G * U ^ 32) (hM : M = G * d) (hG : 0 < G) (hd : 0 < d) (hD : 0 < D) (hp : 2 ^ (n * M) * D ^ 32 ≤ U ^ 32) (hl : IsLog q su sd) (hz : z = q / (d : Int)) : (n : Int) ≤ z := by
  have h1 : (sd * 2 ^ (n * d)) ^ G ≤ su ^ G := by
    refine Nat.le_of_mul_le_mul_right (c := D ^ 32) ?_ (Nat.pow_pos hD)
    rw [hs, Nat.mul_pow, ← Nat.pow_mul, show n * d * G = n * M by rw [hM]; grind, Nat.mul_assoc]
    exact Nat.mul_le_mul_left _ hp
  have h2 : sd * 2 ^ (n * d) ≤ su := by
    rcases Nat.lt_or_ge su (sd * 2 ^ (n * d)) with h | h
    · have := Nat.pow_lt_pow_left h (Nat.pos_iff_ne_zero.1 hG)
      omega
    · exact h
  have h3 : le2 ((n * d : Nat) : Int) su sd := (le2_iff (x := n * d) (y := 0) (by omega)).2 (by simpa using h2)
  obtain ⟨_, h4⟩ := isLog_floor (show (0 : Int) < (d : Int) by omega) hl hz
  rcases Int.lt_or_le z (n : Int) with h | h
  · refine absurd (le2_anti h3 ?_) h4
    have := Int.mul_le_mul_of_nonneg_right (show z + 1 ≤ (n : Int) by omega) (show (0 : Int) ≤ (d : Int) by omega)
    simpa using this
  · exact h
end Go.Proofs.YtofflboheiflaaaGreatDoor

/- The document's differences. -/
namespace Go.Proofs.YtofflboheiflaaaGreatDoor
open Go.RowKit

set_option maxRecDepth 10000 in
set_option maxHeartbeats 4000000 in
/-- Minus: the difference, in its lowest terms. -/
theorem Minus_ratio (v1 v2 : Value) (n1 n2 : Int) (d1 d2 k : Nat) (w : World) (h1 : RatioAt w v1 n1 d1) (h2 : RatioAt w v2 n2 d2) (hd1 : 0 < d1) (hd2 : 0 < d2) (hn1 : n1.natAbs < 1000000 ^ k) (hn2 : n2.natAbs < 1000000 ^ k) (hk1 : d1 < 1000000 ^ k) (hk2 : d2 < 1000000 ^ k) (hk : k + k + 1 + 1 ≤ 1000000) :
    Calls Tryz.prog 33 #[v1, v2] w fun e w' => ∃ r, e = .returned r ∧ RatioAt w' r ((n1 * d2 + -n2 * d1).tdiv ((Nat.gcd (n1 * d2 + -n2 * d1).natAbs (d1 * d2) : Nat) : Int)) (d1 * d2 / Nat.gcd (n1 * d2 + -n2 * d1).natAbs (d1 * d2)) ∧ Below w.heap.size w w' := by
  obtain ⟨u1, q1, rfl, hu1, hq1⟩ := h1
  obtain ⟨u2, q2, rfl, hu2, hq2⟩ := h2
  obtain ⟨ad1, l1, cap1, rfl, _⟩ := hu1.len
  obtain ⟨bd1, m1, bap1, rfl, _⟩ := hq1.len
  obtain ⟨ad2, l2, cap2, rfl, _⟩ := hu2.len
  obtain ⟨bd2, m2, bap2, rfl, _⟩ := hq2.len
  obtain ⟨s1, hs1⟩ : ∃ s, decide (n1 < 0) = s := ⟨_, rfl⟩
  obtain ⟨s2, hs2⟩ : ∃ s, decide (n2 < 0) = s := ⟨_, rfl⟩
  rw [hs1, hs2]
  have hB0 : Below w.heap.size w (((w.alloc (.cells #[.bool s1, .slice ad1 l1 cap1, .slice bd1 m1 bap1] 39)).alloc (.cells #[.bool s2, .slice ad2 l2 cap2, .slice bd2 m2 bap2] 39)).alloc (.cells #[.bool false, .slice none 0 0, .slice none 0 0] 39)) := (((Below.refl _ _).alloc (Nat.le_refl _) _).alloc (by simp) _).alloc (by simp; omega) _
  have hN := noInts_third3 w (.cells #[.bool s1, .slice ad1 l1 cap1, .slice bd1 m1 bap1] 39) (.cells #[.bool s2, .slice ad2 l2 cap2, .slice bd2 m2 bap2] 39) 39
  have hNP := fun (w1 : World) => nine_past (w := w) (w1 := w1) (x0 := .bool s1) (x1 := .slice ad1 l1 cap1) (x2 := .slice bd1 m1 bap1) (y0 := .bool s2) (y1 := .slice ad2 l2 cap2) (y2 := .slice bd2 m2 bap2) (r0 := .bool false) (r1 := .slice none 0 0) (r2 := .slice none 0 0) (t := 39)
  have hz0 : w.heap.size + 1 + 1 + 1 = (((w.alloc (.cells #[.bool s1, .slice ad1 l1 cap1, .slice bd1 m1 bap1] 39)).alloc (.cells #[.bool s2, .slice ad2 l2 cap2, .slice bd2 m2 bap2] 39)).alloc (.cells #[.bool false, .slice none 0 0, .slice none 0 0] 39)).heap.size := by simp
  generalize hW : (((w.alloc (.cells #[.bool s1, .slice ad1 l1 cap1, .slice bd1 m1 bap1] 39)).alloc (.cells #[.bool s2, .slice ad2 l2 cap2, .slice bd2 m2 bap2] 39)).alloc (.cells #[.bool false, .slice none 0 0, .slice none 0 0] 39)) = W0 at hB0 hN hNP hz0
  have hKS : ∀ W, Below (w.heap.size + 1 + 1) W0 W → (W.cell? ⟨w.heap.size, 0, none⟩ = some (.bool s1) ∧ W.cell? ⟨w.heap.size, 1, none⟩ = some (.slice ad1 l1 cap1) ∧ W.cell? ⟨w.heap.size, 2, none⟩ = some (.slice bd1 m1 bap1)) ∧ (W.cell? ⟨w.heap.size + 1, 0, none⟩ = some (.bool s2) ∧ W.cell? ⟨w.heap.size + 1, 1, none⟩ = some (.slice ad2 l2 cap2) ∧ W.cell? ⟨w.heap.size + 1, 2, none⟩ = some (.slice bd2 m2 bap2)) := fun W hb => by
    obtain ⟨⟨a0, a1, a2⟩, ⟨b0, b1, b2⟩, _⟩ := hNP W0 (Below.refl _ _)
    have ha : ∀ j v, W0.cell? ⟨w.heap.size, j, none⟩ = some v → W.cell? ⟨w.heap.size, j, none⟩ = some v := fun j v h => by rw [hb.cell (p := ⟨w.heap.size, j, none⟩) (by show w.heap.size < _; omega)]; exact h
    have hb' : ∀ j v, W0.cell? ⟨w.heap.size + 1, j, none⟩ = some v → W.cell? ⟨w.heap.size + 1, j, none⟩ = some v := fun j v h => by rw [hb.cell (p := ⟨w.heap.size + 1, j, none⟩) (by show w.heap.size + 1 < _; omega)]; exact h
    exact ⟨⟨ha 0 _ a0, ha 1 _ a1, ha 2 _ a2⟩, ⟨hb' 0 _ b0, hb' 1 _ b1, hb' 2 _ b2⟩⟩
  have HS2 := Hid.mk' (show SignedAt W0.drew (.agg #[.bool s2, .slice ad2 l2 cap2]) n2 from ⟨_, by rw [hs2], (hu2.later hB0).later ((Below.refl _ _).drew)⟩)
  have HD2 := Hid.mk' ((hq2.later hB0).later ((Below.refl _ _).drew))
  have HR1 := Hid.mk' (show RatioAt W0.drew (.agg #[.bool s1, .slice ad1 l1 cap1, .slice bd1 m1 bap1]) n1 d1 from ⟨_, _, by rw [hs1], (hu1.later hB0).later ((Below.refl _ _).drew), (hq1.later hB0).later ((Below.refl _ _).drew)⟩)
  have hback := SignedBack_any _ n2 W0.drew HS2.out
  have HBACK := Hid.mk' hback
  have HKS := Hid.mk' hKS
  have HW := Hid.mk' hW
  have HNP := Hid.mk' hNP
  have HN := Hid.mk' hN
  have HB := Hid.mk' hB0
  have HBD : Hid (n1.natAbs < 1000000 ^ k ∧ (-n2).natAbs < 1000000 ^ k ∧ d1 < 1000000 ^ k ∧ d2 < 1000000 ^ k) := ⟨hn1, by rw [Int.natAbs_neg]; exact hn2, hk1, hk2⟩
  have hcur0 : Below (w.heap.size + 1 + 1) W0 W0 := Below.refl _ _
  have hcur : Below (w.heap.size + 1 + 1) W0 W0.drew := (Below.refl _ _).drew
  obtain ⟨zz, hzz⟩ : ∃ zz, zz = n1 * (d2 : Int) + -n2 * (d1 : Int) := ⟨_, rfl⟩
  rw [← hzz]
  have HZZ := Hid.mk' hzz
  clear hs1 hs2 hu1 hu2 hq1 hq2 hB0 hN hNP hW hKS hback hn1 hn2 hk1 hk2 hzz
  go_enter Tryz.func33, Tryz.ntmps33
  go_wp2_with fail
  rw [HW.out]
  go_region_held3 (fun W => (W.cell? ⟨w.heap.size, 0, none⟩ = some (.bool s1) ∧ W.cell? ⟨w.heap.size, 1, none⟩ = some (.slice ad1 l1 cap1) ∧ W.cell? ⟨w.heap.size, 2, none⟩ = some (.slice bd1 m1 bap1)) ∧ (W.cell? ⟨w.heap.size + 1, 0, none⟩ = some (.bool s2) ∧ W.cell? ⟨w.heap.size + 1, 1, none⟩ = some (.slice ad2 l2 cap2) ∧ W.cell? ⟨w.heap.size + 1, 2, none⟩ = some (.slice bd2 m2 bap2)))
    (first | exact HKS.out _ hcur0 | exact HKS.out _ hcur | exact HKS.out _ hc1 | exact HKS.out _ hc3 | exact HKS.out _ (below_set3 hc3 (Nat.le_refl _) _ _ _))
    (first
      | (go_at_call 42; refine HBACK.out.mono ?_; rintro e w1 ⟨sv, rfl, ⟨us, rfl, hus⟩, hb1⟩; obtain ⟨sg, hsg⟩ : ∃ sg, decide (-n2 < 0) = sg := ⟨_, rfl⟩; rw [hsg]; obtain ⟨ad3, l3, cap3, rfl, _⟩ := hus.len; have hbw1 := below_chain ((Below.refl _ _).drew) hb1; have hc1 : Below (w.heap.size + 1 + 1) W0 w1 := hbw1.mono (by omega); have HRA : Hid (RatioAt w1 (.agg #[.bool sg, .slice ad3 l3 cap3, .slice bd2 m2 bap2]) (-n2) d2) := ⟨_, _, by rw [hsg], hus, HD2.out.later hb1⟩; have HRB := Hid.mk' (HR1.out.later hb1); have HBW1 := Hid.mk' hbw1; clear hus hb1 hbw1 hsg)
      | (go_at_call 34; refine (Plus_ratio _ _ n1 (-n2) d1 d2 k w1 HRB.out HRA.out hd1 hd2 HBD.out.1 HBD.out.2.1 HBD.out.2.2.1 HBD.out.2.2.2 hk).mono ?_; rintro e w3 ⟨rv, rfl, hrv, hb3⟩; rw [← HZZ.out] at hrv; obtain ⟨ur, qr, rfl, hur, hqr⟩ := hrv; obtain ⟨ad5, l5, cap5, rfl, _⟩ := hur.len; obtain ⟨ad6, l6, cap6, rfl, _⟩ := hqr.len; have hbw3 := below_chain HBW1.out hb3; have hc3 : Below (w.heap.size + 1 + 1) W0 w3 := hbw3.mono (by omega); obtain ⟨_, _, ⟨c0, c1, c2⟩, f0, f1, f2⟩ := HNP.out w3 hbw3; have HUR := Hid.mk' hur; have HQR := Hid.mk' hqr; have HBW3 := Hid.mk' hbw3; clear hur hqr hb3 hbw3))
  go_wp2_with fail
  refine bodyPost_ret (v := .agg #[.bool (decide (zz.tdiv ((Nat.gcd zz.natAbs (d1 * d2) : Nat) : Int) < 0)), .slice ad5 l5 cap5, .slice ad6 l6 cap6]) (by simp [results, Tryz.results33, go_sem, c0, c1, c2]) rfl ⟨_, rfl, ⟨_, _, rfl, HUR.out.set3 (HN.out.later (by omega) HBW3.out) c0 c1, HQR.out.set3 (HN.out.later (by omega) HBW3.out) c0 c1⟩, below_set3 (below_chain HB.out HBW3.out) (by omega) _ _ _⟩

/-- What is less than nothing by a part of M. -/
theorem low_minus {M : Nat} (hM : 0 < M) (z : Int) : (0 * (lowD M z : Int) + -lowN M z * (1 : Nat)).tdiv ((Nat.gcd (0 * (lowD M z : Int) + -lowN M z * (1 : Nat)).natAbs (1 * lowD M z) : Nat) : Int) = lowN M (-z) ∧ 1 * lowD M z / Nat.gcd (0 * (lowD M z : Int) + -lowN M z * (1 : Nat)).natAbs (1 * lowD M z) = lowD M (-z) := by
  refine low_same hM (by have := lowD_pos hM z; omega) ?_
  have h1 := low_cross hM z
  rw [Nat.one_mul]
  generalize lowN M z = a at *
  generalize (lowD M z : Int) = c at *
  simp only [Int.zero_mul, Int.zero_add, Int.natCast_one, Int.mul_one]
  rw [Int.neg_mul, h1, Int.neg_mul]
/-- A part of a part: n of M times x of n is x of M. -/
theorem low_times {M n : Nat} (hM : 0 < M) (hn : 0 < n) (x : Int) : (lowN M n * lowN n x).tdiv ((Nat.gcd (lowN M n * lowN n x).natAbs (lowD M n * lowD n x) : Nat) : Int) = lowN M x ∧ lowD M n * lowD n x / Nat.gcd (lowN M n * lowN n x).natAbs (lowD M n * lowD n x) = lowD M x := by
  refine low_same hM (Nat.mul_pos (lowD_pos hM n) (lowD_pos hn x)) ?_
  have h1 := low_cross hM (n : Int)
  have h2 := low_cross hn x
  rw [Int.natCast_mul]
  generalize lowN M n = a at *
  generalize lowN n x = b at *
  generalize (lowD M n : Int) = c at *
  generalize (lowD n x : Int) = e at *
  calc a * b * (M : Int) = (a * (M : Int)) * b := by rw [Int.mul_assoc, Int.mul_comm b, ← Int.mul_assoc]
    _ = (b * (n : Int)) * c := by rw [h1, Int.mul_comm (n : Int) c, Int.mul_assoc, Int.mul_comm c, Int.mul_comm (n : Int) b]
    _ = x * (c * e) := by rw [h2, Int.mul_assoc, Int.mul_comm e c]
theorem low_self {M : Nat} (hM : 0 < M) : lowN M M = 1 ∧ lowD M M = 1 := by
  have h := low_same (M := M) (d := 1) (z := (M : Int)) (n := 1) hM (by decide) (by simp)
  simpa using And.intro h.1.symm h.2.symm
end Go.Proofs.YtofflboheiflaaaGreatDoor

/- The document's Entropy of a Wide, and EntropyOf. -/
namespace Go.Proofs.YtofflboheiflaaaGreatDoor
open Go.RowKit

/-- A Wide to which f came, in at most c calls. -/
structure WPuts (base M B : Nat) (W0 wr : World) (f : Int → Int) (c : Nat) (L0 : List Ent) (vp vc : Value) (L : List Ent) : Prop where
  wide : WideAt base M wr B vp vc L
  rise : Rising (absL L)
  val : ∀ x, atL (absL L) x = atL (absL L0) x + f x
  len : L.length ≤ L0.length + 20 * c
  kept : IntsKept W0 wr
  moved : Moved B W0 wr
  below : Below base W0 wr
theorem WPuts.trans {base M B : Nat} {W0 W1 W2 : World} {f g : Int → Int} {c d : Nat} {L0 L1 L2 : List Ent} {vp vc vp' vc' : Value} (h : WPuts base M B W0 W1 f c L0 vp vc L1) (k : WPuts base M B W1 W2 g d L1 vp' vc' L2) : WPuts base M B W0 W2 (fun x => f x + g x) (c + d) L0 vp' vc' L2 :=
  ⟨k.wide, k.rise, fun x => by rw [k.val, h.val]; omega, by have := h.len; have := k.len; omega, h.kept.trans k.kept, h.moved.trans k.moved, h.below.trans k.below⟩
theorem WPuts.congr {base M B : Nat} {W0 W1 : World} {f g : Int → Int} {c d : Nat} {L0 L1 : List Ent} {vp vc : Value} (h : WPuts base M B W0 W1 f c L0 vp vc L1) (hc : c ≤ d) (he : ∀ x, f x = g x) : WPuts base M B W0 W1 g d L0 vp vc L1 :=
  ⟨h.wide, h.rise, fun x => by rw [h.val, he], by have := h.len; omega, h.kept, h.moved, h.below⟩
theorem WPuts.later {base M B : Nat} {W0 W1 W2 : World} {f : Int → Int} {c : Nat} {L0 L1 : List Ent} {vp vc : Value} (h : WPuts base M B W0 W1 f c L0 vp vc L1) (hb : Below W1.heap.size W1 W2) : WPuts base M B W0 W2 f c L0 vp vc L1 :=
  ⟨h.wide.later hb, h.rise, h.val, h.len, h.kept.trans (IntsKept.of_below hb), h.moved.trans (Moved.of_below hb h.wide.lt), h.below.trans (hb.mono (by have := h.wide.hB; have := h.wide.lt; omega))⟩
theorem WPuts.start {base M B : Nat} {W0 : World} {L : List Ent} {vp vc : Value} (h : WideAt base M W0 B vp vc L) (hr : Rising (absL L)) {f : Int → Int} (hf : ∀ x, f x = 0) (c : Nat) : WPuts base M B W0 W0 f c L vp vc L :=
  ⟨h, hr, fun x => by rw [hf]; omega, by omega, IntsKept.refl _, Moved.refl _ _, Below.refl _ _⟩
/-- A fraction in a box. -/
structure RBox (W0 W : World) (B : Nat) (n : Int) (d : Nat) : Prop where
  below : Below W0.heap.size W0 W
  hB : W0.heap.size ≤ B
  box : ∃ s ad l cap ad' l' cap', W.cell? ⟨B, 0, none⟩ = some (.bool s) ∧ W.cell? ⟨B, 1, none⟩ = some (.slice ad l cap) ∧ W.cell? ⟨B, 2, none⟩ = some (.slice ad' l' cap') ∧ RatioAt W (.agg #[.bool s, .slice ad l cap, .slice ad' l' cap']) n d
theorem rBox_late {W0 W : World} {n : Int} {d : Nat} {s : Bool} {ad ad' : Option Addr} {l cap l' cap' : Nat} (h : Below W0.heap.size W0 W) (hr : RatioAt W (.agg #[.bool s, .slice ad l cap, .slice ad' l' cap']) n d) : RBox W0 (W.alloc (.cells #[.bool s, .slice ad l cap, .slice ad' l' cap'] 39)) W.heap.size n d :=
  ⟨more_below h _, h.size, s, ad, l, cap, ad', l', cap', by simp, by simp, by simp, hr.later (new_below _ _)⟩
theorem rBox_soon {W0 W : World} {B : Nat} {n : Int} {d : Nat} {s : Bool} {ad ad' : Option Addr} {l cap l' cap' : Nat} (h : Below W0.heap.size W0 W) (hr : RatioAt W (.agg #[.bool s, .slice ad l cap, .slice ad' l' cap']) n d) (hn : NewBox3 W0 W B) : RBox W0 (((W.setCell ⟨B, 0, none⟩ (.bool s)).setCell ⟨B, 1, none⟩ (.slice ad l cap)).setCell ⟨B, 2, none⟩ (.slice ad' l' cap')) B n d := by
  refine ⟨below_set3 h hn.hB _ _ _, hn.hB, s, ad, l, cap, ad', l', cap', ?_, ?_, ?_, ?_⟩
  · rw [World.cell?_setCell_other _ _ _ _ (by simp), World.cell?_setCell_other _ _ _ _ (by simp)]; exact World.cell?_setCell_same _ _ _ hn.c0
  · rw [World.cell?_setCell_other _ _ _ _ (by simp)]; exact World.cell?_setCell_same _ _ _ (by rw [World.cell?_setCell_other _ _ _ _ (by simp)]; exact hn.c1)
  · exact World.cell?_setCell_same _ _ _ (by rw [World.cell?_setCell_other _ _ _ _ (by simp), World.cell?_setCell_other _ _ _ _ (by simp)]; exact hn.c2)
  · obtain ⟨u, q, hv, hu, hq⟩ := hr
    have hv' := hv
    simp only [Value.agg.injEq, Array.mk.injEq, List.cons.injEq, and_true] at hv'
    obtain ⟨_, rfl, rfl⟩ := hv'
    exact ⟨_, _, hv, hu.set3 hn.no hn.c0 hn.c1, hq.set3 hn.no hn.c0 hn.c1⟩
theorem RatioOf_low (x : Int) (n : Nat) (w : World) (h0 : -1000000 ≤ x ∧ x ≤ 1000000) (hd : 0 < n) (hd1 : n ≤ 1000000) :
    Calls Tryz.prog 17 #[.int .i64 x, .int .i64 n] w fun e w' => ∃ r, e = .returned r ∧ RatioAt w' r (lowN n x) (lowD n x) ∧ Below w.heap.size w w' := RatioOf_any x n w (by omega) (by omega) hd (by omega)
theorem low_lt {M : Nat} (hM : 0 < M) {z : Int} (hM6 : M ≤ 4096) (hz : -1000000 ≤ z ∧ z ≤ 1000000) : (lowN M z).natAbs < 1000000 ^ 3 ∧ lowD M z < 1000000 ^ 3 := by
  have p3 : (1000000 : Nat) ^ 3 = 1000000000000000000 := by decide
  have h1 := lowN_le hM z
  have h2 := lowD_le M z
  rw [p3]
  omega
/-- A chance of a chance. -/
theorem Times_low (M n : Nat) (x : Int) (c r : Value) (w : World) (hc : RatioAt w c (lowN M n) (lowD M n)) (hr : RatioAt w r (lowN n x) (lowD n x)) (hM : 0 < M) (hM6 : M ≤ 4096) (hn : 0 < n) (hn6 : n ≤ 4096) (hx : -1000000 ≤ x ∧ x ≤ 1000000) :
    Calls Tryz.prog 15 #[c, r] w fun e w' => ∃ r', e = .returned r' ∧ RatioAt w' r' (lowN M x) (lowD M x) ∧ Below w.heap.size w w' := by
  have l1 := low_lt hM (z := (n : Int)) hM6 (by omega)
  have l2 := low_lt hn (z := x) hn6 hx
  have h := Times_ratio c r _ _ _ _ 3 w hc hr (lowD_pos hM _) (lowD_pos hn _) l1.1 l2.1 l1.2 l2.2 (by decide)
  have e := low_times hM hn x
  rw [e.1, e.2] at h
  exact h
/-- What is less than nothing. -/
theorem Minus_low (M : Nat) (x : Int) (o r : Value) (w : World) (ho : RatioAt w o (lowN 1 0) (lowD 1 0)) (hr : RatioAt w r (lowN M x) (lowD M x)) (hM : 0 < M) (hM6 : M ≤ 4096) (hx : -1000000 ≤ x ∧ x ≤ 1000000) :
    Calls Tryz.prog 33 #[o, r] w fun e w' => ∃ r', e = .returned r' ∧ RatioAt w' r' (lowN M (-x)) (lowD M (-x)) ∧ Below w.heap.size w w' := by
  have l2 := low_lt hM (z := x) hM6 hx
  have l1 := low_lt (M := 1) (by decide) (z := 0) (by decide) (by omega)
  rw [(low_one 0).1, (low_one 0).2] at ho l1
  have h := Minus_ratio o r 0 _ 1 _ 3 w ho hr (by decide) (lowD_pos hM _) l1.1 l2.1 l1.2 l2.2 (by decide)
  have e := low_minus hM x
  rw [e.1, e.2] at h
  exact h
end Go.Proofs.YtofflboheiflaaaGreatDoor

/- A variable that holds a fraction of the document. -/
namespace Go.Proofs.YtofflboheiflaaaGreatDoor
open Go.RowKit

theorem IntsAt.set1 {w : World} {u v : Value} {l : List Nat} {B j : Nat} {y : Value} (h : IntsAt w u l) (hc : w.cell? ⟨B, j, none⟩ = some v) (hv : ∀ x, v ≠ .int .i64 x) : IntsAt (w.setCell ⟨B, j, none⟩ y) u l := by
  rcases h with h | ⟨b, o, cap, h1, h2, h3, h4⟩
  · exact Or.inl h
  · refine Or.inr ⟨b, o, cap, h1, h2, h3, fun i hi => ?_⟩
    rw [World.cell?_setCell_other _ _ _ _ (fun e => ?_)]
    · exact h4 i hi
    · have := h4 i hi
      rw [← e, hc] at this
      exact hv _ (Option.some.inj this)
theorem BigAt.set1 {w : World} {u v : Value} {n B j : Nat} {y : Value} (h : BigAt w u n) (hc : w.cell? ⟨B, j, none⟩ = some v) (hv : ∀ x, v ≠ .int .i64 x) : BigAt (w.setCell ⟨B, j, none⟩ y) u n := by
  obtain ⟨l, h1, h2, h3, h4⟩ := h
  exact ⟨l, h1, h2, h3, h4.set1 hc hv⟩
theorem RatioAt.set1 {w : World} {u v : Value} {n : Int} {d B j : Nat} {y : Value} (h : RatioAt w u n d) (hc : w.cell? ⟨B, j, none⟩ = some v) (hv : ∀ x, v ≠ .int .i64 x) : RatioAt (w.setCell ⟨B, j, none⟩ y) u n d := by
  obtain ⟨a, b, h1, h2, h3⟩ := h
  exact ⟨a, b, h1, h2.set1 hc hv, h3.set1 hc hv⟩
structure FBox (W0 W : World) (B : Nat) (n : Int) (d : Nat) : Prop where
  below : Below W0.heap.size W0 W
  hB : W0.heap.size ≤ B
  f0 : W.frozen? ⟨B, 0, none⟩ = false
  f1 : W.frozen? ⟨B, 1, none⟩ = false
  f2 : W.frozen? ⟨B, 2, none⟩ = false
  box : ∃ s ad l cap ad' l' cap', W.cell? ⟨B, 0, none⟩ = some (.bool s) ∧ W.cell? ⟨B, 1, none⟩ = some (.slice ad l cap) ∧ W.cell? ⟨B, 2, none⟩ = some (.slice ad' l' cap') ∧ RatioAt W (.agg #[.bool s, .slice ad l cap, .slice ad' l' cap']) n d
theorem FBox.later {W0 W W' : World} {B : Nat} {n : Int} {d : Nat} (h : FBox W0 W B n d) (hb : Below W.heap.size W W') : FBox W0 W' B n d := by
  obtain ⟨s, ad, l, cap, ad', l', cap', c0, c1, c2, hr⟩ := h.box
  exact ⟨below_chain h.below hb, h.hB, (frozen_past c0 h.f0 hb).2, (frozen_past c1 h.f1 hb).2, (frozen_past c2 h.f2 hb).2, s, ad, l, cap, ad', l', cap', (cell_past c0 hb).2, (cell_past c1 hb).2, (cell_past c2 hb).2, hr.later hb⟩
theorem fBox_late {W0 W : World} {n : Int} {d : Nat} {s : Bool} {ad ad' : Option Addr} {l cap l' cap' : Nat} (h : Below W0.heap.size W0 W) (hr : RatioAt W (.agg #[.bool s, .slice ad l cap, .slice ad' l' cap']) n d) : FBox W0 (W.alloc (.cells #[.bool s, .slice ad l cap, .slice ad' l' cap'] 39)) W.heap.size n d :=
  ⟨more_below h _, h.size, by simp, by simp, by simp, s, ad, l, cap, ad', l', cap', by simp, by simp, by simp, hr.later (new_below _ _)⟩
/-- Another fraction is stored. -/
theorem fBox_put {W0 W : World} {B : Nat} {n : Int} {d : Nat} {s t : Bool} {ad ad' bd bd' : Option Addr} {l cap l' cap' m bap m' bap' : Nat} (h : Below W0.heap.size W0 W) (hB : W0.heap.size ≤ B) (f0 : W.frozen? ⟨B, 0, none⟩ = false) (f1 : W.frozen? ⟨B, 1, none⟩ = false) (f2 : W.frozen? ⟨B, 2, none⟩ = false) (c0 : W.cell? ⟨B, 0, none⟩ = some (.bool t)) (c1 : W.cell? ⟨B, 1, none⟩ = some (.slice bd m bap)) (c2 : W.cell? ⟨B, 2, none⟩ = some (.slice bd' m' bap')) (hr : RatioAt W (.agg #[.bool s, .slice ad l cap, .slice ad' l' cap']) n d) : FBox W0 (((W.setCell ⟨B, 0, none⟩ (.bool s)).setCell ⟨B, 1, none⟩ (.slice ad l cap)).setCell ⟨B, 2, none⟩ (.slice ad' l' cap')) B n d := by
  have e1 : (W.setCell ⟨B, 0, none⟩ (.bool s)).cell? ⟨B, 1, none⟩ = some (.slice bd m bap) := by rw [World.cell?_setCell_other _ _ _ _ (by simp)]; exact c1
  have e2 : ((W.setCell ⟨B, 0, none⟩ (.bool s)).setCell ⟨B, 1, none⟩ (.slice ad l cap)).cell? ⟨B, 2, none⟩ = some (.slice bd' m' bap') := by rw [World.cell?_setCell_other _ _ _ _ (by simp), World.cell?_setCell_other _ _ _ _ (by simp)]; exact c2
  refine ⟨below_set3 h hB _ _ _, hB, by simpa using f0, by simpa using f1, by simpa using f2, s, ad, l, cap, ad', l', cap', ?_, ?_, ?_, ?_⟩
  · rw [World.cell?_setCell_other _ _ _ _ (by simp), World.cell?_setCell_other _ _ _ _ (by simp)]; exact World.cell?_setCell_same _ _ _ c0
  · rw [World.cell?_setCell_other _ _ _ _ (by simp)]; exact World.cell?_setCell_same _ _ _ e1
  · exact World.cell?_setCell_same _ _ _ e2
  · exact ((hr.set1 c0 (by simp)).set1 e1 (by simp)).set1 e2 (by simp)
theorem fBox_soon {W0 W : World} {B : Nat} {n : Int} {d : Nat} {s : Bool} {ad ad' : Option Addr} {l cap l' cap' : Nat} (h : Below W0.heap.size W0 W) (hr : RatioAt W (.agg #[.bool s, .slice ad l cap, .slice ad' l' cap']) n d) (hn : NewBox3 W0 W B) : FBox W0 (((W.setCell ⟨B, 0, none⟩ (.bool s)).setCell ⟨B, 1, none⟩ (.slice ad l cap)).setCell ⟨B, 2, none⟩ (.slice ad' l' cap')) B n d :=
  fBox_put h hn.hB hn.f0 hn.f1 hn.f2 hn.c0 hn.c1 hn.c2 hr
/-- Its sign is cleared. -/
theorem FBox.plain {W0 W : World} {B : Nat} {n : Int} {d : Nat} (h : FBox W0 W B n d) : FBox W0 (W.setCell ⟨B, 0, none⟩ (.bool false)) B (n.natAbs : Int) d := by
  obtain ⟨s, ad, l, cap, ad', l', cap', c0, c1, c2, u, q, hv, hu, hq⟩ := h.box
  have hv' := hv
  simp only [Value.agg.injEq, Array.mk.injEq, List.cons.injEq, and_true] at hv'
  obtain ⟨_, h1, h2⟩ := hv'
  refine ⟨h.below.setCell h.hB _, h.hB, by simpa using h.f0, by simpa using h.f1, by simpa using h.f2, false, ad, l, cap, ad', l', cap', World.cell?_setCell_same _ _ _ c0, ?_, ?_, ?_⟩
  · rw [World.cell?_setCell_other _ _ _ _ (by simp)]; exact c1
  · rw [World.cell?_setCell_other _ _ _ _ (by simp)]; exact c2
  · refine ⟨_, _, ?_, hu.set1 c0 (by simp), hq.set1 c0 (by simp)⟩
    rw [decide_eq_false (show ¬ (n.natAbs : Int) < 0 by omega), h1, h2]
/-- Another's sign is cleared. -/
theorem FBox.aside {W0 W : World} {B C : Nat} {n : Int} {d : Nat} {s : Bool} {y : Value} (h : FBox W0 W B n d) (hC : W0.heap.size ≤ C) (hne : C ≠ B) (hc : W.cell? ⟨C, 0, none⟩ = some (.bool s)) : FBox W0 (W.setCell ⟨C, 0, none⟩ y) B n d := by
  obtain ⟨t, ad, l, cap, ad', l', cap', c0, c1, c2, hr⟩ := h.box
  refine ⟨h.below.setCell hC _, h.hB, by simpa using h.f0, by simpa using h.f1, by simpa using h.f2, t, ad, l, cap, ad', l', cap', ?_, ?_, ?_, hr.set1 hc (by simp)⟩
  · rw [World.cell?_setCell_far _ _ _ _ hne]; exact c0
  · rw [World.cell?_setCell_far _ _ _ _ hne]; exact c1
  · rw [World.cell?_setCell_far _ _ _ _ hne]; exact c2
theorem FBox.lower {W0 W1 W : World} {B : Nat} {n : Int} {d : Nat} (h : FBox W1 W B n d) (hb : Below W0.heap.size W0 W1) : FBox W0 W B n d :=
  ⟨below_chain hb h.below, Nat.le_trans hb.size h.hB, h.f0, h.f1, h.f2, h.box⟩
theorem low_abs (M : Nat) (z : Int) : ((lowN M z).natAbs : Int) = lowN M (z.natAbs : Int) ∧ lowD M z = lowD M (z.natAbs : Int) := by
  have hg : lowG M z = lowG M (z.natAbs : Int) := by unfold lowG; simp
  unfold lowN lowD
  rw [← hg]
  refine ⟨?_, rfl⟩
  rcases Int.le_total 0 z with h | h
  · rw [show ((z.natAbs : Nat) : Int) = z by omega]
    have := Int.tdiv_nonneg h (show (0 : Int) ≤ (lowG M z : Int) by omega)
    omega
  · rw [show ((z.natAbs : Nat) : Int) = -z by omega, Int.neg_tdiv]
    have := Int.tdiv_nonneg (show 0 ≤ -z by omega) (show (0 : Int) ≤ (lowG M z : Int) by omega)
    rw [Int.neg_tdiv] at this
    omega
end Go.Proofs.YtofflboheiflaaaGreatDoor

/- The document's Over. -/
namespace Go.Proofs.YtofflboheiflaaaGreatDoor
open Go.RowKit

set_option maxRecDepth 10000 in
set_option maxHeartbeats 4000000 in
/-- Over: the quotient by one above 0, in its lowest terms. -/
theorem Over_ratio (v1 v2 : Value) (n1 : Int) (m d1 d2 k : Nat) (w : World) (h1 : RatioAt w v1 n1 d1) (h2 : RatioAt w v2 (m : Int) d2) (hd1 : 0 < d1) (hm0 : 0 < m) (hn1 : n1.natAbs < 1000000 ^ k) (hn2 : m < 1000000 ^ k) (hk1 : d1 < 1000000 ^ k) (hk2 : d2 < 1000000 ^ k) (hk : k + k + 1 + 1 ≤ 1000000) :
    Calls Tryz.prog 35 #[v1, v2] w fun e w' => ∃ r, e = .returned r ∧ RatioAt w' r ((n1 * d2).tdiv ((Nat.gcd (n1 * d2).natAbs (d1 * m) : Nat) : Int)) (d1 * m / Nat.gcd (n1 * d2).natAbs (d1 * m)) ∧ Below w.heap.size w w' := by
  obtain ⟨u1, q1, rfl, hu1, hq1⟩ := h1
  obtain ⟨u2, q2, rfl, hu2, hq2⟩ := h2
  obtain ⟨ad1, l1, cap1, rfl, _⟩ := hu1.len
  obtain ⟨bd1, m1, bap1, rfl, _⟩ := hq1.len
  obtain ⟨ad2, l2, cap2, rfl, _⟩ := hu2.len
  obtain ⟨bd2, m2, bap2, rfl, _⟩ := hq2.len
  obtain ⟨s1, hs1⟩ : ∃ s, decide (n1 < 0) = s := ⟨_, rfl⟩
  have hs2 : decide ((m : Int) < 0) = false := decide_eq_false (by omega)
  rw [hs1, hs2]
  rw [Int.natAbs_natCast] at hu2
  have hB0 : Below w.heap.size w (((w.alloc (.cells #[.bool s1, .slice ad1 l1 cap1, .slice bd1 m1 bap1] 39)).alloc (.cells #[.bool false, .slice ad2 l2 cap2, .slice bd2 m2 bap2] 39)).alloc (.cells #[.bool false, .slice none 0 0, .slice none 0 0] 39)) := (((Below.refl _ _).alloc (Nat.le_refl _) _).alloc (by simp) _).alloc (by simp; omega) _
  have hN := noInts_third3 w (.cells #[.bool s1, .slice ad1 l1 cap1, .slice bd1 m1 bap1] 39) (.cells #[.bool false, .slice ad2 l2 cap2, .slice bd2 m2 bap2] 39) 39
  have hNP := fun (w1 : World) => nine_past (w := w) (w1 := w1) (x0 := .bool s1) (x1 := .slice ad1 l1 cap1) (x2 := .slice bd1 m1 bap1) (y0 := .bool false) (y1 := .slice ad2 l2 cap2) (y2 := .slice bd2 m2 bap2) (r0 := .bool false) (r1 := .slice none 0 0) (r2 := .slice none 0 0) (t := 39)
  have hz0 : w.heap.size + 1 + 1 + 1 = (((w.alloc (.cells #[.bool s1, .slice ad1 l1 cap1, .slice bd1 m1 bap1] 39)).alloc (.cells #[.bool false, .slice ad2 l2 cap2, .slice bd2 m2 bap2] 39)).alloc (.cells #[.bool false, .slice none 0 0, .slice none 0 0] 39)).heap.size := by simp
  generalize hW : (((w.alloc (.cells #[.bool s1, .slice ad1 l1 cap1, .slice bd1 m1 bap1] 39)).alloc (.cells #[.bool false, .slice ad2 l2 cap2, .slice bd2 m2 bap2] 39)).alloc (.cells #[.bool false, .slice none 0 0, .slice none 0 0] 39)) = W0 at hB0 hN hNP hz0
  have hKS : ∀ W, Below W0.heap.size W0 W → (W.cell? ⟨w.heap.size, 0, none⟩ = some (.bool s1) ∧ W.cell? ⟨w.heap.size, 1, none⟩ = some (.slice ad1 l1 cap1) ∧ W.cell? ⟨w.heap.size, 2, none⟩ = some (.slice bd1 m1 bap1)) ∧ (W.cell? ⟨w.heap.size + 1, 0, none⟩ = some (.bool false) ∧ W.cell? ⟨w.heap.size + 1, 1, none⟩ = some (.slice ad2 l2 cap2) ∧ W.cell? ⟨w.heap.size + 1, 2, none⟩ = some (.slice bd2 m2 bap2)) := fun W hb => by
    obtain ⟨a, b, _⟩ := hNP W hb
    exact ⟨a, b⟩
  have HS1 : Hid (∀ W, Below W0.heap.size W0 W → SignedAt W (.agg #[.bool s1, .slice ad1 l1 cap1]) n1) := fun W hb => ⟨_, by rw [hs1], (hu1.later hB0).later hb⟩
  have HU2 : Hid (∀ W, Below W0.heap.size W0 W → BigAt W (.slice ad2 l2 cap2) m) := fun W hb => (hu2.later hB0).later hb
  have HD1 : Hid (∀ W, Below W0.heap.size W0 W → BigAt W (.slice bd1 m1 bap1) d1) := fun W hb => (hq1.later hB0).later hb
  have HD2 : Hid (∀ W, Below W0.heap.size W0 W → BigAt W (.slice bd2 m2 bap2) d2) := fun W hb => (hq2.later hB0).later hb
  have HKS := Hid.mk' hKS
  have HW := Hid.mk' hW
  have HNP := Hid.mk' hNP
  have HN := Hid.mk' hN
  have HB := Hid.mk' hB0
  have hsm : (n1 * (d2 : Int)).natAbs < 1000000 ^ (k + k) := by rw [Int.natAbs_mul, Int.natAbs_natCast, Nat.pow_add]; exact Nat.mul_lt_mul'' hn1 hk2
  have hdd : d1 * m < 1000000 ^ (k + k) := by rw [Nat.pow_add]; exact Nat.mul_lt_mul'' hk1 hn2
  have HM := Hid.mk' (And.intro hsm hdd)
  have HBD : Hid (n1.natAbs < 1000000 ^ k ∧ (d2 : Int).natAbs < 1000000 ^ k) := ⟨hn1, by rw [Int.natAbs_natCast]; exact hk2⟩
  have HDK := Hid.mk' (And.intro hk1 hn2)
  have hcur0 : Below W0.heap.size W0 W0 := Below.refl _ _
  have hcur : Below W0.heap.size W0 W0.drew := (Below.refl _ _).drew
  have hcurA : ∀ X, Below W0.heap.size W0 (W0.alloc X).drew := fun X => (new_below _ _).drew
  have hdn2 : ¬ (d2 : Int) < 0 := by omega
  have HDE : Hid (decide ((d2 : Int) < 0) = false) := decide_eq_false hdn2
  clear hs1 hs2 hu1 hu2 hq1 hq2 hB0 hN hNP hW hKS hn1 hn2 hk1 hk2 hsm hdd hdn2
  generalize hz : n1 * (d2 : Int) = z at HM ⊢
  have HZ := Hid.mk' hz
  clear hz
  go_enter Tryz.func35, Tryz.ntmps35
  go_wp2_with fail
  rw [HW.out]
  go_cut [5] from 6 (fun s wx => ∃ Bs : Nat, s = .pointer (some ⟨Bs, 0, none⟩) ∧ Hid (SignBox W0 wx Bs z))
  case first =>
    go_region_held3 (fun W => (W.cell? ⟨w.heap.size, 0, none⟩ = some (.bool s1) ∧ W.cell? ⟨w.heap.size, 1, none⟩ = some (.slice ad1 l1 cap1) ∧ W.cell? ⟨w.heap.size, 2, none⟩ = some (.slice bd1 m1 bap1)) ∧ (W.cell? ⟨w.heap.size + 1, 0, none⟩ = some (.bool false) ∧ W.cell? ⟨w.heap.size + 1, 1, none⟩ = some (.slice ad2 l2 cap2) ∧ W.cell? ⟨w.heap.size + 1, 2, none⟩ = some (.slice bd2 m2 bap2)))
      (first | exact HKS.out _ hcur0 | exact HKS.out _ hcur | exact HKS.out _ (hcurA _) | (refine HKS.out _ ?_; assumption) | (refine HKS.out _ (more_below ?_ _); assumption) | (refine HKS.out _ (setB_below ?_ NB.hB _ _); assumption))
      (first
        | (go_at_call 39; refine (SignedMul_any _ _ n1 (d2 : Int) k _ (HS1.out _ ?_) (HX1.out _ ?_) HBD.out.1 HBD.out.2 (by omega)).mono ?_; (first | exact hbw1 | exact more_below hbw1 _); (first | exact Below.refl _ _ | exact new_below _ _); rintro e w2 ⟨sv2, rfl, ⟨x2, rfl, hx2⟩, hb2⟩; rw [HZ.out] at hx2 ⊢; obtain ⟨ad4, l4, cap4, rfl, _⟩ := hx2.len; (first | (have hbw2 := below_chain hbw1 hb2; try have NB := NB.later hb2) | (have hbw2 := below_chain (more_below hbw1 _) hb2; have NB := newBox_of hbw1 hb2)); (try (have y0 := NB.c0; have y1 := NB.c1; have y2 := NB.f0; have y3 := NB.f1)); have HX5 := Hid.mk' hx2; clear hx2 hb2)
        | (go_at_call 62; refine (wide_any (.slice bd2 m2 bap2) d2 _ (HD2.out _ ?_)).mono ?_; (first | exact hcur | exact hcurA _); rintro e w1 ⟨sv1, rfl, ⟨x1, rfl, hx1⟩, hb1⟩; rw [HDE.out]; obtain ⟨ad3, l3, cap3, rfl, _⟩ := hx1.len; (first | have hbw1 := below_chain hcur hb1 | (have hbw1 := below_chain (hcurA _) hb1; have NB := newBox_of hcur0 (below_chain ((Below.refl _ _).drew) hb1))); have HX1 : Hid (∀ W, Below w1.heap.size w1 W → SignedAt W (.agg #[.bool false, .slice ad3 l3 cap3]) (d2 : Int)) := (fun W hb => ⟨_, by rw [HDE.out], hx1.later hb⟩); clear hx1 hb1))
    all_goals
      go_wp2_with fail
      go_meet
      first | exact ⟨_, rfl, signBox_late hbw2 HX5.out⟩ | exact ⟨_, rfl, signBox_soon hbw2 HX5.out NB⟩
  case rest =>
  obtain ⟨Bs, rfl, HSB⟩ := hcut
  obtain ⟨u, x0, x1, hu⟩ := HSB.out.box
  obtain ⟨ad, l, cap, rfl, _⟩ := hu.len
  obtain ⟨sg, hsg⟩ : ∃ sg, decide (z < 0) = sg := ⟨_, rfl⟩
  rw [hsg] at x0
  have hBs := HSB.out.hB
  have hSc : ∀ W, Below wc.heap.size wc W → W.cell? ⟨Bs, 0, none⟩ = some (.bool sg) ∧ W.cell? ⟨Bs, 1, none⟩ = some (.slice ad l cap) ∧ W.cell? ⟨w.heap.size, 2, none⟩ = some (.slice bd1 m1 bap1) ∧ W.cell? ⟨w.heap.size + 1, 1, none⟩ = some (.slice ad2 l2 cap2) := fun W hb => by
    have h1 := HKS.out _ (below_chain HSB.out.below hb)
    exact ⟨(cell_past x0 hb).2, (cell_past x1 hb).2, h1.1.2.2, h1.2.2.1⟩
  have HSC := Hid.mk' hSc
  have hmul := BigMul_any _ _ d1 m k wc.drew (HD1.out _ HSB.out.below.drew) (HU2.out _ HSB.out.below.drew) HDK.out.1 HDK.out.2 (by omega)
  have HMUL := Hid.mk' hmul
  have HU := Hid.mk' hu
  have HSG := Hid.mk' hsg
  have hc0 : Below wc.heap.size wc wc := Below.refl _ _
  have hc1 : Below wc.heap.size wc wc.drew := (Below.refl _ _).drew
  have HBC := Hid.mk' HSB.out.below
  have hsetS : ∀ (W : World) (x y q : Value), Below wc.heap.size wc W → Bs ≠ w.heap.size + 1 + 1 → (((W.setCell ⟨w.heap.size + 1 + 1, 0, none⟩ x).setCell ⟨w.heap.size + 1 + 1, 1, none⟩ y).setCell ⟨w.heap.size + 1 + 1, 2, none⟩ q).cell? ⟨Bs, 0, none⟩ = some (.bool sg) ∧ (((W.setCell ⟨w.heap.size + 1 + 1, 0, none⟩ x).setCell ⟨w.heap.size + 1 + 1, 1, none⟩ y).setCell ⟨w.heap.size + 1 + 1, 2, none⟩ q).cell? ⟨Bs, 1, none⟩ = some (.slice ad l cap) ∧ (((W.setCell ⟨w.heap.size + 1 + 1, 0, none⟩ x).setCell ⟨w.heap.size + 1 + 1, 1, none⟩ y).setCell ⟨w.heap.size + 1 + 1, 2, none⟩ q).cell? ⟨w.heap.size, 2, none⟩ = some (.slice bd1 m1 bap1) ∧ (((W.setCell ⟨w.heap.size + 1 + 1, 0, none⟩ x).setCell ⟨w.heap.size + 1 + 1, 1, none⟩ y).setCell ⟨w.heap.size + 1 + 1, 2, none⟩ q).cell? ⟨w.heap.size + 1, 1, none⟩ = some (.slice ad2 l2 cap2) := fun W x y q hb hne => by
    obtain ⟨e0, e1, e2, e3⟩ := HSC.out W hb
    refine ⟨?_, ?_, ?_, ?_⟩
    · rw [World.cell?_setCell_far _ _ _ _ (fun e => hne e.symm), World.cell?_setCell_far _ _ _ _ (fun e => hne e.symm), World.cell?_setCell_far _ _ _ _ (fun e => hne e.symm)]; exact e0
    · rw [World.cell?_setCell_far _ _ _ _ (fun e => hne e.symm), World.cell?_setCell_far _ _ _ _ (fun e => hne e.symm), World.cell?_setCell_far _ _ _ _ (fun e => hne e.symm)]; exact e1
    · rw [World.cell?_setCell_far _ _ _ _ (by show w.heap.size + 1 + 1 ≠ w.heap.size; omega), World.cell?_setCell_far _ _ _ _ (by show w.heap.size + 1 + 1 ≠ w.heap.size; omega), World.cell?_setCell_far _ _ _ _ (by show w.heap.size + 1 + 1 ≠ w.heap.size; omega)]; exact e2
    · rw [World.cell?_setCell_far _ _ _ _ (by show w.heap.size + 1 + 1 ≠ w.heap.size + 1; omega), World.cell?_setCell_far _ _ _ _ (by show w.heap.size + 1 + 1 ≠ w.heap.size + 1; omega), World.cell?_setCell_far _ _ _ _ (by show w.heap.size + 1 + 1 ≠ w.heap.size + 1; omega)]; exact e3
  have HSS := Hid.mk' hsetS
  have hne : Bs ≠ w.heap.size + 1 + 1 := by omega
  have hg0 := (HKS.out _ HSB.out.below).2.1
  clear hu hsg hSc hmul hsetS x0 x1
  go_wp2_with fail
  go_region_held3 (fun W => W.cell? ⟨Bs, 0, none⟩ = some (.bool sg) ∧ W.cell? ⟨Bs, 1, none⟩ = some (.slice ad l cap) ∧ W.cell? ⟨w.heap.size, 2, none⟩ = some (.slice bd1 m1 bap1) ∧ W.cell? ⟨w.heap.size + 1, 1, none⟩ = some (.slice ad2 l2 cap2))
    (first | exact HSC.out _ hc0 | exact HSC.out _ hc1 | exact HSC.out _ hc2 | exact HSC.out _ hc3 | exact HSS.out _ _ _ _ hc3 hne)
    (first
      | (go_at_call 38; refine (Lowest_any _ z (d1 * m) (k + k) w6 HRA.out (Nat.mul_pos hd1 hm0) HM.out.1 HM.out.2 (by omega)).mono ?_; rintro e w7 ⟨rv, rfl, ⟨ur, qr, rfl, hur, hqr⟩, hb7⟩; obtain ⟨ad8, l8, cap8, rfl, _⟩ := hur.len; obtain ⟨ad9, l9, cap9, rfl, _⟩ := hqr.len; have hc3 := below_chain hc2 hb7; have hbw7 := below_chain HBC.out hc3; obtain ⟨_, _, ⟨c0, c1, c2⟩, f0, f1, f2⟩ := HNP.out w7 hbw7; have HUR := Hid.mk' hur; have HQR := Hid.mk' hqr; have HBW7 := Hid.mk' hbw7; clear hur hqr hb7 hbw7)
      | (go_at_call 40; refine HMUL.out.mono ?_; rintro e w6 ⟨qv, rfl, hqv, hb6⟩; obtain ⟨bd6, m6, bap6, rfl, _⟩ := hqv.len; have hc2 := below_chain hc1 hb6; have HRA : Hid (RatioAt w6 (.agg #[.bool sg, .slice ad l cap, .slice bd6 m6 bap6]) z (d1 * m)) := ⟨_, _, by rw [HSG.out], HU.out.later hc2, hqv⟩; clear hqv hb6))
  go_wp2_with fail
  refine bodyPost_ret (v := .agg #[.bool (decide (z.tdiv ((Nat.gcd z.natAbs (d1 * m) : Nat) : Int) < 0)), .slice ad8 l8 cap8, .slice ad9 l9 cap9]) (by simp [results, Tryz.results35, go_sem, c0, c1, c2]) rfl ⟨_, rfl, ⟨_, _, rfl, HUR.out.set3 (HN.out.later (by omega) HBW7.out) c0 c1, HQR.out.set3 (HN.out.later (by omega) HBW7.out) c0 c1⟩, below_set3 (below_chain HB.out HBW7.out) (by omega) _ _ _⟩
end Go.Proofs.YtofflboheiflaaaGreatDoor

/- The document's VariationOf. -/
namespace Go.Proofs.YtofflboheiflaaaGreatDoor
open Go.RowKit

theorem RatioAt.set3 {W : World} {B : Nat} {n : Int} {d : Nat} {x y z t : Value} {r : Value} {u : Bool} {bd bd' : Option Addr} {m bap m' bap' : Nat} (hr : RatioAt W r n d) (c0 : W.cell? ⟨B, 0, none⟩ = some (.bool u)) (c1 : W.cell? ⟨B, 1, none⟩ = some (.slice bd m bap)) (c2 : W.cell? ⟨B, 2, none⟩ = some (.slice bd' m' bap')) (ht : t = r) : RatioAt (((W.setCell ⟨B, 0, none⟩ x).setCell ⟨B, 1, none⟩ y).setCell ⟨B, 2, none⟩ z) t n d := by
  subst ht
  exact ((hr.set1 c0 (by simp)).set1 (v := .slice bd m bap) (by rw [World.cell?_setCell_other _ _ _ _ (by simp)]; exact c1) (by simp)).set1 (v := .slice bd' m' bap') (by rw [World.cell?_setCell_other _ _ _ _ (by simp), World.cell?_setCell_other _ _ _ _ (by simp)]; exact c2) (by simp)
theorem low_big {M : Nat} (hM : 0 < M) {z : Int} (hM6 : M ≤ 100000000) (hz : -1000000000 ≤ z ∧ z ≤ 1000000000) : (lowN M z).natAbs < 1000000 ^ 3 ∧ lowD M z < 1000000 ^ 3 := by
  have p3 : (1000000 : Nat) ^ 3 = 1000000000000000000 := by decide
  have h1 := lowN_le hM z
  have h2 := lowD_le M z
  rw [p3]
  omega
theorem low_zero {M : Nat} (hM : 0 < M) : lowN 1 0 = lowN M 0 ∧ lowD 1 0 = lowD M 0 := by
  refine ⟨?_, ?_⟩
  · simp [lowN]
  · simp [lowD, lowG, Nat.div_self hM]
theorem low_more {M c : Nat} (hM : 0 < M) (hc : 0 < c) (z : Int) : lowN M z = lowN (M * c) (z * c) ∧ lowD M z = lowD (M * c) (z * c) := by
  have h := low_same (M := M * c) (d := M) (z := z * c) (n := z) (Nat.mul_pos hM hc) hM (by simp only [Int.natCast_mul]; grind)
  exact h
theorem Minus_two (M : Nat) (x y : Int) (r s : Value) (w : World) (hr : RatioAt w r (lowN M x) (lowD M x)) (hs : RatioAt w s (lowN M y) (lowD M y)) (hM : 0 < M) (hM6 : M ≤ 100000000) (hx : -1000000000 ≤ x ∧ x ≤ 1000000000) (hy : -1000000000 ≤ y ∧ y ≤ 1000000000) :
    Calls Tryz.prog 33 #[r, s] w fun e w' => ∃ r', e = .returned r' ∧ RatioAt w' r' (lowN M (x - y)) (lowD M (x - y)) ∧ Below w.heap.size w w' := by
  have l1 := low_big hM (z := x) hM6 hx
  have l2 := low_big hM (z := y) hM6 hy
  have h := Minus_ratio r s _ _ _ _ 3 w hr hs (lowD_pos hM _) (lowD_pos hM _) l1.1 l2.1 l1.2 l2.2 (by decide)
  have c1 := low_cross hM x
  have c2 := low_cross hM y
  have e := low_same (M := M) (d := lowD M x * lowD M y) (z := x - y) (n := lowN M x * (lowD M y : Int) + -lowN M y * (lowD M x : Int)) hM (Nat.mul_pos (lowD_pos hM _) (lowD_pos hM _)) (by
    simp only [Int.natCast_mul]
    grind)
  rw [e.1, e.2] at h
  exact h
theorem Plus_two (M : Nat) (x y : Int) (r s : Value) (w : World) (hr : RatioAt w r (lowN M x) (lowD M x)) (hs : RatioAt w s (lowN M y) (lowD M y)) (hM : 0 < M) (hM6 : M ≤ 100000000) (hx : -1000000000 ≤ x ∧ x ≤ 1000000000) (hy : -1000000000 ≤ y ∧ y ≤ 1000000000) :
    Calls Tryz.prog 34 #[r, s] w fun e w' => ∃ r', e = .returned r' ∧ RatioAt w' r' (lowN M (x + y)) (lowD M (x + y)) ∧ Below w.heap.size w w' := by
  have l1 := low_big hM (z := x) hM6 hx
  have l2 := low_big hM (z := y) hM6 hy
  have h := Plus_ratio r s _ _ _ _ 3 w hr hs (lowD_pos hM _) (lowD_pos hM _) l1.1 l2.1 l1.2 l2.2 (by decide)
  have e := low_plus hM x y
  rw [e.1, e.2] at h
  exact h
theorem Over_two (M : Nat) (x : Int) (r s : Value) (w : World) (hr : RatioAt w r (lowN M x) (lowD M x)) (hs : RatioAt w s (lowN 1 2) (lowD 1 2)) (hM : 0 < M) (hM6 : M ≤ 100000000) (hx : -1000000000 ≤ x ∧ x ≤ 1000000000) :
    Calls Tryz.prog 35 #[r, s] w fun e w' => ∃ r', e = .returned r' ∧ RatioAt w' r' (lowN (2 * M) x) (lowD (2 * M) x) ∧ Below w.heap.size w w' := by
  have l1 := low_big hM (z := x) hM6 hx
  rw [(low_one 2).1, (low_one 2).2] at hs
  have h := Over_ratio r s _ 2 _ 1 3 w hr hs (lowD_pos hM _) (by decide) l1.1 (by decide) l1.2 (by decide) (by decide)
  have c1 := low_cross hM x
  have e := low_same (M := 2 * M) (d := lowD M x * 2) (z := x) (n := lowN M x * ((1 : Nat) : Int)) (by omega) (Nat.mul_pos (lowD_pos hM _) (by decide)) (by
    simp only [Int.natCast_mul]
    grind)
  rw [e.1, e.2] at h
  exact h

set_option maxRecDepth 100000 in
set_option maxHeartbeats 4000000 in
theorem VariationOf_right (b o cap b' o' cap' n P Q : Nat) (p q : Nat → Int) (w : World) (h : RowAt w b o n p) (k : RowAt w b' o' n q) (hok1 : OkW p n) (hok2 : OkW q n) (hn : n ≤ 16) (hP : sumN p n = P) (hQ : sumN q n = Q) :
    Calls Tryz.prog 12 #[.slice (some ⟨b, o, none⟩) n cap, .slice (some ⟨b', o', none⟩) n cap'] w fun e w' => ∃ r, e = .returned r ∧ RatioAt w' r (lowN (2 * (P * Q)) (sumN (apV p q P Q) n)) (lowD (2 * (P * Q)) (sumN (apV p q P Q) n)) ∧ Below w.heap.size w w' := by
  have hP1 : 1 ≤ P ∧ P ≤ 4096 := by have := hok1.pos; have := hok1.le; omega
  have hQ1 : 1 ≤ Q ∧ Q ≤ 4096 := by have := hok2.pos; have := hok2.le; omega
  obtain ⟨M, hM⟩ : ∃ M, M = P * Q := ⟨_, rfl⟩
  have hM1 : 1 ≤ M ∧ M ≤ 16777216 := by
    rw [hM]
    have : P * Q ≤ 4096 * 4096 := Nat.mul_le_mul hP1.2 hQ1.2
    exact ⟨Nat.mul_pos hP1.1 hQ1.1, Nat.le_trans this (by decide)⟩
  have hM8 : M ≤ 100000000 := Nat.le_trans hM1.2 (by decide)
  rw [← hM]
  obtain ⟨W0, hW0⟩ : ∃ W0, W0 = w.alloc (.cells #[.bool false, .slice none 0 0, .slice none 0 0] 39) := ⟨_, rfl⟩
  have hb0 : Below w.heap.size w W0 := by rw [hW0]; exact new_below _ _
  have hz0 : W0.heap.size = w.heap.size + 1 := by rw [hW0]; simp
  have HNB : Hid (∀ W, Below W0.heap.size W0 W → NewBox3 w W w.heap.size) := fun W hb => by
    rw [hW0] at hb
    exact newBox3_of (Below.refl _ _) hb
  have HSP : Hid (∀ W, Below W0.heap.size W0 W → Calls Tryz.prog 13 #[.slice (some ⟨b, o, none⟩) n cap] W fun e w' => e = .returned (.int .i64 P) ∧ w' = W) := fun W hb => by
    have := Sum_some b o cap n p W ((h.later hb0).later hb) (fun k hk => by have := hok1.part hk; omega) (fun i hi => by have := hok1.lt hi; omega) (by omega)
    rw [hP] at this
    exact this
  have HSQ : Hid (∀ W, Below W0.heap.size W0 W → Calls Tryz.prog 13 #[.slice (some ⟨b', o', none⟩) n cap'] W fun e w' => e = .returned (.int .i64 Q) ∧ w' = W) := fun W hb => by
    have := Sum_some b' o' cap' n q W ((k.later hb0).later hb) (fun k hk => by have := hok2.part hk; omega) (fun i hi => by have := hok2.lt hi; omega) (by omega)
    rw [hQ] at this
    exact this
  have HR : Hid (RowAt W0 b o n p ∧ RowAt W0 b' o' n q) := ⟨h.later hb0, k.later hb0⟩
  have HPI : Hid (∀ i, i < n → 0 ≤ p i ∧ p i ≤ 4096) := fun i hi => hok1.lt hi
  have HQI : Hid (∀ i, i < n → 0 ≤ q i ∧ q i ≤ 4096) := fun i hi => hok2.lt hi
  have HSB : Hid (∀ k, k ≤ n → 0 ≤ sumN (apV p q P Q) k ∧ sumN (apV p q P Q) k ≤ 268435456) := fun k hk => by
    have h1 := sumN_nonneg (z := apV p q P Q) (n := k) (fun i hi => (apV_le (HPI.out i (by omega)) (HQI.out i (by omega)) hP1.2 hQ1.2).1)
    have h2 := sumN_bound (f := apV p q P Q) (B := 16777216) (n := k) (fun i hi => by have := apV_le (HPI.out i (by omega)) (HQI.out i (by omega)) hP1.2 hQ1.2; omega)
    have : (k : Int) * 16777216 ≤ 268435456 := by omega
    omega
  have hro := RatioOf_low 0 1 W0 (by omega) (by omega) (by omega)
  rw [(low_zero hM1.1).1, (low_zero hM1.1).2] at hro
  have HB0 := Hid.mk' hb0
  have HW0 := Hid.mk' hW0
  have HZ0 := Hid.mk' hz0
  have HM := Hid.mk' hM
  clear h k hb0 hW0 hz0 hok1 hok2 hP hQ hM
  go_enter Tryz.func12, Tryz.ntmps12
  go_upto_region 1 with fail
  rw [← HW0.out]
  go_wp2_with fail
  refine hro.mono ?_
  clear hro
  rintro e w1 ⟨r1, rfl, hr1, hb1⟩
  obtain ⟨s1, ad1, l1, ca1, ad2, l2, ca2, rfl⟩ := hr1.parts
  obtain ⟨W1, hW1⟩ : ∃ W1, W1 = w1.alloc (.cells #[.bool s1, .slice ad1 l1 ca1, .slice ad2 l2 ca2] 39) := ⟨_, rfl⟩
  have HF0 : Hid (FBox W0 W1 w1.heap.size (lowN M 0) (lowD M 0)) := by rw [hW1]; exact fBox_late hb1 hr1
  have HW1 := Hid.mk' hW1
  clear hr1 hb1 hW1
  go_upto_region 2 with fail
  rw [← HW1.out]
  clear HW1
  go_wp2_with fail
  go_loopw [6, 7] (fun i _ wr => ∃ k : Nat, k ≤ n ∧ i = .int .i64 k ∧ Hid (FBox W0 wr w1.heap.size (lowN M (sumN (apV p q P Q) k)) (lowD M (sumN (apV p q P Q) k)))) (fun i _ _ => n - (intOf i).toNat)
  case atStart => exact ⟨0, Nat.zero_le _, rfl, HF0⟩
  case round =>
    clear HF0
    obtain ⟨k, hk, rfl, HF⟩ := hrel
    rcases Nat.lt_or_ge k n with h1 | h1
    · have hkn : (k : Int) < (n : Int) := by omega
      have hk0 : (0 : Int) ≤ (k : Int) := by omega
      have HKS : Hid (∀ W, Below wr.heap.size wr W → W.cell? ⟨b, o + k, none⟩ = some (.int .i64 (p k)) ∧ W.cell? ⟨b', o' + k, none⟩ = some (.int .i64 (q k))) := fun W hb => ⟨HR.out.1.later (below_chain HF.out.below hb) k h1, HR.out.2.later (below_chain HF.out.below hb) k h1⟩
      have HV : Hid (sumN (apV p q P Q) (k + 1) = sumN (apV p q P Q) k + ((p k * Q - q k * P).natAbs : Int)) := rfl
      have hs1 := HSB.out k hk
      have hpk := HPI.out k h1
      have hqk := HQI.out k h1
      have hx := mul_le6 hpk hQ1.2
      have hy := mul_le6 hqk hP1.2
      generalize p k = x at *
      generalize q k = y at *
      have HRP : Hid (∀ W, Calls Tryz.prog 17 #[.int .i64 x, .int .i64 P] W fun e w' => ∃ r, e = .returned r ∧ RatioAt w' r (lowN M (x * Q)) (lowD M (x * Q)) ∧ Below W.heap.size W w') := fun W => by
        have := RatioOf_low x P W (by omega) hP1.1 (by omega)
        rw [(low_more hP1.1 hQ1.1 x).1, (low_more hP1.1 hQ1.1 x).2, ← HM.out] at this
        exact this
      have HRQ : Hid (∀ W, Calls Tryz.prog 17 #[.int .i64 y, .int .i64 Q] W fun e w' => ∃ r, e = .returned r ∧ RatioAt w' r (lowN M (y * P)) (lowD M (y * P)) ∧ Below W.heap.size W w') := fun W => by
        have := RatioOf_low y Q W (by omega) hQ1.1 (by omega)
        rw [(low_more hQ1.1 hP1.1 y).1, (low_more hQ1.1 hP1.1 y).2, Nat.mul_comm, ← HM.out] at this
        exact this
      generalize x * (Q : Int) = A at *
      generalize y * (P : Int) = B at *
      have HMI : Hid (∀ (W : World) (r s : Value), RatioAt W r (lowN M A) (lowD M A) → RatioAt W s (lowN M B) (lowD M B) → Calls Tryz.prog 33 #[r, s] W fun e w' => ∃ r', e = .returned r' ∧ RatioAt w' r' (lowN M (A - B)) (lowD M (A - B)) ∧ Below W.heap.size W w') := fun W r s hr hs => Minus_two M A B r s W hr hs hM1.1 hM8 (by omega) (by omega)
      have HSP' : Hid (∀ W, Below wr.heap.size wr W → Calls Tryz.prog 13 #[.slice (some ⟨b, o, none⟩) n cap] W fun e w' => e = .returned (.int .i64 P) ∧ w' = W) := fun W hb => HSP.out W (below_chain HF.out.below hb)
      have HSQ' : Hid (∀ W, Below wr.heap.size wr W → Calls Tryz.prog 13 #[.slice (some ⟨b', o', none⟩) n cap'] W fun e w' => e = .returned (.int .i64 Q) ∧ w' = W) := fun W hb => HSQ.out W (below_chain HF.out.below hb)
      have hcur0 : Below wr.heap.size wr wr := Below.refl _ _
      have hcur : Below wr.heap.size wr wr.drew := (Below.refl _ _).drew
      have hcurA : ∀ X, Below wr.heap.size wr (wr.alloc X).drew := fun X => (new_below _ _).drew
      have hab : -16777216 ≤ A - B ∧ A - B ≤ 16777216 := by omega
      clear hx hy hpk hqk
      go_upto_region 5 with fail
      go_cut [7] from 30 to 34 (fun s' wx => ∃ Bs : Nat, s' = .pointer (some ⟨Bs, 0, none⟩) ∧ Hid (FBox wr wx Bs (lowN M (A - B)) (lowD M (A - B))))
      case first =>
        go_region_held3 (fun W => W.cell? ⟨b, o + k, none⟩ = some (.int .i64 x) ∧ W.cell? ⟨b', o' + k, none⟩ = some (.int .i64 y))
          (first | exact HKS.out _ hcur0 | exact HKS.out _ hcur | exact HKS.out _ (hcurA _) | (refine HKS.out _ ?_; assumption) | (refine HKS.out _ (more_below ?_ _); assumption) | (refine HKS.out _ (below_set3 ?_ NB.hB _ _ _); assumption))
          (first
            | (go_at_call 33; refine (HMI.out _ _ _ ?_ ?_).mono ?_; (first | exact HXP.out | exact HXP.out.later (new_below _ _)); (first | exact HXQ.out | exact HXQ.out.later (new_below _ _)); rintro e w7 ⟨rv, rfl, hrv, hb7⟩; obtain ⟨sg, ad8, l8, cap8, ad9, l9, cap9, rfl⟩ := hrv.parts; (first | (have hbw7 := below_chain hbP hb7; try have NB := NB.later hb7) | (have hbw7 := below_chain hbQ hb7; try have NB := NB.later hb7) | (have hbw7 := below_chain (more_below hbP _) hb7; have NB := newBox3_of hbP hb7) | (have hbw7 := below_chain (more_below hbQ _) hb7; have NB := newBox3_of hbQ hb7)); (try (have y0 := NB.c0; have y1 := NB.c1; have y2 := NB.c2; have y3 := NB.f0; have y4 := NB.f1; have y5 := NB.f2)); have HRV := Hid.mk' hrv; clear hrv hb7)
            | (go_at_call_of 17 P; refine (HRP.out _).mono ?_; rintro e w5 ⟨r5, rfl, hr5, hb5⟩; obtain ⟨sg5, ad5, l5, cap5, ad6, l6, cap6, rfl⟩ := hr5.parts; (first | have hbP := below_chain hcur hb5 | (have hbP := below_chain (hcurA _) hb5; have NB := newBox3_of hcur0 (below_chain ((Below.refl _ _).drew) hb5)) | (have hbP := below_chain hbQ hb5; have HXQ := Hid.mk' (HXQ.out.later hb5); (try have NB := NB.later hb5)) | (have hbP := below_chain (more_below hbQ _) hb5; have HXQ := Hid.mk' ((HXQ.out.later (new_below _ _)).later hb5); have NB := newBox3_of hbQ hb5)); have HXP := Hid.mk' hr5; clear hr5 hb5)
            | (go_at_call_of 17 Q; refine (HRQ.out _).mono ?_; rintro e w6 ⟨r6, rfl, hr6, hb6⟩; obtain ⟨sg6, ad10, l10, cap10, ad11, l11, cap11, rfl⟩ := hr6.parts; (first | have hbQ := below_chain hcur hb6 | (have hbQ := below_chain (hcurA _) hb6; have NB := newBox3_of hcur0 (below_chain ((Below.refl _ _).drew) hb6)) | (have hbQ := below_chain hbP hb6; have HXP := Hid.mk' (HXP.out.later hb6); (try have NB := NB.later hb6)) | (have hbQ := below_chain (more_below hbP _) hb6; have HXP := Hid.mk' ((HXP.out.later (new_below _ _)).later hb6); have NB := newBox3_of hbP hb6)); have HXQ := Hid.mk' hr6; clear hr6 hb6)
            | (go_at_call_of 13 b; refine (HSP'.out _ ?_).mono ?_; (first | exact hcur | exact hcurA _ | exact hbQ | exact more_below hbQ _); rintro e wS ⟨rfl, hwS⟩; rw [hwS]; clear hwS)
            | (go_at_call_of 13 b'; refine (HSQ'.out _ ?_).mono ?_; (first | exact hcur | exact hcurA _ | exact hbP | exact more_below hbP _); rintro e wS ⟨rfl, hwS⟩; rw [hwS]; clear hwS))
        all_goals
          go_wp2_with fail
          go_meet
          first | exact ⟨_, rfl, fBox_late hbw7 HRV.out⟩ | exact ⟨_, rfl, fBox_soon hbw7 HRV.out NB⟩
      case rest =>
      obtain ⟨Bd, rfl, HFD⟩ := hcut
      obtain ⟨Wc, hWc⟩ : ∃ Wc, Wc = wc := ⟨_, rfl⟩
      rw [← hWc] at HFD ⊢
      clear hWc hcur0 hcur hcurA HMI HRP HRQ HKS HSP' HSQ'
      obtain ⟨sd, ad8, l8, cap8, ad9, l9, cap9, x0, x1, x2, hrd⟩ := HFD.out.box
      have f0 := HFD.out.f0
      have hBd := HFD.out.hB
      have HFC := Hid.mk' (HF.out.later HFD.out.below)
      have hw1 : w1.heap.size < wr.heap.size := by
        obtain ⟨_, _, _, _, _, _, _, c0, _⟩ := HF.out.box
        exact cell_lt c0
      have hne : Bd ≠ w1.heap.size := by omega
      have HBW := Hid.mk' (HF.out.below)
      clear hrd
      obtain ⟨W6, hW6⟩ : ∃ W6, W6 = Wc.setCell ⟨Bd, 0, none⟩ (.bool false) := ⟨_, rfl⟩
      have HD6 : Hid (FBox W0 W6 Bd (lowN M ((A - B).natAbs : Int)) (lowD M ((A - B).natAbs : Int))) := by
        have := (HFD.out.lower HF.out.below).plain
        rw [(low_abs M (A - B)).1, (low_abs M (A - B)).2, ← hW6] at this
        exact this
      have HS6 : Hid (FBox W0 W6 w1.heap.size (lowN M (sumN (apV p q P Q) k)) (lowD M (sumN (apV p q P Q) k))) := by
        rw [hW6]
        exact HFC.out.aside (by have := HF.out.below.size; omega) hne x0
      have HW6 := Hid.mk' hW6
      clear hW6
      go_upto_region 7 with fail
      rw [← HW6.out]
      clear HW6 x0 x1 x2 f0 HFD HFC HF
      obtain ⟨s5, ad5, l5, cap5, ad6, l6, cap6, c0, c1, c2, hr5⟩ := HS6.out.box
      obtain ⟨s7, ad7, l7, cap7, ad10, l10, cap10, d0, d1, d2, hr7⟩ := HD6.out.box
      have hpl := Plus_two M (sumN (apV p q P Q) k) ((A - B).natAbs : Int) _ _ W6 hr5 hr7 hM1.1 hM8 (by omega) (by omega)
      rw [← HV.out] at hpl
      have HB6 := Hid.mk' HS6.out.below
      have HFZ := Hid.mk' (And.intro HS6.out.f0 (And.intro HS6.out.f1 HS6.out.f2))
      have HBB := Hid.mk' HS6.out.hB
      clear hr5 hr7 HD6
      go_wp2_with fail
      refine hpl.mono ?_
      clear hpl
      rintro e w8 ⟨r8, rfl, hr8, hb8⟩
      obtain ⟨s8, ad11, l11, cap11, ad12, l12, cap12, rfl⟩ := hr8.parts
      have e0 := (cell_past c0 hb8).2
      have e1 := (cell_past c1 hb8).2
      have e2 := (cell_past c2 hb8).2
      have g0 := (frozen_past c0 HFZ.out.1 hb8).2
      have g1 := (frozen_past c1 HFZ.out.2.1 hb8).2
      have g2 := (frozen_past c2 HFZ.out.2.2 hb8).2
      have HN8 := Hid.mk' (fBox_put (below_chain HB6.out hb8) HBB.out g0 g1 g2 e0 e1 e2 hr8)
      clear hr8 hb8 c0 c1 c2 d0 d1 d2 HS6
      go_wp2_with fail
      exact ⟨⟨k + 1, by omega, by go_num, HN8⟩, by simp [intOf]; omega⟩
    · obtain rfl : k = n := by omega
      obtain ⟨s5, ad5, l5, cap5, ad6, l6, cap6, c0, c1, c2, hr5⟩ := HF.out.box
      have hs1 := HSB.out k (Nat.le_refl _)
      have hw1 : w1.heap.size < wr.heap.size := cell_lt c0
      have hne : w.heap.size ≠ w1.heap.size := by have := HF.out.hB; have := HZ0.out; omega
      have HKS : Hid (∀ W, Below wr.heap.size wr W → W.cell? ⟨w1.heap.size, 0, none⟩ = some (.bool s5) ∧ W.cell? ⟨w1.heap.size, 1, none⟩ = some (.slice ad5 l5 cap5) ∧ W.cell? ⟨w1.heap.size, 2, none⟩ = some (.slice ad6 l6 cap6)) := fun W hb => ⟨(cell_past c0 hb).2, (cell_past c1 hb).2, (cell_past c2 hb).2⟩
      have HSS : Hid (∀ (W : World) (x y z : Value), Below wr.heap.size wr W → (((W.setCell ⟨w.heap.size, 0, none⟩ x).setCell ⟨w.heap.size, 1, none⟩ y).setCell ⟨w.heap.size, 2, none⟩ z).cell? ⟨w1.heap.size, 0, none⟩ = some (.bool s5) ∧ (((W.setCell ⟨w.heap.size, 0, none⟩ x).setCell ⟨w.heap.size, 1, none⟩ y).setCell ⟨w.heap.size, 2, none⟩ z).cell? ⟨w1.heap.size, 1, none⟩ = some (.slice ad5 l5 cap5) ∧ (((W.setCell ⟨w.heap.size, 0, none⟩ x).setCell ⟨w.heap.size, 1, none⟩ y).setCell ⟨w.heap.size, 2, none⟩ z).cell? ⟨w1.heap.size, 2, none⟩ = some (.slice ad6 l6 cap6)) := fun W x y z hb => by
        obtain ⟨e0, e1, e2⟩ := HKS.out W hb
        refine ⟨?_, ?_, ?_⟩
        · rw [World.cell?_setCell_far _ _ _ _ hne, World.cell?_setCell_far _ _ _ _ hne, World.cell?_setCell_far _ _ _ _ hne]; exact e0
        · rw [World.cell?_setCell_far _ _ _ _ hne, World.cell?_setCell_far _ _ _ _ hne, World.cell?_setCell_far _ _ _ _ hne]; exact e1
        · rw [World.cell?_setCell_far _ _ _ _ hne, World.cell?_setCell_far _ _ _ _ hne, World.cell?_setCell_far _ _ _ _ hne]; exact e2
      have HOV : Hid (∀ (W : World) (s : Value), Below wr.heap.size wr W → RatioAt W s (lowN 1 2) (lowD 1 2) → Calls Tryz.prog 35 #[.agg #[.bool s5, .slice ad5 l5 cap5, .slice ad6 l6 cap6], s] W fun e w' => ∃ r', e = .returned r' ∧ RatioAt w' r' (lowN (2 * M) (sumN (apV p q P Q) k)) (lowD (2 * M) (sumN (apV p q P Q) k)) ∧ Below W.heap.size W w') := fun W s hb hs => Over_two M _ _ s W (hr5.later hb) hs hM1.1 hM8 (by omega)
      have HR2 : Hid (∀ W, Calls Tryz.prog 17 #[.int .i64 2, .int .i64 1] W fun e w' => ∃ r, e = .returned r ∧ RatioAt w' r (lowN 1 2) (lowD 1 2) ∧ Below W.heap.size W w') := fun W => RatioOf_low 2 1 W (by omega) (by omega) (by omega)
      have hcur0 : Below wr.heap.size wr wr := Below.refl _ _
      have hcur : Below wr.heap.size wr wr.drew := (Below.refl _ _).drew
      have HBW := Hid.mk' HF.out.below
      clear c0 c1 c2 hr5 HF
      go_wp2_with fail
      go_region_held3 (fun W => W.cell? ⟨w1.heap.size, 0, none⟩ = some (.bool s5) ∧ W.cell? ⟨w1.heap.size, 1, none⟩ = some (.slice ad5 l5 cap5) ∧ W.cell? ⟨w1.heap.size, 2, none⟩ = some (.slice ad6 l6 cap6))
        (first | exact HKS.out _ hcur0 | exact HKS.out _ hcur | exact HKS.out _ hc1 | exact HKS.out _ hc2 | exact HSS.out _ _ _ _ hc2)
        (first
          | (go_at_call 35; refine (HOV.out _ _ hc1 HX1.out).mono ?_; rintro e w7 ⟨rv, rfl, hrv, hb7⟩; obtain ⟨sg, ad8, l8, cap8, ad9, l9, cap9, rfl⟩ := hrv.parts; have hc2 := below_chain hc1 hb7; have hbw7 := below_chain HBW.out hc2; have NB := HNB.out w7 hbw7; have y0 := NB.c0; have y1 := NB.c1; have y2 := NB.c2; have y3 := NB.f0; have y4 := NB.f1; have y5 := NB.f2; have HRV := Hid.mk' hrv; have HB7 := Hid.mk' (below_chain HB0.out hbw7); clear hrv hb7 hbw7)
          | (go_at_call 17; refine (HR2.out _).mono ?_; rintro e w5 ⟨r5, rfl, hr5, hb5⟩; obtain ⟨sg5, ad10, l10, cap10, ad11, l11, cap11, rfl⟩ := hr5.parts; have hc1 := below_chain hcur hb5; have HX1 := Hid.mk' hr5; clear hr5 hb5))
      go_wp2_with fail
      exact bodyPost_ret (v := .agg #[.bool sg, .slice ad8 l8 cap8, .slice ad9 l9 cap9]) (by simp [results, Tryz.results12, go_sem, y0, y1, y2]) rfl ⟨_, rfl, HRV.out.set3 y0 y1 y2 rfl, below_set3 HB7.out (Nat.le_refl _) _ _ _⟩
end Go.Proofs.YtofflboheiflaaaGreatDoor
