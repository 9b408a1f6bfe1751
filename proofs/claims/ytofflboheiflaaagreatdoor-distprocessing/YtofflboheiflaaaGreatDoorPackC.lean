/- Two lists of weights: the program's and the document's errors. -/
import Derived.Test.YtofflboheiflaaaGreatDoorPackB
import Derived.Test.YtofflboheiflaaaGreatDoorPutEnt
import Derived.Test.YtofflboheiflaaaGreatDoorWeights
import Derived.Test.YtofflboheiflaaaGreatDoorBig
import Derived.BigQuiet
import Derived.Test.YtofflboheiflaaaGreatDoorTwoMath
import Derived.Test.YtofflboheiflaaaGreatDoorPackA
import Derived.OwnWalk
namespace Go.Proofs.YtofflboheiflaaaGreatDoor
open Go.RowKit

def twoErr (p : Nat → Int) (n : Nat) (q : Nat → Int) (m : Nat) : Nat := if weightsErr p n ≠ 0 then weightsErr p n else if weightsErr q m ≠ 0 then weightsErr q m else if n ≠ m then 3 else 0

set_option maxRecDepth 100000 in
set_option maxHeartbeats 1000000 in
theorem TwoError_any (v u : Value) (n m : Nat) (p q : Nat → Int) (w : World) (h : NumsAt w v n p) (k : NumsAt w u m q) (hn : n ≤ 1000000) (hm : m ≤ 1000000) :
    Calls Tryz.prog 7 #[v, u] w fun e w' => e = .returned (.int .i64 (twoErr p n q m : Int)) ∧ w' = w := by
  have h1 := WeightsError_any v n p w h hn
  have h2 := WeightsError_any u m q w k hm
  obtain ⟨ad, cap, rfl⟩ := h.form
  obtain ⟨ad', cap', rfl⟩ := k.form
  clear h k
  have HT : Hid (twoErr p n q m = if weightsErr p n ≠ 0 then weightsErr p n else if weightsErr q m ≠ 0 then weightsErr q m else if n ≠ m then 3 else 0) := rfl
  generalize twoErr p n q m = r at HT ⊢
  generalize weightsErr p n = c at h1 HT
  generalize weightsErr q m = d at h2 HT
  by_cases hc : c = 0
  · subst hc
    by_cases hd : d = 0
    · subst hd
      by_cases hnm : n = m
      · subst hnm
        have HR : Hid (r = 0) := by show _ = _; rw [HT.out]; simp
        clear HT
        go_enter Tryz.func7, Tryz.ntmps7
        go_wp2_with fail
        refine h1.mono ?_
        rintro e w1 ⟨rfl, hw1⟩
        rw [hw1]
        clear hw1 h1
        go_wp2_with fail
        refine h2.mono ?_
        rintro e w1 ⟨rfl, hw1⟩
        rw [hw1]
        clear hw1 h2
        go_wp2_with fail
        go_ret
        exact ⟨by rw [HR.out]; rfl, rfl⟩
      · have HR : Hid (r = 3) := by show _ = _; rw [HT.out]; simp [hnm]
        have hb : ((n : Int) == (m : Int)) = false := by simp; omega
        clear HT
        go_enter Tryz.func7, Tryz.ntmps7
        go_wp2_with fail
        refine h1.mono ?_
        rintro e w1 ⟨rfl, hw1⟩
        rw [hw1]
        clear hw1 h1
        go_wp2_with fail
        refine h2.mono ?_
        rintro e w1 ⟨rfl, hw1⟩
        rw [hw1]
        clear hw1 h2
        go_wp2_with fail
        go_ret
        exact ⟨by rw [HR.out]; rfl, rfl⟩
    · have HR : Hid (r = d) := by show _ = _; rw [HT.out]; simp [hd]
      have hb : ((d : Int) == 0) = false := by simpa using hd
      clear HT
      go_enter Tryz.func7, Tryz.ntmps7
      go_wp2_with fail
      refine h1.mono ?_
      rintro e w1 ⟨rfl, hw1⟩
      rw [hw1]
      clear hw1 h1
      go_wp2_with fail
      refine h2.mono ?_
      rintro e w1 ⟨rfl, hw1⟩
      rw [hw1]
      clear hw1 h2
      go_wp2_with fail
      go_ret
      exact ⟨by rw [HR.out]; rfl, rfl⟩
  · have HR : Hid (r = c) := by show _ = _; rw [HT.out]; simp [hc]
    have hb : ((c : Int) == 0) = false := by simpa using hc
    clear HT
    go_enter Tryz.func7, Tryz.ntmps7
    go_wp2_with (go_at_call 25; refine h1.mono ?_; rintro e w1 ⟨rfl, hw1⟩; rw [hw1]; clear hw1)
    go_ret
    exact ⟨by rw [HR.out]; rfl, rfl⟩

set_option maxRecDepth 100000 in
set_option maxHeartbeats 1000000 in
theorem checkPair_any (a : Nat → Addr) (v u : Value) (n m : Nat) (p q : Nat → Int) (w : World) (hE : Errs w a) (h : NumsAt w v n p) (k : NumsAt w u m q) (hn : n ≤ 1000000) (hm : m ≤ 1000000) :
    Calls Tryz.prog 26 #[v, u] w fun e w' => e = .returned (errV a (twoErr p n q m)) ∧ w' = w := by
  have h1 := Valid_weights a v n p w hE h hn
  have h2 := Valid_weights a u m q w hE k hm
  obtain ⟨ad, cap, rfl⟩ := h.form
  obtain ⟨ad', cap', rfl⟩ := k.form
  have e2 := hE.c2
  clear h k hE
  have HT : Hid (twoErr p n q m = if weightsErr p n ≠ 0 then weightsErr p n else if weightsErr q m ≠ 0 then weightsErr q m else if n ≠ m then 3 else 0) := rfl
  generalize twoErr p n q m = r at HT ⊢
  generalize weightsErr p n = c at h1 HT
  generalize weightsErr q m = d at h2 HT
  by_cases hc : c = 0
  · subst hc
    rw [errV_zero] at h1
    by_cases hd : d = 0
    · subst hd
      rw [errV_zero] at h2
      by_cases hnm : n = m
      · subst hnm
        have HR : Hid (r = 0) := by show _ = _; rw [HT.out]; simp
        clear HT
        go_enter Tryz.func26, Tryz.ntmps26
        go_wp2_with fail
        refine h1.mono ?_
        rintro e w1 ⟨rfl, hw1⟩
        rw [hw1]
        clear hw1 h1
        go_wp2_with fail
        refine h2.mono ?_
        rintro e w1 ⟨rfl, hw1⟩
        rw [hw1]
        clear hw1 h2
        go_wp2_with fail
        go_ret
        exact ⟨by rw [HR.out]; rfl, rfl⟩
      · have HR : Hid (r = 3) := by show _ = _; rw [HT.out]; simp [hnm]
        have hb : ((n : Int) == (m : Int)) = false := by simp; omega
        clear HT
        go_enter Tryz.func26, Tryz.ntmps26
        go_wp2_with fail
        refine h1.mono ?_
        rintro e w1 ⟨rfl, hw1⟩
        rw [hw1]
        clear hw1 h1
        go_wp2_with fail
        refine h2.mono ?_
        rintro e w1 ⟨rfl, hw1⟩
        rw [hw1]
        clear hw1 h2
        go_wp2_with fail
        go_ret
        exact ⟨by rw [HR.out]; rfl, rfl⟩
    · have HR : Hid (r = d) := by show _ = _; rw [HT.out]; simp [hd]
      have HD := Hid.mk' (errV_pos a hd)
      rw [HD.out] at h2
      clear HT
      go_enter Tryz.func26, Tryz.ntmps26
      go_wp2_with fail
      refine h1.mono ?_
      rintro e w1 ⟨rfl, hw1⟩
      rw [hw1]
      clear hw1 h1
      go_wp2_with fail
      refine h2.mono ?_
      rintro e w1 ⟨rfl, hw1⟩
      rw [hw1]
      clear hw1 h2
      go_wp2_with fail
      go_ret
      exact ⟨by rw [HR.out, HD.out]; rfl, rfl⟩
  · have HR : Hid (r = c) := by show _ = _; rw [HT.out]; simp [hc]
    have HD := Hid.mk' (errV_pos a hc)
    rw [HD.out] at h1
    clear HT
    go_enter Tryz.func26, Tryz.ntmps26
    go_wp2_with (go_at_call 49; refine h1.mono ?_; rintro e w1 ⟨rfl, hw1⟩; rw [hw1]; clear hw1)
    go_ret
    exact ⟨by rw [HR.out, HD.out]; rfl, rfl⟩
theorem twoErr_ok {p q : Nat → Int} {n m : Nat} (h : twoErr p n q m = 0) : n = m ∧ n ≤ 16 ∧ OkW p n ∧ OkW q m := by
  unfold twoErr at h
  by_cases h1 : weightsErr p n = 0
  · by_cases h2 : weightsErr q m = 0
    · by_cases h3 : n = m
      · refine ⟨h3, ?_⟩
        unfold weightsErr at h1 h2
        by_cases h16 : 16 < n
        · rw [if_pos h16] at h1; cases h1
        · rw [if_neg h16] at h1
          rw [← h3, if_neg h16] at h2
          rw [← h3]
          exact ⟨by omega, listErr_ok h1, listErr_ok h2⟩
      · simp [h1, h2, h3] at h
    · simp [h1, h2] at h
  · simp [h1] at h
end Go.Proofs.YtofflboheiflaaaGreatDoor

/- Cells beside a map. -/
namespace Go.Proofs.YtofflboheiflaaaGreatDoor
open Go.RowKit Go.Maps

/-- A cell beside a map's block. -/
theorem cell_side {w w' : World} {mb nn B o : Nat} {v : Value} {D : DataW Unit} {k : TypeId} {R : Value → Option (DataW Unit × List MemPlace)} (hm : w.ownsMap Tryz.prog k R mb nn D) (hg : w.grownBy w' (some mb)) (hc : w.cell? ⟨B, o, none⟩ = some v) : w'.cell? ⟨B, o, none⟩ = some v := by
  refine cell_beside hg hc ?_
  rintro rfl
  rw [map_no_cell hm] at hc
  cases hc

end Go.Proofs.YtofflboheiflaaaGreatDoor

/- dist.Divergence. -/
namespace Go.Proofs.YtofflboheiflaaaGreatDoor
open Go.RowKit Go.Maps

/-- What the i-th place puts. -/
def divV (p q : Nat → Int) (P Q : Nat) (x : Int) (i : Nat) : Int := p i * multI x (p i).toNat + -(p i) * multI x P + -(p i) * multI x (q i).toNat + p i * multI x Q
theorem divV_le {p q : Nat → Int} {P Q i : Nat} (x : Int) (hp : 0 ≤ p i ∧ p i ≤ 4096) (hq : 0 ≤ q i ∧ q i ≤ 4096) (hP : P ≤ 4096) (hQ : Q ≤ 4096) : -400000 ≤ divV p q P Q x i ∧ divV p q P Q x i ≤ 400000 := by
  unfold divV
  have h1 := mul_weight (t := p i) (by omega) (multI_small x (n := (p i).toNat) (by omega))
  have h2 := mul_weight (t := -(p i)) (by omega) (multI_small x (n := P) (by omega))
  have h3 := mul_weight (t := -(p i)) (by omega) (multI_small x (n := (q i).toNat) (by omega))
  have h4 := mul_weight (t := p i) (by omega) (multI_small x (n := Q) (by omega))
  omega
set_option maxRecDepth 100000 in
set_option maxHeartbeats 4000000 in
theorem Divergence_parts (den : Int) (mb Bp BP Bq BQ b o cap b' o' cap' n P Q : Nat) (p q : Nat → Int) (w : World) (hown : w.ownsMap Tryz.prog 3 (plainElem (H := Unit) Tryz.prog 3) mb 0 (mapOf []))
    (cp : w.cell? ⟨Bp, 0, none⟩ = some (.slice (some ⟨b, o, none⟩) n cap)) (cP : w.cell? ⟨BP, 0, none⟩ = some (.int .i64 P)) (cq : w.cell? ⟨Bq, 0, none⟩ = some (.slice (some ⟨b', o', none⟩) n cap')) (cQ : w.cell? ⟨BQ, 0, none⟩ = some (.int .i64 Q))
    (h : RowAt w b o n p) (k : RowAt w b' o' n q) (hp : ∀ i, i < n → 0 ≤ p i ∧ p i ≤ 4096) (hq : ∀ i, i < n → 0 ≤ q i ∧ q i ≤ 4096) (hpq : ∀ i, i < n → 0 < p i → 0 < q i) (hP : 1 ≤ P ∧ P ≤ 4096) (hQ : 1 ≤ Q ∧ Q ≤ 4096) (hn : n ≤ 16) :
    Calls Tryz.prog 37 #[putV den mb, .pointer (some ⟨Bp, 0, none⟩), .pointer (some ⟨BP, 0, none⟩), .pointer (some ⟨Bq, 0, none⟩), .pointer (some ⟨BQ, 0, none⟩)] w fun e w' => e = .returned (.tuple #[]) ∧ ∃ l nn, Puts w w' mb (fun x => sumN (divV p q P Q x) n) (4 * n) [] 0 l nn := by
  have HP0 : Hid (Puts w w mb (fun x => sumN (divV p q P Q x) 0) (4 * 0) [] 0 [] 0) := ⟨hown, List.Pairwise.nil, (fun x => by simp [sumN]), (fun e he => by cases he), by omega, by simp, grown_refl _ _⟩
  have HROW := Hid.mk' (fun (wr : World) (hg : w.grownBy wr (some mb)) => And.intro (h.beside hown hg) (And.intro (k.beside hown hg) (And.intro (cell_side hown hg cP) (And.intro (cell_side hown hg cq) (cell_side hown hg cQ)))))
  have HPI := Hid.mk' hp
  have HQI := Hid.mk' hq
  have HPQ := Hid.mk' hpq
  clear hown h k hp hq hpq cP cq cQ
  unfold putV
  go_enter Tryz.func37, Tryz.ntmps37
  go_wp2_with fail
  go_loopw [6, 7, 10] (fun _ _ i wr => ∃ (k nn : Nat) (l : List (Int × Int)), k ≤ n ∧ i = .int .i64 k ∧ Hid (Puts w wr mb (fun x => sumN (divV p q P Q x) k) (4 * k) [] 0 l nn)) (fun _ _ i _ => n - (intOf i).toNat)
  case atStart => exact ⟨0, 0, [], Nat.zero_le _, rfl, HP0⟩
  case round =>
    clear HP0 cp
    obtain ⟨k, nn, l, hk, rfl, HP⟩ := hrel
    rcases Nat.lt_or_ge k n with h1 | h1
    · have hc := (HROW.out _ HP.out.grow).1 k h1
      have hkn : (k : Int) < (n : Int) := by omega
      have hpk := HPI.out k h1
      have hqk := HQI.out k h1
      have hpqk := HPQ.out k h1
      have HV : Hid (∀ x, sumN (divV p q P Q x) (k + 1) = sumN (divV p q P Q x) k + (p k * multI x (p k).toNat + (-(p k) * multI x P + (-(p k) * multI x (q k).toNat + p k * multI x Q)))) := fun x => by
        show sumN (divV p q P Q x) k + divV p q P Q x k = _
        unfold divV
        omega
      have HBD : Hid (∀ x, -100000000 ≤ atL l x ∧ atL l x ≤ 100000000) := fun x => by
        rw [HP.out.val]
        have h3 := sumN_bound (f := divV p q P Q x) (B := 400000) (n := k) (fun i hi => divV_le x (HPI.out i (by omega)) (HQI.out i (by omega)) hP.2 hQ.2)
        have : (k : Int) * 400000 ≤ 6400000 := by omega
        simp only [atL]
        omega
      have hcq := (HROW.out _ HP.out.grow).2.1 k h1
      obtain ⟨y, hy⟩ := Int.eq_ofNat_of_zero_le hpk.1
      obtain ⟨u, hu⟩ := Int.eq_ofNat_of_zero_le hqk.1
      rw [hy] at hc hpk HV hpqk
      rw [hu] at hqk HV hpqk hcq
      simp only [Int.toNat_natCast] at HV
      have HCQ : Hid (∀ W, w.grownBy W (some mb) → W.cell? ⟨b', o' + k, none⟩ = some (.int .i64 (u : Int))) := fun W hg => by rw [← hu]; exact (HROW.out W hg).2.1 k h1
      have hy6 : y ≤ 4096 := by have := hpk.2; omega
      have hu6 : u ≤ 4096 := by have := hqk.2; omega
      have hyu : y ≠ 0 → 1 ≤ u := fun h => by have := hpqk (by omega); omega
      have hnn1 : nn ≤ 10000 := by have := HP.out.cnt; omega
      have MW := Hid.mk' (fun (x : Int) (m : Nat) (hm : m ≤ 4096) => mul_weight (t := (y : Int)) (by omega) (multI_small x (n := m) (by omega)))
      have MN := Hid.mk' (fun (x : Int) (m : Nat) (hm : m ≤ 4096) => mul_weight (t := -(y : Int)) (by omega) (multI_small x (n := m) (by omega)))
      clear hy hu hpk hqk hpqk hcq
      have HP1 := Hid.mk' (Put_by den (y : Int) mb y nn l wr HP.out.own HP.out.rise HP.out.keys (fun x => by have := HBD.out x; omega) (by omega) (fun h => by omega) (by omega) (by omega))
      go_wp2_with fail
      refine HP1.out.mono ?_
      clear HP1 hc
      rintro e w2 ⟨rfl, l2, nn2, hp2⟩
      have hg2 := grown_two HP.out.grow hp2.grow
      have cP2 := (HROW.out _ hg2).2.2.1
      have B2 : Hid (∀ x, -100100000 ≤ atL l2 x ∧ atL l2 x ≤ 100100000) := fun x => by rw [hp2.val]; have h2 := HBD.out x; have h3 := MW.out x y hy6; omega
      have hn2 : nn2 ≤ 10020 := by have := hp2.cnt; omega
      have HP2 := Hid.mk' (Put_by den (-(y : Int)) mb P nn2 l2 w2 hp2.own hp2.rise hp2.keys (fun x => by have := B2.out x; omega) (by omega) (fun _ => hP.1) (by omega) (by omega))
      have HQ2 := Hid.mk' (HP.out.trans hp2)
      clear hp2 hg2
      go_wp2_with fail
      refine HP2.out.mono ?_
      clear HP2 cP2
      rintro e w3 ⟨rfl, l3, nn3, hp3⟩
      have hg3 := grown_two HQ2.out.grow hp3.grow
      have cq3 := (HROW.out _ hg3).2.2.2.1
      have cu3 := HCQ.out _ hg3
      have B3 : Hid (∀ x, -100200000 ≤ atL l3 x ∧ atL l3 x ≤ 100200000) := fun x => by rw [hp3.val]; have h2 := B2.out x; have h3 := MN.out x P hP.2; omega
      have hn3 : nn3 ≤ 10040 := by have := hp3.cnt; omega
      have HP3 := Hid.mk' (Put_by den (-(y : Int)) mb u nn3 l3 w3 hp3.own hp3.rise hp3.keys (fun x => by have := B3.out x; omega) (by omega) (fun h => hyu (by omega)) (by omega) (by omega))
      have HQ3 := Hid.mk' (HQ2.out.trans hp3)
      clear hp3 hg3 HQ2
      go_wp2_with fail
      refine HP3.out.mono ?_
      clear HP3 cq3 cu3
      rintro e w4 ⟨rfl, l4, nn4, hp4⟩
      have hg4 := grown_two HQ3.out.grow hp4.grow
      have cQ4 := (HROW.out _ hg4).2.2.2.2
      have B4 : Hid (∀ x, -100300000 ≤ atL l4 x ∧ atL l4 x ≤ 100300000) := fun x => by rw [hp4.val]; have h2 := B3.out x; have h3 := MN.out x u hu6; omega
      have hn4 : nn4 ≤ 10060 := by have := hp4.cnt; omega
      have HP4 := Hid.mk' (Put_by den (y : Int) mb Q nn4 l4 w4 hp4.own hp4.rise hp4.keys (fun x => by have := B4.out x; omega) (by omega) (fun _ => hQ.1) (by omega) (by omega))
      have HQ4 := Hid.mk' (HQ3.out.trans hp4)
      clear hp4 hg4 HQ3
      go_wp2_with fail
      refine HP4.out.mono ?_
      clear HP4 cQ4
      rintro e w5 ⟨rfl, l5, nn5, hp5⟩
      have HQ5 := Hid.mk' ((HQ4.out.trans hp5).congr (d := 4 * (k + 1)) (by omega) (g := fun x => sumN (divV p q P Q x) (k + 1)) (fun x => by rw [HV.out x]; omega))
      clear hp5 HQ4
      go_wp2_with fail
      exact ⟨⟨k + 1, nn5, l5, h1, by go_num, HQ5⟩, by simp [intOf]; omega⟩
    · obtain rfl : k = n := by omega
      go_wp2_with fail
      go_end0
      exact ⟨rfl, l, nn, HP.out⟩
end Go.Proofs.YtofflboheiflaaaGreatDoor

/- The sides of a divergence. -/
namespace Go.Proofs.YtofflboheiflaaaGreatDoor
open Go.RowKit

theorem mult_prod {x : Nat} (hx : Pr x) {a b : Nat → Nat} : ∀ {n : Nat}, (∀ i, i < n → 0 < a i → 0 < b i) → mult x (prodA (fun i => b i ^ a i) n) = sumA (fun i => a i * mult x (b i)) n ∧ 0 < prodA (fun i => b i ^ a i) n
  | 0, _ => ⟨by simp only [prodA, sumA]; exact mult_one hx.1, by simp [prodA]⟩
  | n + 1, h => by
    obtain ⟨h1, h2⟩ := mult_prod hx (n := n) (fun i hi => h i (by omega))
    have h3 : mult x (b n ^ a n) = a n * mult x (b n) ∧ 0 < b n ^ a n := by
      rcases Nat.eq_zero_or_pos (a n) with h0 | h0
      · rw [h0, Nat.pow_zero, Nat.zero_mul]
        exact ⟨mult_one hx.1, by omega⟩
      · exact ⟨mult_power hx (h n (by omega) h0) _, Nat.pow_pos (h n (by omega) h0)⟩
    simp only [prodA, sumA]
    exact ⟨by rw [mult_mul hx _ _ h2 h3.2, h1, h3.1], Nat.mul_pos h2 h3.2⟩
theorem sumA_nat {z : Nat → Int} {a : Nat → Nat} : ∀ {n : Nat}, (∀ i, i < n → z i = (a i : Int)) → sumN z n = (sumA a n : Int)
  | 0, _ => rfl
  | n + 1, h => by
    simp only [sumN, sumA]
    rw [sumA_nat (n := n) (fun i hi => h i (by omega)), h n (by omega)]
    simp
/-- A divergence's multiplicity of a prime. -/
theorem div_mult {x : Nat} (hx : Pr x) {p q : Nat → Int} {a b : Nat → Nat} {P Q : Nat} : ∀ {n : Nat}, (∀ i, i < n → p i = (a i : Int)) → (∀ i, i < n → q i = (b i : Int)) →
    sumN (divV p q P Q (x : Int)) n = (sumA (fun i => a i * mult x (a i)) n : Int) + (sumA a n : Int) * (mult x Q : Int) - (sumA (fun i => a i * mult x (b i)) n : Int) - (sumA a n : Int) * (mult x P : Int)
  | 0, _, _ => by simp [sumN, sumA]
  | n + 1, hp, hq => by
    have ih := div_mult hx (P := P) (Q := Q) (n := n) (fun i hi => hp i (by omega)) (fun i hi => hq i (by omega))
    have e : ∀ m, multI (x : Int) m = (mult x m : Int) := fun m => by rw [multI_pr (by simpa using hx)]; simp
    simp only [sumN, sumA]
    rw [ih]
    unfold divV
    rw [hp n (by omega), hq n (by omega)]
    simp only [Int.toNat_natCast, e]
    simp only [Int.natCast_add, Int.natCast_mul]
    grind
def upD (a : Nat → Nat) (Q n : Nat) : Nat := Q ^ sumA a n * prodA (fun i => a i ^ a i) n
def downD (a b : Nat → Nat) (P n : Nat) : Nat := P ^ sumA a n * prodA (fun i => b i ^ a i) n
theorem div_sides {a b : Nat → Nat} {p q : Nat → Int} {P Q n : Nat} (hp : ∀ i, i < n → p i = (a i : Int)) (hq : ∀ i, i < n → q i = (b i : Int)) (hP : 0 < P) (hQ : 0 < Q) (hz : ∀ i, i < n → 0 < a i → 0 < b i) :
    0 < upD a Q n ∧ 0 < downD a b P n ∧ ∀ x : Nat, Pr x → sumN (divV p q P Q (x : Int)) n = (mult x (upD a Q n) : Int) - (mult x (downD a b P n) : Int) := by
  have h2 : Pr 2 := ⟨by omega, fun d hd hdd => by have := Nat.mul_le_mul hd hd; omega⟩
  have ha : ∀ i, i < n → 0 < a i → 0 < a i := fun _ _ h => h
  have u2 := (mult_prod h2 (b := a) ha).2
  have d2 := (mult_prod h2 hz).2
  refine ⟨Nat.mul_pos (Nat.pow_pos hQ) u2, Nat.mul_pos (Nat.pow_pos hP) d2, fun x hx => ?_⟩
  rw [div_mult hx hp hq]
  unfold upD downD
  rw [mult_mul hx _ _ (Nat.pow_pos hQ) u2, mult_mul hx _ _ (Nat.pow_pos hP) d2, mult_power hx hQ, mult_power hx hP, (mult_prod hx (b := a) ha).1, (mult_prod hx hz).1]
  simp only [Int.natCast_add, Int.natCast_mul]
  omega
/-- A divergence speaks of primes. -/
theorem div_prim {p q : Nat → Int} {P Q n : Nat} (hp : ∀ i, i < n → 0 ≤ p i ∧ p i ≤ 4096) (hq : ∀ i, i < n → 0 ≤ q i ∧ q i ≤ 4096) (hn : n ≤ 16) (hP : 1 ≤ P ∧ P ≤ 4096) (hQ : 1 ≤ Q ∧ Q ≤ 4096) (hz : ∀ i, i < n → 0 < p i → 0 < q i) : Prim fun x => sumN (divV p q P Q x) n := by
  refine ⟨fun x => ?_, fun x hx => ?_⟩
  · have h1 := sumN_bound (f := divV p q P Q x) (B := 400000) (n := n) (fun i hi => divV_le x (hp i hi) (hq i hi) hP.2 hQ.2)
    have : (n : Int) * 400000 ≤ 6400000 := by omega
    omega
  · have aux : ∀ k, k ≤ n → sumN (divV p q P Q x) k ≠ 0 → 2 ≤ x ∧ x ≤ 4096 ∧ Pr x.toNat := by
      intro k
      induction k with
      | zero => intro _ h; exact absurd rfl h
      | succ k ih =>
        intro hk h
        by_cases h0 : sumN (divV p q P Q x) k = 0
        · have h1 : divV p q P Q x k ≠ 0 := fun e => h (by simp only [sumN]; rw [h0, e]; rfl)
          have hpk := hp k (by omega)
          have hqk := hq k (by omega)
          have hp0 : 0 < p k := by
            rcases Int.lt_or_le 0 (p k) with h2 | h2
            · exact h2
            · refine absurd ?_ h1
              unfold divV
              rw [show p k = 0 by omega]
              simp
          have hq0 := hz k (by omega) hp0
          have hs : ∀ m : Nat, 0 < m → m ≤ 4096 → multI x m ≠ 0 → 2 ≤ x ∧ x ≤ 4096 ∧ Pr x.toNat := fun m h3 h4 h5 => by
            obtain ⟨a1, a2, a3⟩ := multI_support h3 h5
            exact ⟨a2, by omega, a1⟩
          by_cases e1 : multI x (p k).toNat = 0
          · by_cases e2 : multI x P = 0
            · by_cases e3 : multI x (q k).toNat = 0
              · by_cases e4 : multI x Q = 0
                · refine absurd ?_ h1
                  unfold divV
                  rw [e1, e2, e3, e4]
                  simp
                · exact hs Q (by omega) (by omega) e4
              · exact hs _ (by omega) (by omega) e3
            · exact hs P (by omega) (by omega) e2
          · exact hs _ (by omega) (by omega) e1
        · exact ih (by omega) h0
    exact aux n (Nat.le_refl _) hx
/-- GIBBS. -/
theorem gibbs {a b : Nat → Nat} {P Q n : Nat} (hP : P = sumA a n) (hQ : Q = sumA b n) (hz : ∀ i, i < n → 0 < a i → 0 < b i) : downD a b P n ≤ upD a Q n ∧ (upD a Q n = downD a b P n → ∀ i, i < n → a i * Q = b i * P) ∧ ((∀ i, i < n → a i * Q = b i * P) → 0 < P → 0 < Q → upD a Q n = downD a b P n) := by
  unfold downD upD
  rw [hP, hQ]
  refine ⟨sums_le a b n, fun h => sums_eq hz h.symm, fun h hP hQ => ?_⟩
  have aux : ∀ k, k ≤ n → sumA b n ^ sumA a k * prodA (fun i => a i ^ a i) k = sumA a n ^ sumA a k * prodA (fun i => b i ^ a i) k := by
    intro k
    induction k with
    | zero => intro _; simp [sumA, prodA]
    | succ k ih =>
      intro hk
      have i1 := ih (by omega)
      have h1 := congrArg (fun y => y ^ a k) (h k (by omega))
      simp only [Nat.mul_pow] at h1
      simp only [sumA, prodA]
      rw [Nat.pow_add, Nat.pow_add]
      generalize sumA b n ^ sumA a k = t1 at *
      generalize sumA a n ^ sumA a k = t2 at *
      generalize prodA (fun i => a i ^ a i) k = t3 at *
      generalize prodA (fun i => b i ^ a i) k = t4 at *
      generalize sumA b n ^ a k = t5 at *
      generalize sumA a n ^ a k = t6 at *
      generalize a k ^ a k = t7 at *
      generalize b k ^ a k = t8 at *
      have e : t1 * t5 * (t3 * t7) = (t1 * t3) * (t7 * t5) := by grind
      rw [e, i1, h1]
      grind
  exact aux n (Nat.le_refl _)
end Go.Proofs.YtofflboheiflaaaGreatDoor

/- The law's copies of lists. -/
namespace Go.Proofs.YtofflboheiflaaaGreatDoor
open Go.RowKit

theorem append_zeroI (w : World) (ty : TypeId) (ad : Option Addr) (cap : Nat) : (Builtin.append_ #[22, 22] ty #[.slice none 0 0, .slice ad 0 cap]).run Tryz.prog w = .ok (.slice none 0 0) w := by
  obtain ⟨i, hi, hi2⟩ := Option.map_eq_some_iff.1 Tryz.infoInt
  refine run_append_nothing w _ _ ty 3 i Tryz.underlying22 hi none 0 0 (Nat.le_refl _) _ ?_
  cases ad with
  | none => exact Src.ofNil w Tryz.underlying22 cap
  | some a => exact Src.ofSlice w Tryz.underlying22 a 0 cap [] (by simp) (fun j u h => by simp at h) (fun u h => by simp at h)
theorem wpList_append_zeroI {w : World} {ops : Array Oper} {rest : List Oper} {o : Oper} {a : Act} {Q : Exit → Act → World → Prop} (hgd : o.guard = none) (s x : Operand)
    (ho : o.op = .call { callee := .builtin .append, args := #[s, x], argTypes := #[22, 22] })
    (ad : Option Addr) (cap : Nat) (hs : a.eval s = .slice none 0 0) (hx : a.eval x = .slice ad 0 cap)
    (h : wpList Tryz.prog ops Q rest (a.put o.dst (.slice none 0 0)) w) : wpList Tryz.prog ops Q (o :: rest) a w := by
  refine wpList_plain hgd fun K hK => ?_
  have hrun := append_zeroI w o.type ad cap
  unfold Oper.wp
  simp [execOp, ho, resolve, invoke, builtin, hs, hx, hrun, Result.andThen]
  exact hK _ _ h

theorem numsAt_own {w : World} {base : Nat} {v : Value} {n : Nat} {z : Nat → Int} (h : w.ownsRow base 3 1 v n (numCells z n)) : NumsAt w v n z := by
  rcases h.2 with ⟨hv, h0⟩ | ⟨g, cap, cur, hv, _⟩
  · exact Or.inl ⟨none, 0, hv, h0⟩
  · rcases Nat.eq_zero_or_pos n with h0 | h0
    · exact Or.inl ⟨_, _, by rw [hv, h0], h0⟩
    · subst hv
      exact Or.inr ⟨g, 0, cap, rfl, h0, rowAt_of_row h⟩
set_option maxRecDepth 100000 in
set_option maxHeartbeats 1000000 in
theorem ints_row (v : Value) (n : Nat) (z : Nat → Int) (w : World) (h : NumsAt w v n z) (hn : n ≤ 100000) :
    Calls Tryz.prog 9 #[v] w fun e w' => ∃ v', e = .returned v' ∧ w'.ownsRow w.heap.size 3 1 v' n (numCells z n) ∧ Below w.heap.size w w' := by
  rcases h with ⟨ad, cap, rfl, rfl⟩ | ⟨b, o, cap, rfl, h0, hr⟩
  · go_enter Tryz.func9, Tryz.ntmps9
    go_wp2_with (at_builtin; go_must (refine wpList_append_zeroI rfl _ _ rfl ad cap rfl rfl ?_))
    go_ret
    exact ⟨_, rfl, ⟨rfl, Or.inl ⟨rfl, rfl⟩⟩, Below.refl _ _⟩
  · obtain ⟨i, hi, hi2⟩ := Option.map_eq_some_iff.1 Tryz.infoInt
    obtain ⟨hz, hsz, hby⟩ : i.zero = some (.int .i64 0) ∧ i.size = 1 ∧ i.bytes = 8 := by simpa using hi2
    have HR := Hid.mk' hr
    have HI : Hid (Tryz.prog.info? 3 = some i) := hi
    have HZ : Hid (i.zero = some (.int .i64 0)) := hz
    have HS : Hid (i.size = 1) := hsz
    have HY : Hid (i.bytes = 8) := hby
    have HC : Hid (∀ u, u ∈ numCells z n → u.oneCell' = true) := fun u hu => by obtain ⟨x, rfl⟩ := numCells_ints z n u hu; rfl
    have HL : Hid ((numCells z n).length = n * 1) := by show _ = _; rw [numCells_length, Nat.mul_one]
    clear hr hi2 hi hz hsz hby
    go_enter Tryz.func9, Tryz.ntmps9
    go_wp2_with (at_builtin; go_must (refine wpList_append_lies _ rfl _ _ _ rfl w.heap.size 3 i _ 1 8 Tryz.underlying22 HI.out HZ.out HS.out HY.out rfl (by omega) (.slice none 0 0) 0 [] rfl ⟨rfl, Or.inl ⟨rfl, rfl⟩⟩ ⟨b, o, none⟩ n cap (numCells z n) rfl HL.out (fun j u hu => numCells_news HR.out j u hu) HC.out h0 (by unfold maxLen; omega) (by omega) (by simp) _ rfl ?_; intro g cap' w1 hown hgrow hat hlt; have HOWN := Hid.mk' hown; have HG := Hid.mk' hgrow; clear hown hgrow hat))
    go_ret
    exact ⟨_, rfl, by simpa using HOWN.out, (Below.refl _ _).grown HG.out (Nat.le_refl _) (fun k hk => by cases hk)⟩
theorem ints_any (v : Value) (n : Nat) (z : Nat → Int) (w : World) (h : NumsAt w v n z) (hn : n ≤ 100000) :
    Calls Tryz.prog 9 #[v] w fun e w' => ∃ v', e = .returned v' ∧ NumsAt w' v' n z ∧ Below w.heap.size w w' := by
  refine (ints_row v n z w h hn).mono ?_
  rintro e w' ⟨v', rfl, h1, h2⟩
  exact ⟨v', rfl, numsAt_own h1, h2⟩
end Go.Proofs.YtofflboheiflaaaGreatDoor

/- dist.Merge and the document's MergeOf. -/
namespace Go.Proofs.YtofflboheiflaaaGreatDoor
open Go.RowKit

/-- Is a place not from 0 to 15? -/
def farB (t : Nat → Int) : Nat → Bool
  | 0 => false
  | k + 1 => farB t k || (decide (t k < 0) || decide (15 < t k))
theorem farB_iff (t : Nat → Int) : ∀ n, farB t n = true ↔ ∃ i, i < n ∧ (t i < 0 ∨ 15 < t i)
  | 0 => by simp [farB]
  | n + 1 => by
    have ih := farB_iff t n
    simp only [farB, Bool.or_eq_true, decide_eq_true_eq, ih]
    constructor
    · rintro (⟨i, h1, h2⟩ | h)
      · exact ⟨i, by omega, h2⟩
      · exact ⟨n, by omega, h⟩
    · rintro ⟨i, h1, h2⟩
      rcases Nat.lt_or_ge i n with h | h
      · exact Or.inl ⟨i, h, h2⟩
      · obtain rfl : i = n := by omega
        exact Or.inr h2
/-- The greatest place, or 0. -/
def topTo (t : Nat → Int) : Nat → Int
  | 0 => 0
  | k + 1 => if topTo t k < t k then t k else topTo t k
theorem topTo_nonneg (t : Nat → Int) : ∀ k, 0 ≤ topTo t k
  | 0 => Int.le_refl _
  | k + 1 => by
    have := topTo_nonneg t k
    show 0 ≤ if topTo t k < t k then t k else topTo t k
    split <;> omega
theorem topTo_le {t : Nat → Int} : ∀ {k : Nat}, (∀ i, i < k → t i ≤ 15) → topTo t k ≤ 15
  | 0, _ => by show (0 : Int) ≤ 15; omega
  | k + 1, h => by
    have := topTo_le (t := t) (k := k) (fun i hi => h i (by omega))
    have h1 := h k (by omega)
    show (if topTo t k < t k then t k else topTo t k) ≤ 15
    split <;> omega
theorem topTo_max (t : Nat → Int) : ∀ k, (∀ i, i ≤ k → 0 ≤ t i) → topTo t (k + 1) = maxTo t k
  | 0, h => by
    have := h 0 (Nat.le_refl _)
    show (if (0 : Int) < t 0 then t 0 else 0) = t 0
    split <;> omega
  | k + 1, h => by
    have ih := topTo_max t k (fun i hi => h i (by omega))
    show (if topTo t (k + 1) < t (k + 1) then t (k + 1) else topTo t (k + 1)) = (if maxTo t k < t (k + 1) then t (k + 1) else maxTo t k)
    rw [ih]
theorem topTo_ge {t : Nat → Int} : ∀ {k i : Nat}, i < k → t i ≤ topTo t k
  | 0, i, h => by omega
  | k + 1, i, h => by
    show t i ≤ if topTo t k < t k then t k else topTo t k
    rcases Nat.lt_or_ge i k with h' | h'
    · have := topTo_ge (t := t) h'; split <;> omega
    · obtain rfl : i = k := by omega
      split <;> omega
/-- What comes to a place. -/
def mergeV (z t : Nat → Int) (n : Nat) (j : Nat) : Int := sumN (fun i => if t i = (j : Int) then z i else 0) n
theorem mergeV_le {z t : Nat → Int} {n k j : Nat} (hz : ∀ i, i < n → 0 ≤ z i) (hk : k ≤ n) : 0 ≤ mergeV z t k j ∧ mergeV z t k j ≤ sumN z n := by
  unfold mergeV
  constructor
  · refine sumN_nonneg (fun i hi => ?_)
    have := hz i (by omega)
    split <;> omega
  · refine Int.le_trans (sumN_le (fun i hi => ?_)) (sumN_mono hz hk)
    have := hz i (by omega)
    split <;> omega
def mergeErr (t : Nat → Int) (n m : Nat) : Nat := if n ≠ m then 3 else if farB t m = true then 3 else 0
def mergeLen (t : Nat → Int) (n m : Nat) : Nat := if mergeErr t n m ≠ 0 then 0 else (topTo t m).toNat + 1
theorem mergeErr_ne {t : Nat → Int} {n m : Nat} (h : n ≠ m) : mergeErr t n m = 3 ∧ mergeLen t n m = 0 := by
  have : mergeErr t n m = 3 := by unfold mergeErr; exact if_pos h
  exact ⟨this, by unfold mergeLen; rw [this]; rfl⟩
theorem mergeErr_far {t : Nat → Int} {n : Nat} (h : farB t n = true) : mergeErr t n n = 3 ∧ mergeLen t n n = 0 := by
  have : mergeErr t n n = 3 := by unfold mergeErr; rw [if_neg (by simp), if_pos h]
  exact ⟨this, by unfold mergeLen; rw [this]; rfl⟩
theorem mergeErr_no {t : Nat → Int} {n : Nat} (h : farB t n = false) : mergeErr t n n = 0 ∧ mergeLen t n n = (topTo t n).toNat + 1 := by
  have : mergeErr t n n = 0 := by unfold mergeErr; rw [if_neg (by simp), if_neg (by rw [h]; simp)]
  exact ⟨this, by unfold mergeLen; rw [this]; rfl⟩

end Go.Proofs.YtofflboheiflaaaGreatDoor

/- DATA PROCESSING of whole numbers: what is merged, held against what it is merged of. -/
namespace Go.Proofs.YtofflboheiflaaaGreatDoor
open Go.RowKit

theorem sumN_none {z : Nat → Int} : ∀ {n : Nat}, (∀ i, i < n → z i = 0) → sumN z n = 0
  | 0, _ => rfl
  | n + 1, h => by
    simp only [sumN]
    rw [sumN_none (n := n) (fun i hi => h i (by omega)), h n (by omega)]
    rfl
theorem weights_of {z : Nat → Int} {n : Nat} (hn : n ≤ 16) (h : OkW z n) : weightsErr z n = 0 := by
  unfold weightsErr listErr
  rw [if_neg (by omega)]
  have h1 : ¬ (negB z n = true ∨ someB z n = false) := by
    rintro (h1 | h1)
    · obtain ⟨i, hi, hz⟩ := (negB_iff z n).1 h1
      have := h.nn i hi
      omega
    · have h2 : ∀ i, i < n → z i = 0 := fun i hi => by
        have := h.nn i hi
        rcases Int.lt_or_le 0 (z i) with h3 | h3
        · have := (someB_iff z n).2 ⟨i, hi, h3⟩
          rw [h1] at this
          cases this
        · omega
      have h3 := sumN_none h2
      have := h.pos
      omega
  rw [if_neg h1, if_neg (by have := h.le; omega)]
/-- A place of one class. -/
def inC (s p : Nat → Nat) (c i : Nat) : Nat := if s i = c then p i else 0
theorem sumA_one (k v : Nat) : ∀ K, sumA (fun c => if k = c then v else 0) K = if k < K then v else 0
  | 0 => by simp [sumA]
  | K + 1 => by
    simp only [sumA]
    rw [sumA_one k v K]
    by_cases h1 : k < K
    · rw [if_pos h1, if_neg (by omega), if_pos (by omega)]; rfl
    · by_cases h2 : k = K
      · rw [if_neg h1, if_pos h2, if_pos (by omega)]; omega
      · rw [if_neg h1, if_neg h2, if_neg (by omega)]
theorem sumA_pick {s g : Nat → Nat} {n K : Nat} (h : ∀ i, i < n → s i < K) : sumA (fun c => sumA (fun i => if s i = c then g i else 0) n) K = sumA g n := by
  rw [sumA_swap]
  refine sumA_congr fun i hi => ?_
  rw [sumA_one, if_pos (h i hi)]
theorem prod_pow (k : Nat) (a : Nat → Nat) : ∀ n, prodA (fun i => k ^ a i) n = k ^ sumA a n
  | 0 => rfl
  | n + 1 => by
    simp only [prodA, sumA]
    rw [prod_pow k a n, Nat.pow_add]
theorem mult_table {x : Nat} (hx : Pr x) {a b : Nat → Nat → Nat} {C : Nat} : ∀ {R : Nat}, (∀ i, i < R → ∀ j, j < C → 0 < a i j → 0 < b i j) → mult x (prodA (fun i => prodA (fun j => b i j ^ a i j) C) R) = sumA (fun i => sumA (fun j => a i j * mult x (b i j)) C) R ∧ 0 < prodA (fun i => prodA (fun j => b i j ^ a i j) C) R
  | 0, _ => ⟨by simp only [prodA, sumA]; exact mult_one hx.1, by simp [prodA]⟩
  | R + 1, h => by
    obtain ⟨h1, h2⟩ := mult_table hx (R := R) (fun i hi => h i (by omega))
    obtain ⟨h3, h4⟩ := mult_prod hx (fun j hj => h R (by omega) j hj)
    simp only [prodA, sumA]
    exact ⟨by rw [mult_mul hx _ _ h2 h4, h1, h3], Nat.mul_pos h2 h4⟩
/-- An entropy's multiplicity of a prime. -/
theorem ent_mult {x : Nat} (hx : Pr x) {z : Nat → Int} {a : Nat → Nat} {N : Nat} : ∀ {n : Nat}, (∀ i, i < n → z i = (a i : Int)) → sumN (entV z N (x : Int)) n = (sumA a n : Int) * (mult x N : Int) - (sumA (fun i => a i * mult x (a i)) n : Int)
  | 0, _ => by simp [sumN, sumA]
  | n + 1, h => by
    have ih := ent_mult hx (N := N) (n := n) (fun i hi => h i (by omega))
    have e : ∀ m, multI (x : Int) m = (mult x m : Int) := fun m => by rw [multI_pr (by simpa using hx)]; simp
    simp only [sumN, sumA]
    rw [ih]
    unfold entV
    rw [h n (by omega)]
    simp only [Int.toNat_natCast, e, Int.natCast_add, Int.natCast_mul]
    grind
/-- What is merged has no more entropy. -/
theorem proc_ent {s p : Nat → Nat} {z y : Nat → Int} {n K N : Nat} (hs : ∀ i, i < n → s i < K) (hz : ∀ i, i < n → z i = (p i : Int)) (hy : ∀ c, c < K → y c = (sumA (inC s p c) n : Int)) :
    ∃ U D : Nat, 0 < U ∧ 0 < D ∧ D ≤ U ∧ ∀ x : Nat, Pr x → sumN (entV z N (x : Int)) n - sumN (entV y N (x : Int)) K = (mult x U : Int) - (mult x D : Int) := by
  have h2 : Pr 2 := ⟨by omega, fun d hd hdd => by have := Nat.mul_le_mul hd hd; omega⟩
  have u : ∀ c, c < K → 0 < sumA (inC s p c) n → 0 < sumA (inC s p c) n := fun _ _ h => h
  have d : ∀ c, c < K → ∀ i, i < n → 0 < inC s p c i → 0 < inC s p c i := fun _ _ _ _ h => h
  refine ⟨prodA (fun c => sumA (inC s p c) n ^ sumA (inC s p c) n) K, prodA (fun c => prodA (fun i => inC s p c i ^ inC s p c i) n) K, (mult_prod h2 u).2, (mult_table h2 d).2, prod_le fun c _ => ?_, fun x hx => ?_⟩
  · rw [← prod_pow]
    exact prod_le fun i hi => Nat.pow_le_pow_left (sumA_ge (inC s p c) hi) _
  · rw [ent_mult hx hz, ent_mult hx hy, (mult_prod hx u).1, (mult_table hx d).1]
    have e1 : sumA (fun c => sumA (inC s p c) n) K = sumA p n := sumA_pick hs
    have e2 : sumA (fun c => sumA (fun i => inC s p c i * mult x (inC s p c i)) n) K = sumA (fun i => p i * mult x (p i)) n := by
      rw [← sumA_pick (g := fun i => p i * mult x (p i)) hs]
      refine sumA_congr fun c _ => sumA_congr fun i _ => ?_
      unfold inC
      by_cases h : s i = c
      · rw [if_pos h, if_pos h]
      · rw [if_neg h, if_neg h, Nat.zero_mul]
    rw [e1, e2]
    omega
/-- What is merged is no farther from another one merged likewise. -/
theorem proc_div {s p q : Nat → Nat} {z y z' y' : Nat → Int} {n K P Q : Nat} (hs : ∀ i, i < n → s i < K) (hz : ∀ i, i < n → z i = (p i : Int)) (hy : ∀ c, c < K → y c = (sumA (inC s p c) n : Int)) (hz' : ∀ i, i < n → z' i = (q i : Int)) (hy' : ∀ c, c < K → y' c = (sumA (inC s q c) n : Int)) (h0 : ∀ i, i < n → 0 < p i → 0 < q i) :
    ∃ U D : Nat, 0 < U ∧ 0 < D ∧ D ≤ U ∧ ∀ x : Nat, Pr x → sumN (divV z z' P Q (x : Int)) n - sumN (divV y y' P Q (x : Int)) K = (mult x U : Int) - (mult x D : Int) := by
  have h2 : Pr 2 := ⟨by omega, fun d hd hdd => by have := Nat.mul_le_mul hd hd; omega⟩
  have hc : ∀ c, c < K → 0 < sumA (inC s p c) n → 0 < sumA (inC s q c) n := fun c _ h => by
    rcases Nat.eq_zero_or_pos (sumA (inC s q c) n) with h1 | h1
    · have h3 := sum_zero h1
      have : sumA (inC s p c) n = 0 := by
        have : sumA (inC s p c) n = sumA (fun _ => 0) n := sumA_congr fun i hi => by
          have h4 := h3 i hi
          unfold inC at h4 ⊢
          by_cases h5 : s i = c
          · rw [if_pos h5] at h4 ⊢
            rcases Nat.eq_zero_or_pos (p i) with h6 | h6
            · exact h6
            · have := h0 i hi h6
              omega
          · rw [if_neg h5]
        rw [this]
        have z0 : ∀ n, sumA (fun _ => 0) n = 0 := by
          intro n
          induction n with
          | zero => rfl
          | succ n ih => simp only [sumA]; omega
        exact z0 n
      omega
    · exact h1
  have u : ∀ c, c < K → 0 < sumA (inC s p c) n → 0 < sumA (inC s p c) n := fun _ _ h => h
  have d : ∀ c, c < K → ∀ i, i < n → 0 < inC s p c i → 0 < inC s p c i := fun _ _ _ _ h => h
  have d' : ∀ c, c < K → ∀ i, i < n → 0 < inC s p c i → 0 < inC s q c i := fun c _ i hi h => by
    unfold inC at h ⊢
    by_cases h5 : s i = c
    · rw [if_pos h5] at h ⊢
      exact h0 i hi h
    · rw [if_neg h5] at h
      omega
  have hle := prod_le (n := K) (fun c _ => sums_le (inC s p c) (inC s q c) n)
  rw [prod_mul, prod_mul] at hle
  refine ⟨prodA (fun c => sumA (inC s q c) n ^ sumA (inC s p c) n) K * prodA (fun c => prodA (fun i => inC s p c i ^ inC s p c i) n) K, prodA (fun c => sumA (inC s p c) n ^ sumA (inC s p c) n) K * prodA (fun c => prodA (fun i => inC s q c i ^ inC s p c i) n) K, Nat.mul_pos (mult_prod h2 hc).2 (mult_table h2 d).2, Nat.mul_pos (mult_prod h2 u).2 (mult_table h2 d').2, hle, fun x hx => ?_⟩
  rw [div_mult hx hz hz', div_mult hx hy hy']
  rw [mult_mul hx _ _ (mult_prod h2 hc).2 (mult_table h2 d).2, mult_mul hx _ _ (mult_prod h2 u).2 (mult_table h2 d').2, (mult_prod hx hc).1, (mult_prod hx u).1, (mult_table hx d).1, (mult_table hx d').1]
  have e1 : sumA (fun c => sumA (inC s p c) n) K = sumA p n := sumA_pick hs
  have e2 : sumA (fun c => sumA (fun i => inC s p c i * mult x (inC s p c i)) n) K = sumA (fun i => p i * mult x (p i)) n := by
    rw [← sumA_pick (g := fun i => p i * mult x (p i)) hs]
    refine sumA_congr fun c _ => sumA_congr fun i _ => ?_
    unfold inC
    by_cases h : s i = c
    · rw [if_pos h, if_pos h]
    · rw [if_neg h, if_neg h, Nat.zero_mul]
  have e3 : sumA (fun c => sumA (fun i => inC s p c i * mult x (inC s q c i)) n) K = sumA (fun i => p i * mult x (q i)) n := by
    rw [← sumA_pick (g := fun i => p i * mult x (q i)) hs]
    refine sumA_congr fun c _ => sumA_congr fun i _ => ?_
    unfold inC
    by_cases h : s i = c
    · rw [if_pos h, if_pos h, if_pos h]
    · rw [if_neg h, if_neg h, if_neg h, Nat.zero_mul]
  rw [e1, e2, e3]
  simp only [Int.natCast_add]
  omega
theorem merge_nat {z t : Nat → Int} {n : Nat} (hz : ∀ i, i < n → 0 ≤ z i) (ht : ∀ i, i < n → 0 ≤ t i) (c : Nat) : mergeV z t n c = (sumA (inC (fun i => (t i).toNat) (fun i => (z i).toNat) c) n : Int) := by
  refine sumA_nat fun i hi => ?_
  have h1 := hz i hi
  have h2 := ht i hi
  unfold inC
  dsimp only
  by_cases h : t i = (c : Int)
  · rw [if_pos h, if_pos (by omega)]; omega
  · rw [if_neg h, if_neg (by omega)]; rfl
theorem merge_ok {z t : Nat → Int} {n K N : Nat} (h : OkW z n) (hN : sumN z n = N) (ht : ∀ i, i < n → 0 ≤ t i ∧ (t i).toNat < K) : OkW (mergeV z t n) K ∧ sumN (mergeV z t n) K = N := by
  have e1 : sumN (mergeV z t n) K = (sumA (fun c => sumA (inC (fun i => (t i).toNat) (fun i => (z i).toNat) c) n) K : Int) := sumA_nat fun c _ => merge_nat h.nn (fun i hi => (ht i hi).1) c
  have e2 : sumA (fun c => sumA (inC (fun i => (t i).toNat) (fun i => (z i).toNat) c) n) K = sumA (fun i => (z i).toNat) n := sumA_pick fun i hi => (ht i hi).2
  have e3 : sumN z n = (sumA (fun i => (z i).toNat) n : Int) := sumA_nat fun i hi => by have := h.nn i hi; omega
  have h1 : sumN (mergeV z t n) K = N := by rw [e1, e2, ← e3, hN]
  have := h.pos
  have := h.le
  exact ⟨⟨fun c _ => (mergeV_le h.nn (Nat.le_refl n)).1, by omega, by omega⟩, h1⟩
theorem ent_prim2 {z : Nat → Int} {n N : Nat} (hz : ∀ i, i < n → 0 ≤ z i ∧ z i ≤ 4096) (hn : n ≤ 16) (hN : 1 ≤ N ∧ N ≤ 4096) : Prim fun x => sumN (entV z N x) n := by
  refine ⟨fun x => ?_, fun x hx => ?_⟩
  · have h1 := sumN_bound (f := entV z N x) (B := 200000) (n := n) (fun i hi => entV_le x (hz i hi) hN.2)
    have : (n : Int) * 200000 ≤ 3200000 := by omega
    omega
  · have aux : ∀ k, k ≤ n → sumN (entV z N x) k ≠ 0 → 2 ≤ x ∧ x ≤ 4096 ∧ Pr x.toNat := by
      intro k
      induction k with
      | zero => intro _ h; exact absurd rfl h
      | succ k ih =>
        intro hk h
        by_cases h0 : sumN (entV z N x) k = 0
        · have h1 : entV z N x k ≠ 0 := fun e => h (by simp only [sumN]; rw [h0, e]; rfl)
          have hzk := hz k (by omega)
          have hz0 : 0 < z k := by
            rcases Int.lt_or_le 0 (z k) with h2 | h2
            · exact h2
            · refine absurd ?_ h1
              unfold entV
              rw [show z k = 0 by omega]
              simp
          have hs : ∀ m : Nat, 0 < m → m ≤ 4096 → multI x m ≠ 0 → 2 ≤ x ∧ x ≤ 4096 ∧ Pr x.toNat := fun m h3 h4 h5 => by
            obtain ⟨a1, a2, a3⟩ := multI_support h3 h5
            exact ⟨a2, by omega, a1⟩
          by_cases e1 : multI x (z k).toNat = 0
          · by_cases e2 : multI x N = 0
            · refine absurd ?_ h1
              unfold entV
              rw [e1, e2]
              simp
            · exact hs N (by omega) (by omega) e2
          · exact hs _ (by omega) (by omega) e1
        · exact ih (by omega) h0
    exact aux n (Nat.le_refl _) hx
end Go.Proofs.YtofflboheiflaaaGreatDoor

/- logs.Scale by -1 over 1. -/
namespace Go.Proofs.YtofflboheiflaaaGreatDoor
open Go.RowKit Go.Maps

set_option maxRecDepth 10000 in
set_option maxHeartbeats 1000000 in
theorem lowest_back (w : World) : Calls Tryz.prog 29 #[.int .i64 (-1), .int .i64 1] w fun e w' => e = .returned (.agg #[.int .i64 (-1), .int .i64 1]) ∧ Below w.heap.size w w' := by
  have hB0 : Below w.heap.size w (w.alloc (.cells #[.int .i64 0, .int .i64 0] 26)) := (Below.refl _ _).alloc (Nat.le_refl _) _
  have hg := GCD_any (-1) 1 (w.alloc (.cells #[.int .i64 0, .int .i64 0] 26)) (by omega) (by omega) (by omega) (by omega)
  rw [show ((Int.gcd (-1) 1 : Nat) : Int) = 1 from rfl] at hg
  have HB := Hid.mk' hB0
  clear hB0
  go_enter Tryz.func29, Tryz.ntmps29
  go_wp2_with fail
  refine hg.mono ?_
  clear hg
  rintro e w1 ⟨rfl, m, rfl⟩
  go_wp2_with fail
  go_region
  go_wp2_with fail
  refine bodyPost_ret (v := .agg #[.int .i64 (-1), .int .i64 1]) (by simp [results, Tryz.results29, go_sem]) rfl ⟨rfl, ?_⟩
  exact ((below_drewN HB.out _).setCell (by simp) _).setCell (by simp) _

theorem new_below2 (w : World) (X : Obj) : Below w.heap.size w (w.alloc X) := (Below.refl _ _).alloc (Nat.le_refl _) _
theorem ownsRow_later {w w' : World} {B e size n : Nat} {v : Value} {xs : List Value} (h : w.ownsRow B e size v n xs) (hb : Below w.heap.size w w') : w'.ownsRow B e size v n xs := by
  obtain ⟨hl, hr⟩ := h
  rcases hr with h | ⟨g, cap, cur, hv, hg, hh, r⟩
  · exact ⟨hl, Or.inl h⟩
  · exact ⟨hl, Or.inr ⟨g, cap, cur, hv, hg, by rw [hb.block g (heap_lt hh)]; exact hh, r⟩⟩
/-- What scaled's second loop keeps: the row lies at N, the answer's box at Bx. -/
structure InScale (w wr : World) (N Bx : Nat) (d : Int) (n : Nat) (p c : Nat → Int) (k : Nat) : Prop where
  below : Below N w wr
  lt : N < Bx
  o0 : wr.cell? ⟨Bx, 0, none⟩ = some (.int .i64 d)
  o1 : wr.cell? ⟨Bx, 1, none⟩ = some (.slice (some ⟨N, 0, none⟩) k n)
  f0 : wr.frozen? ⟨Bx, 0, none⟩ = false
  fz : wr.frozen? ⟨Bx, 1, none⟩ = false
  row : wr.ownsRow N 64 2 (.slice (some ⟨N, 0, none⟩) k n) k (termCells p (fun i => -c i) k)
theorem InScale.later {w wr wn : World} {N Bx : Nat} {d : Int} {n : Nat} {p c : Nat → Int} {k : Nat} (h : InScale w wr N Bx d n p c k) (hb : Below wr.heap.size wr wn) : InScale w wn N Bx d n p c k :=
  ⟨h.below.trans (hb.mono (by have := cell_lt h.o0; have := h.lt; simp only at *; omega)), h.lt, (cell_past h.o0 hb).2, (cell_past h.o1 hb).2, (frozen_past h.o0 h.f0 hb).2, (frozen_past h.o1 h.fz hb).2, ownsRow_later h.row hb⟩
theorem InScale.pushed {w wr w3 : World} {N Bx : Nat} {d : Int} {n : Nat} {p c : Nat → Int} {k : Nat} (h : InScale w wr N Bx d n p c k) (hg : wr.grownBy w3 (some N)) (hrow : w3.ownsRow N 64 2 (.slice (some ⟨N, 0, none⟩) (k + 1) n) (k + 1) (termCells p (fun i => -c i) k ++ [.int .i64 (p k), .int .i64 (-c k)])) :
    w3.cell? ⟨Bx, 1, none⟩ = some (.slice (some ⟨N, 0, none⟩) k n) ∧ w3.frozen? ⟨Bx, 1, none⟩ = false ∧ InScale w (w3.setCell ⟨Bx, 1, none⟩ (.slice (some ⟨N, 0, none⟩) (k + 1) n)) N Bx d n p c (k + 1) := by
  have hlt := cell_lt h.o0
  have hNB := h.lt
  simp only at hlt
  have c0 := cell_beside hg h.o0 (by omega)
  have c1 := cell_beside hg h.o1 (by omega)
  have hblk := hg.block Bx hlt (by simp; omega)
  have f0 : w3.frozen? ⟨Bx, 0, none⟩ = false := by rw [← h.f0]; simp [World.frozen?, hblk]
  have f1 : w3.frozen? ⟨Bx, 1, none⟩ = false := by rw [← h.fz]; simp [World.frozen?, hblk]
  refine ⟨c1, f1, ⟨(h.below.grown hg (by omega) (fun j e => by cases e; exact Nat.le_refl _)).setCell (by simp; omega) _, h.lt, ?_, World.cell?_setCell_same _ _ _ c1, by simpa using f0, by simpa using f1, ?_⟩⟩
  · rw [World.cell?_setCell_other _ _ _ _ (by simp)]; exact c0
  · obtain ⟨hl, hr⟩ := hrow
    refine ⟨hl, ?_⟩
    rcases hr with hr | ⟨gg, cap, cur, hv, hg1, hh, rest⟩
    · exact Or.inl hr
    · refine Or.inr ⟨gg, cap, cur, hv, hg1, ?_, rest⟩
      have : gg = N := by simp at hv; exact hv.1.symm
      rw [Below.heap_setCell _ _ _ _ (by show gg ≠ Bx; omega)]
      exact hh
theorem inScale_start {W W3 : World} {d : Int} {n : Nat} {p c : Nat → Int} (ho : W3.ownsRow W.heap.size 64 2 (.slice (some ⟨W.heap.size, 0, none⟩) 0 n) 0 []) (hg : W.grownBy W3 none) : InScale W (W3.alloc (.cells #[.int .i64 d, .slice (some ⟨W.heap.size, 0, none⟩) 0 n] 45)) W.heap.size W3.heap.size d n p c 0 := by
  have hlt : W.heap.size < W3.heap.size := by
    rcases ho.2 with ⟨h, _⟩ | ⟨g, cap, cur, hv, _, hh, _⟩
    · cases h
    · have : W.heap.size = g := by simp at hv; exact hv.1
      rw [this]; exact heap_lt hh
  refine ⟨((Below.refl _ _).grown hg (Nat.le_refl _) (fun j e => by cases e)).alloc (by omega) _, hlt, by rw [World.cell?_alloc_at _ _ _ _ rfl]; rfl, by rw [World.cell?_alloc_at _ _ _ _ rfl]; rfl, frozen_new rfl, frozen_new rfl, ownsRow_later ho (new_below2 _ _)⟩

theorem ownAt_slice {w : World} {v : Value} {n : Nat} {p c : Nat → Int} (h : OwnAt w v n p c) : ∃ ad m cap, v = .slice ad m cap := by
  rcases h with ⟨rfl, _⟩ | ⟨g, cap, rfl, _⟩
  · exact ⟨_, _, _, rfl⟩
  · exact ⟨_, _, _, rfl⟩
theorem OwnAt.set {w : World} {v : Value} {n : Nat} {p c : Nat → Int} {B : Nat} {ad : Option Addr} {l cap : Nat} {x y : Value} (h : OwnAt w v n p c) (hn : 0 < n) (hx : w.cell? ⟨B, 1, none⟩ = some (.slice ad l cap)) : OwnAt ((w.setCell ⟨B, 0, none⟩ x).setCell ⟨B, 1, none⟩ y) v n p c := by
  rcases h with h | ⟨g, cap', rfl, ht⟩
  · exact Or.inl h
  · have hne : B ≠ g := fun e => by
      have h1 := (ht 0 hn).2
      rw [← e] at h1
      simp only [Nat.zero_mul, Nat.zero_add] at h1
      rw [hx] at h1
      cases h1
    refine Or.inr ⟨g, cap', rfl, fun i hi => ⟨?_, ?_⟩⟩
    · rw [World.cell?_setCell_far _ _ _ _ hne, World.cell?_setCell_far _ _ _ _ hne]; exact (ht i hi).1
    · rw [World.cell?_setCell_far _ _ _ _ hne, World.cell?_setCell_far _ _ _ _ hne]; exact (ht i hi).2
theorem gcd_one_any (c : Int) : ((Int.gcd 1 c : Nat) : Int) = 1 := by simp [Int.gcd]
theorem gcd_back_any (c : Int) : ((Int.gcd (-1) c : Nat) : Int) = 1 := by simp [Int.gcd]

set_option maxRecDepth 100000 in
set_option maxHeartbeats 2000000 in
theorem scaled_back (d : Int) (ad : Option Addr) (n cap : Nat) (p c : Nat → Int) (w : World) (hl : LogAt w (.slice ad n cap) n p c) (hok : OkLog d n p c) (hn0 : 0 < n) (hn : n ≤ 10000) :
    Calls Tryz.prog 76 #[.agg #[.int .i64 d, .slice ad n cap], .agg #[.int .i64 (-1), .int .i64 1]] w fun e w' => ∃ v, e = .returned (.tuple #[.agg #[.int .i64 d, v], .nilIface]) ∧ OwnAt w' v n p (fun i => -c i) ∧ Below w.heap.size w w' := by
  have hb0 : Below w.heap.size w (((w.alloc (.cells #[.int .i64 d, .slice ad n cap] 45)).alloc (.cells #[.int .i64 (-1), .int .i64 1] 26)).alloc (.cells #[.int .i64 0, .slice none 0 0] 45)) := (((Below.refl _ _).alloc (Nat.le_refl _) _).alloc (by simp) _).alloc (by simp; omega) _
  have k0 : (((w.alloc (.cells #[.int .i64 d, .slice ad n cap] 45)).alloc (.cells #[.int .i64 (-1), .int .i64 1] 26)).alloc (.cells #[.int .i64 0, .slice none 0 0] 45)).cell? ⟨w.heap.size, 0, none⟩ = some (.int .i64 d) := by rw [World.cell?_alloc_lt _ _ ⟨w.heap.size, 0, none⟩ (by simp; omega), World.cell?_alloc_lt _ _ ⟨w.heap.size, 0, none⟩ (by simp), World.cell?_alloc_at _ _ _ _ rfl]; rfl
  have k1 : (((w.alloc (.cells #[.int .i64 d, .slice ad n cap] 45)).alloc (.cells #[.int .i64 (-1), .int .i64 1] 26)).alloc (.cells #[.int .i64 0, .slice none 0 0] 45)).cell? ⟨w.heap.size, 1, none⟩ = some (.slice ad n cap) := by rw [World.cell?_alloc_lt _ _ ⟨w.heap.size, 1, none⟩ (by simp; omega), World.cell?_alloc_lt _ _ ⟨w.heap.size, 1, none⟩ (by simp), World.cell?_alloc_at _ _ _ _ rfl]; rfl
  have k2 : (((w.alloc (.cells #[.int .i64 d, .slice ad n cap] 45)).alloc (.cells #[.int .i64 (-1), .int .i64 1] 26)).alloc (.cells #[.int .i64 0, .slice none 0 0] 45)).cell? ⟨w.heap.size + 1, 0, none⟩ = some (.int .i64 (-1)) := by rw [World.cell?_alloc_lt _ _ ⟨w.heap.size + 1, 0, none⟩ (by simp), World.cell?_alloc_at _ _ _ _ (by simp)]; rfl
  have k3 : (((w.alloc (.cells #[.int .i64 d, .slice ad n cap] 45)).alloc (.cells #[.int .i64 (-1), .int .i64 1] 26)).alloc (.cells #[.int .i64 0, .slice none 0 0] 45)).cell? ⟨w.heap.size + 1, 1, none⟩ = some (.int .i64 1) := by rw [World.cell?_alloc_lt _ _ ⟨w.heap.size + 1, 1, none⟩ (by simp), World.cell?_alloc_at _ _ _ _ (by simp)]; rfl
  have k4 : (((w.alloc (.cells #[.int .i64 d, .slice ad n cap] 45)).alloc (.cells #[.int .i64 (-1), .int .i64 1] 26)).alloc (.cells #[.int .i64 0, .slice none 0 0] 45)).cell? ⟨w.heap.size + 1 + 1, 0, none⟩ = some (.int .i64 0) := by rw [World.cell?_alloc_at _ _ _ _ (by simp)]; rfl
  have k5 : (((w.alloc (.cells #[.int .i64 d, .slice ad n cap] 45)).alloc (.cells #[.int .i64 (-1), .int .i64 1] 26)).alloc (.cells #[.int .i64 0, .slice none 0 0] 45)).cell? ⟨w.heap.size + 1 + 1, 1, none⟩ = some (.slice none 0 0) := by rw [World.cell?_alloc_at _ _ _ _ (by simp)]; rfl
  have k6 : ∀ j, (((w.alloc (.cells #[.int .i64 d, .slice ad n cap] 45)).alloc (.cells #[.int .i64 (-1), .int .i64 1] 26)).alloc (.cells #[.int .i64 0, .slice none 0 0] 45)).frozen? ⟨w.heap.size + 1 + 1, j, none⟩ = false := fun j => frozen_new (by simp)
  have hz0 : w.heap.size + 1 + 1 + 1 = (((w.alloc (.cells #[.int .i64 d, .slice ad n cap] 45)).alloc (.cells #[.int .i64 (-1), .int .i64 1] 26)).alloc (.cells #[.int .i64 0, .slice none 0 0] 45)).heap.size := by simp
  generalize hW : (((w.alloc (.cells #[.int .i64 d, .slice ad n cap] 45)).alloc (.cells #[.int .i64 (-1), .int .i64 1] 26)).alloc (.cells #[.int .i64 0, .slice none 0 0] 45)) = W0 at hb0 k0 k1 k2 k3 k4 k5 k6 hz0
  have hd1 : 1 ≤ d := hok.1
  have hd6 : d ≤ 1000000 := hok.2.1
  have hg := GCD_any (-1) d W0 (by omega) (by omega) (by omega) (by omega)
  rw [gcd_back_any] at hg
  have HW := Hid.mk' hW
  have HB0 := Hid.mk' hb0
  have HL := Hid.mk' (hl.later hb0)
  have HOK := Hid.mk' hok
  have HC : Hid (∀ W, Below W0.heap.size W0 W → (W.cell? ⟨w.heap.size, 0, none⟩ = some (.int .i64 d) ∧ W.cell? ⟨w.heap.size, 1, none⟩ = some (.slice ad n cap)) ∧ (W.cell? ⟨w.heap.size + 1, 0, none⟩ = some (.int .i64 (-1)) ∧ W.cell? ⟨w.heap.size + 1, 1, none⟩ = some (.int .i64 1)) ∧ (W.cell? ⟨w.heap.size + 1 + 1, 0, none⟩ = some (.int .i64 0) ∧ W.cell? ⟨w.heap.size + 1 + 1, 1, none⟩ = some (.slice none 0 0)) ∧ W.frozen? ⟨w.heap.size + 1 + 1, 0, none⟩ = false ∧ W.frozen? ⟨w.heap.size + 1 + 1, 1, none⟩ = false) := fun W hb => ⟨⟨(cell_past k0 hb).2, (cell_past k1 hb).2⟩, ⟨(cell_past k2 hb).2, (cell_past k3 hb).2⟩, ⟨(cell_past k4 hb).2, (cell_past k5 hb).2⟩, (frozen_past k4 (k6 0) hb).2, (frozen_past k5 (k6 1) hb).2⟩
  clear hl hok hb0 hW k4 k5 k6
  go_enter Tryz.func76, Tryz.ntmps76
  go_wp2_with fail
  rw [HW.out]
  refine hg.mono ?_
  clear hg k0 k1 k2 k3
  rintro e w1 ⟨rfl, m1, hw1⟩
  have hb1 : Below W0.heap.size W0 w1 := by rw [hw1]; exact below_drewN (Below.refl _ _) _
  clear hw1
  obtain ⟨⟨k0, k1⟩, ⟨k2, k3⟩, _⟩ := HC.out w1 hb1
  have HB1 := Hid.mk' hb1
  clear hb1
  go_wp2_with fail
  clear k0 k1 k2 k3
  go_loopw [7, 27] (fun s i wr => ∃ k : Nat, k ≤ n ∧ s = .int .i64 1 ∧ i = .int .i64 k ∧ Hid (Below W0.heap.size W0 wr)) (fun _ i _ => n - (intOf i).toNat)
  case atStart => exact ⟨0, by omega, rfl, rfl, HB1⟩
  case round =>
    clear HB1
    obtain ⟨k, hk, rfl, rfl, HB⟩ := hrel
    have hk0 : (0 : Int) ≤ (k : Int) := by omega
    by_cases hlt : k < n
    · have hkI : (k : Int) < (n : Int) := by omega
      obtain ⟨b, o, rfl, y0, y1⟩ := (HL.out.later HB.out).cellsAt hlt
      obtain ⟨_, _, hc0, hc1, _⟩ := (HOK.out.2.2.1 k hlt).2
      have hgc := GCD_any 1 (c k) (wr.alloc (.cells #[.int .i64 (p k), .int .i64 (c k)] 64)) (by omega) (by omega) (by omega) (by omega)
      rw [gcd_one_any] at hgc
      have hbA := HB.out.alloc HB.out.size (.cells #[.int .i64 (p k), .int .i64 (c k)] 64)
      have HBA := Hid.mk' hbA
      clear hbA
      go_wp2_with fail
      refine hgc.mono ?_
      clear hgc
      rintro e w2 ⟨rfl, m2, hw2⟩
      have hb2 : Below W0.heap.size W0 w2 := by rw [hw2]; exact below_drewN HBA.out _
      go_wp2_with fail
      exact ⟨⟨k + 1, by omega, rfl, by go_num, below_drewN HBA.out _⟩, by simp [intOf]; omega⟩
    · obtain rfl : k = n := by omega
      obtain ⟨⟨k0, k1⟩, ⟨k2, k3⟩, ⟨k4, k5⟩, _⟩ := HC.out wr HB.out
      go_wp2_with fail
      go_quiet (fail)
      go_wp2_with fail
      have hbq : Below W0.heap.size W0 (wr.drewN nq) := below_drewN HB.out _
      generalize wr.drewN nq = W2 at hbq ⊢
      refine (size_any (-1) W2 (by omega) (by omega)).mono ?_
      rintro e w5 ⟨rfl, hw5⟩
      rw [hw5]
      clear hw5 k0 k1 k2 k3 k4 k5
      rw [show (((-1 : Int)).natAbs : Int) = 1 from rfl]
      obtain ⟨⟨k0, k1⟩, ⟨k2, k3⟩, ⟨k4, k5⟩, _⟩ := HC.out W2 hbq
      obtain ⟨i0, hi, hz0', hz1, hz2⟩ := info_parts Tryz.infoTerm
      have HINF : Hid (Tryz.prog.info? 64 = some i0 ∧ i0.zero = some (.agg #[.int .i64 0, .int .i64 0]) ∧ i0.size = 2 ∧ i0.bytes = 16) := ⟨hi, hz0', hz1, hz2⟩
      clear hi hz0' hz1 hz2
      have HBQ := Hid.mk' hbq
      have HZ : Hid (∀ w6, W2.grownBy w6 none → Below W0.heap.size W0 w6) := fun w6 hg => hbq.grown hg hbq.size (fun j e => by cases e)
      clear hbq
      go_wp2_with (at_make; go_must (refine wpList_make_own _ rfl _ _ _ rfl W2.heap.size 64 i0 _ 2 Tryz.underlying43 HINF.out.1 HINF.out.2.1 HINF.out.2.2.1 _ _ _ k rfl rfl rfl (by rw [HINF.out.2.2.2]; omega) (by unfold maxLen; omega) (Nat.le_refl _) ?_; intro w6 hown hgrow; have HIS := Hid.mk' (inScale_start (d := d) (p := p) (c := c) hown hgrow); have z1 := fun X => (HC.out (w6.alloc X) ((HZ.out w6 hgrow).alloc (HZ.out w6 hgrow).size X)).1.2; clear hown hgrow))
      clear z1 k0 k1 k2 k3 k4 k5
      go_loopw [65] (fun i wr => ∃ j : Nat, j ≤ k ∧ i = .int .i64 j ∧ Hid (InScale W2 wr W2.heap.size w6.heap.size d k p c j)) (fun i _ => k - (intOf i).toNat)
      case atStart => exact ⟨0, by omega, rfl, HIS⟩
      case round =>
        clear HIS
        obtain ⟨j, hj, rfl, HO⟩ := hrel
        have hj0 : (0 : Int) ≤ (j : Int) := by omega
        have hbW := below_chain HBQ.out HO.out.below
        have HBW := Hid.mk' hbW
        by_cases hjk : j < k
        · have hjI : (j : Int) < (k : Int) := by omega
          obtain ⟨b, o, rfl, y0, y1⟩ := (HL.out.later hbW).cellsAt hjk
          obtain ⟨_, _, hc0, hc1, _⟩ := (HOK.out.2.2.1 j hjk).2
          have hcn : ((c j).natAbs : Int) ≤ 1099511627776 := by omega
          have x1 : ∀ X, (wr.alloc X).cell? ⟨w6.heap.size, 1, none⟩ = some (.slice (some ⟨W2.heap.size, 0, none⟩) j k) := fun X => (cell_past HO.out.o1 (new_below2 _ X)).2
          have x2 : ∀ X Y, ((wr.alloc X).alloc Y).cell? ⟨w6.heap.size, 1, none⟩ = some (.slice (some ⟨W2.heap.size, 0, none⟩) j k) := fun X Y => (cell_past (x1 X) (new_below2 _ Y)).2
          have HLAT : Hid (∀ X Y, InScale W2 ((wr.alloc X).alloc Y) W2.heap.size w6.heap.size d k p c j) := fun X Y => (HO.out.later (new_below2 _ X)).later (new_below2 _ Y)
          have hsz := fun W => size_any (c j) W (by omega) (by omega)
          clear hbW
          go_wp2_with (first
            | (go_at_call 28; refine (hsz _).mono ?_; rintro e w8 ⟨rfl, hw8⟩; rw [hw8]; clear hw8)
            | (at_builtin; go_must (refine wpList_append_fits _ rfl _ _ _ rfl W2.heap.size 64 i0 2 Tryz.underlying43 HINF.out.1 HINF.out.2.2.1 W2.heap.size j k _ rfl (HLAT.out _ _).row ⟨wr.heap.size + 1, 0, none⟩ 1 1 [.int .i64 (p j), .int .i64 (-c j)] rfl rfl (fun q u h => by have := two_new (wr.alloc (.cells #[.int .i64 (p j), .int .i64 (c j)] 64)) (.int .i64 (p j)) (.int .i64 (-c j)) 64 q u h; simpa using this) (by simp [Value.oneCell']) (by omega) ?_; intro w7 hown hgrow; obtain ⟨q1, q2, HPU⟩ := (HLAT.out _ _).pushed hgrow hown; have HP := Hid.mk' HPU; clear hown hgrow HPU)))
          exact ⟨⟨j + 1, by omega, by go_num, HP⟩, by simp [intOf]; omega⟩
        · obtain rfl : j = k := by omega
          have y0 := HO.out.o0
          have y1 := HO.out.o1
          obtain ⟨_, _, ⟨k4, k5⟩, f4, f5⟩ := HC.out wr hbW
          have hq := HBQ.out.size
          clear hbW
          go_wp2_with fail
          refine bodyPost_ret (v := .tuple #[.agg #[.int .i64 d, .slice (some ⟨W2.heap.size, 0, none⟩) j j], .nilIface]) (by simp [results, Tryz.results76, go_sem, k4, k5]) rfl ⟨.slice (some ⟨W2.heap.size, 0, none⟩) j j, rfl, ?_, ?_⟩
          · have h1 := ownsRow_setCell_below HO.out.row (a := ⟨w.heap.size + 1 + 1, 0, none⟩) (by show w.heap.size + 1 + 1 < _; omega) (.int .i64 d)
            have h2 := ownsRow_setCell_below h1 (a := ⟨w.heap.size + 1 + 1, 1, none⟩) (by show w.heap.size + 1 + 1 < _; omega) (.slice (some ⟨W2.heap.size, 0, none⟩) j j)
            exact ownAt_of_row h2
          · exact ((below_chain HB0.out HBW.out).setCell (by simp; omega) _).setCell (by simp; omega) _

set_option maxRecDepth 100000 in
set_option maxHeartbeats 2000000 in
/-- Scale by -1 over 1: the opposite. -/
theorem Scale_back (d : Int) (sv : Value) (n : Nat) (p c : Nat → Int) (a : Nat → Addr) (w : World) (h : Errs w a) (hl : LogAt w sv n p c) (hok : OkLog d n p c) (hn : n ≤ 10000) :
    Calls Tryz.prog 54 #[.agg #[.int .i64 d, sv], .agg #[.int .i64 (-1), .int .i64 1]] w fun e w' => ∃ v, e = .returned (.tuple #[.agg #[.int .i64 d, v], .nilIface]) ∧ OwnAt w' v n p (fun i => -c i) ∧ Below w.heap.size w w' := by
  obtain ⟨ad, cap, rfl⟩ := hl.slice
  have hb0 : Below w.heap.size w (((w.alloc (.cells #[.int .i64 d, .slice ad n cap] 45)).alloc (.cells #[.int .i64 (-1), .int .i64 1] 26)).alloc (.cells #[.int .i64 0, .slice none 0 0] 45)) := (((Below.refl _ _).alloc (Nat.le_refl _) _).alloc (by simp) _).alloc (by simp; omega) _
  have k0 : (((w.alloc (.cells #[.int .i64 d, .slice ad n cap] 45)).alloc (.cells #[.int .i64 (-1), .int .i64 1] 26)).alloc (.cells #[.int .i64 0, .slice none 0 0] 45)).cell? ⟨w.heap.size, 0, none⟩ = some (.int .i64 d) := by rw [World.cell?_alloc_lt _ _ ⟨w.heap.size, 0, none⟩ (by simp; omega), World.cell?_alloc_lt _ _ ⟨w.heap.size, 0, none⟩ (by simp), World.cell?_alloc_at _ _ _ _ rfl]; rfl
  have k1 : (((w.alloc (.cells #[.int .i64 d, .slice ad n cap] 45)).alloc (.cells #[.int .i64 (-1), .int .i64 1] 26)).alloc (.cells #[.int .i64 0, .slice none 0 0] 45)).cell? ⟨w.heap.size, 1, none⟩ = some (.slice ad n cap) := by rw [World.cell?_alloc_lt _ _ ⟨w.heap.size, 1, none⟩ (by simp; omega), World.cell?_alloc_lt _ _ ⟨w.heap.size, 1, none⟩ (by simp), World.cell?_alloc_at _ _ _ _ rfl]; rfl
  have k2 : (((w.alloc (.cells #[.int .i64 d, .slice ad n cap] 45)).alloc (.cells #[.int .i64 (-1), .int .i64 1] 26)).alloc (.cells #[.int .i64 0, .slice none 0 0] 45)).cell? ⟨w.heap.size + 1, 0, none⟩ = some (.int .i64 (-1)) := by rw [World.cell?_alloc_lt _ _ ⟨w.heap.size + 1, 0, none⟩ (by simp), World.cell?_alloc_at _ _ _ _ (by simp)]; rfl
  have k3 : (((w.alloc (.cells #[.int .i64 d, .slice ad n cap] 45)).alloc (.cells #[.int .i64 (-1), .int .i64 1] 26)).alloc (.cells #[.int .i64 0, .slice none 0 0] 45)).cell? ⟨w.heap.size + 1, 1, none⟩ = some (.int .i64 1) := by rw [World.cell?_alloc_lt _ _ ⟨w.heap.size + 1, 1, none⟩ (by simp), World.cell?_alloc_at _ _ _ _ (by simp)]; rfl
  have k4 : (((w.alloc (.cells #[.int .i64 d, .slice ad n cap] 45)).alloc (.cells #[.int .i64 (-1), .int .i64 1] 26)).alloc (.cells #[.int .i64 0, .slice none 0 0] 45)).cell? ⟨w.heap.size + 1 + 1, 0, none⟩ = some (.int .i64 0) := by rw [World.cell?_alloc_at _ _ _ _ (by simp)]; rfl
  have k5 : (((w.alloc (.cells #[.int .i64 d, .slice ad n cap] 45)).alloc (.cells #[.int .i64 (-1), .int .i64 1] 26)).alloc (.cells #[.int .i64 0, .slice none 0 0] 45)).cell? ⟨w.heap.size + 1 + 1, 1, none⟩ = some (.slice none 0 0) := by rw [World.cell?_alloc_at _ _ _ _ (by simp)]; rfl
  have k6 : ∀ j, (((w.alloc (.cells #[.int .i64 d, .slice ad n cap] 45)).alloc (.cells #[.int .i64 (-1), .int .i64 1] 26)).alloc (.cells #[.int .i64 0, .slice none 0 0] 45)).frozen? ⟨w.heap.size + 1 + 1, j, none⟩ = false := fun j => frozen_new (by simp)
  have hz0 : w.heap.size + 1 + 1 + 1 = (((w.alloc (.cells #[.int .i64 d, .slice ad n cap] 45)).alloc (.cells #[.int .i64 (-1), .int .i64 1] 26)).alloc (.cells #[.int .i64 0, .slice none 0 0] 45)).heap.size := by simp
  generalize hW : (((w.alloc (.cells #[.int .i64 d, .slice ad n cap] 45)).alloc (.cells #[.int .i64 (-1), .int .i64 1] 26)).alloc (.cells #[.int .i64 0, .slice none 0 0] 45)) = W0 at hb0 k0 k1 k2 k3 k4 k5 k6 hz0
  have hv := Valid_log d _ n p c a true ⟨fun _ => hok, fun _ => rfl⟩ W0 (h.below hb0) (hl.later hb0) (by omega)
  simp only [shapeErr] at hv
  have HW := Hid.mk' hW
  have HB0 := Hid.mk' hb0
  have HL := Hid.mk' (hl.later hb0)
  have HOK := Hid.mk' hok
  have HC : Hid (∀ W, Below (w.heap.size + 1 + 1) W0 W → (W.cell? ⟨w.heap.size, 0, none⟩ = some (.int .i64 d) ∧ W.cell? ⟨w.heap.size, 1, none⟩ = some (.slice ad n cap)) ∧ (W.cell? ⟨w.heap.size + 1, 0, none⟩ = some (.int .i64 (-1)) ∧ W.cell? ⟨w.heap.size + 1, 1, none⟩ = some (.int .i64 1))) := fun W hb => by
    have ha : ∀ j v, W0.cell? ⟨w.heap.size, j, none⟩ = some v → W.cell? ⟨w.heap.size, j, none⟩ = some v := fun j v h => by rw [hb.cell (p := ⟨w.heap.size, j, none⟩) (by show w.heap.size < _; omega)]; exact h
    have hb' : ∀ j v, W0.cell? ⟨w.heap.size + 1, j, none⟩ = some v → W.cell? ⟨w.heap.size + 1, j, none⟩ = some v := fun j v h => by rw [hb.cell (p := ⟨w.heap.size + 1, j, none⟩) (by show w.heap.size + 1 < _; omega)]; exact h
    exact ⟨⟨ha 0 _ k0, ha 1 _ k1⟩, ⟨hb' 0 _ k2, hb' 1 _ k3⟩⟩
  have HR : Hid (∀ W, Below W0.heap.size W0 W → (W.cell? ⟨w.heap.size + 1 + 1, 0, none⟩ = some (.int .i64 0) ∧ W.cell? ⟨w.heap.size + 1 + 1, 1, none⟩ = some (.slice none 0 0)) ∧ W.frozen? ⟨w.heap.size + 1 + 1, 0, none⟩ = false ∧ W.frozen? ⟨w.heap.size + 1 + 1, 1, none⟩ = false) := fun W hb => ⟨⟨(cell_past k4 hb).2, (cell_past k5 hb).2⟩, (frozen_past k4 (k6 0) hb).2, (frozen_past k5 (k6 1) hb).2⟩
  clear h hl hok hb0 hW k2 k3 k4 k5 k6
  go_enter Tryz.func54, Tryz.ntmps54
  go_wp2_with fail
  rw [HW.out]
  refine hv.mono ?_
  clear hv k0 k1
  rintro e w1 ⟨rfl, hb1⟩
  have hb1m : Below (w.heap.size + 1 + 1) W0 w1 := hb1.mono (by omega)
  obtain ⟨⟨k0, k1⟩, ⟨k2, k3⟩⟩ := HC.out w1 hb1m
  obtain ⟨⟨r0, r1⟩, f0, f1⟩ := HR.out w1 hb1
  have HB1 := Hid.mk' hb1
  rcases Nat.eq_zero_or_pos n with h0 | hpos
  · have hd : d = 1 := by have := HOK.out; rw [h0] at this; exact (OkLog_none d p c).1 this
    subst hd
    subst h0
    clear hb1 hb1m
    go_wp2_with fail
    refine bodyPost_ret (v := .tuple #[.agg #[.int .i64 1, .slice none 0 0], .nilIface]) (by simp [results, Tryz.results54, go_sem, r0, r1]) rfl ⟨.slice none 0 0, rfl, Or.inl ⟨rfl, rfl⟩, ((below_chain HB0.out HB1.out).setCell (by simp; omega) _).setCell (by simp; omega) _⟩
  · have hnz : ((n : Int) == 0) = false := by rw [beq_eq_false_iff_ne]; omega
    have hlow := lowest_back w1.drew
    have HLOW := Hid.mk' hlow
    have hc0 : Below (w.heap.size + 1 + 1) W0 w1 := hb1m
    have hcd : Below (w.heap.size + 1 + 1) W0 w1.drew := hb1m.drew
    clear hlow hb1 hb1m
    go_wp2_with fail
    go_region_held3 (fun W => (W.cell? ⟨w.heap.size, 0, none⟩ = some (.int .i64 d) ∧ W.cell? ⟨w.heap.size, 1, none⟩ = some (.slice ad n cap)) ∧ (W.cell? ⟨w.heap.size + 1, 0, none⟩ = some (.int .i64 (-1)) ∧ W.cell? ⟨w.heap.size + 1, 1, none⟩ = some (.int .i64 1)))
      (first | exact HC.out _ hc0 | exact HC.out _ hcd | exact HC.out _ hc2 | exact HC.out _ hc3 | exact HC.out _ ((hc3.setCell (Nat.le_refl _) _).setCell (Nat.le_refl _) _))
      (first
        | (go_at_call 76; refine (scaled_back d ad n cap p c w2 (HL.out.later HBW2.out) HOK.out hpos hn).mono ?_; rintro e w3 ⟨v, rfl, hv, hb3⟩; have hbw3 := below_chain HBW2.out hb3; have hc3 : Below (w.heap.size + 1 + 1) W0 w3 := hbw3.mono (by omega); obtain ⟨ad3, m3, cap3, rfl⟩ := ownAt_slice hv; obtain ⟨⟨x0, x1⟩, g0, g1⟩ := HR.out w3 hbw3; have HV := Hid.mk' hv; have HBW3 := Hid.mk' hbw3; clear hv hb3 hbw3)
        | (go_at_call 29; refine HLOW.out.mono ?_; rintro e w2 ⟨rfl, hb2⟩; have hbw2 := below_chain HB1.out.drew hb2; have hc2 : Below (w.heap.size + 1 + 1) W0 w2 := hbw2.mono (by omega); have HBW2 := Hid.mk' hbw2; clear hb2 hbw2))
    go_wp2_with fail
    refine bodyPost_ret (v := .tuple #[.agg #[.int .i64 d, .slice ad3 m3 cap3], .nilIface]) (by simp [results, Tryz.results54, go_sem, x0, x1]) rfl ⟨.slice ad3 m3 cap3, rfl, ?_, ((below_chain HB0.out HBW3.out).setCell (by simp; omega) _).setCell (by simp; omega) _⟩
    exact HV.out.set hpos x1
end Go.Proofs.YtofflboheiflaaaGreatDoor

/- logs.Add by forms. -/
namespace Go.Proofs.YtofflboheiflaaaGreatDoor
open Go.RowKit Go.Maps

/-- A form of the sum of two. -/
structure SumIs (da db : Nat) (t1 t2 : List (Int × Int)) (d : Nat) (t : List (Int × Int)) : Prop where
  can : Canon d t
  val : ∀ x, atL t x * ((da : Int) * (db : Int)) = (atL t1 x * (db : Int) + atL t2 x * (da : Int)) * (d : Int)
  len : t.length ≤ t1.length + t2.length
/-- The sum of two is in form. -/
def SumOk (da db : Int) (t1 t2 : List (Int × Int)) (d : Nat) (t : List (Int × Int)) : Prop := OkLog da t1.length (pOf t1) (cOf t1) ∧ OkLog db t2.length (pOf t2) (cOf t2) ∧ SumIs da.toNat db.toNat t1 t2 d t ∧ d ≤ 1000000 ∧ ∀ e ∈ t, e.2.natAbs ≤ 1099511627776
theorem SumOk.ok {da db : Int} {t1 t2 : List (Int × Int)} {d : Nat} {t : List (Int × Int)} (h : SumOk da db t1 t2 d t) : OkLog d t.length (pOf t) (cOf t) := by
  obtain ⟨h1, h2, h3, h4, h5⟩ := h
  have hp := h3.can.pos
  refine okLog_list h3.can.rise (fun e he => ?_) (by omega) (by omega) ?_
  · have hv := h3.val e.1
    rw [atL_mem h3.can.rise he] at hv
    have hnz := h3.can.nz e he
    have hb := h5 e he
    have hda : 0 < da.toNat := by have := h1.1; omega
    have hdb : 0 < db.toNat := by have := h2.1; omega
    have hpr : TermOk e.1 e.2 ∨ (atL t1 e.1 = 0 ∧ atL t2 e.1 = 0) := by
      by_cases q1 : atL t1 e.1 = 0
      · by_cases q2 : atL t2 e.1 = 0
        · exact Or.inr ⟨q1, q2⟩
        · have := h2.mem _ (atL_some q2)
          exact Or.inl ⟨this.1, hnz, by omega, by omega, this.2.2.2.2.1, this.2.2.2.2.2⟩
      · have := h1.mem _ (atL_some q1)
        exact Or.inl ⟨this.1, hnz, by omega, by omega, this.2.2.2.2.1, this.2.2.2.2.2⟩
    rcases hpr with h | ⟨q1, q2⟩
    · exact h
    · rw [q1, q2] at hv
      exfalso
      have h6 : e.2 * ((da.toNat : Int) * (db.toNat : Int)) = 0 := by rw [hv]; simp
      rcases Int.mul_eq_zero.1 h6 with h7 | h7
      · exact hnz h7
      · rcases Int.mul_eq_zero.1 h7 with h8 | h8 <;> omega
  · rw [gcdTo_list _ _ _ (Nat.le_refl _), List.take_length, Int.natAbs_natCast]
    exact h3.can.one
theorem SumOk.uniq {da db : Int} {t1 t2 : List (Int × Int)} {d d' : Nat} {t t' : List (Int × Int)} (h : SumOk da db t1 t2 d t) (h' : SumOk da db t1 t2 d' t') : d = d' ∧ t = t' := by
  have hda : 0 < da.toNat := by have := h.1.1; omega
  have hdb : 0 < db.toNat := by have := h.2.1.1; omega
  refine canon_uniq h.2.2.1.can h'.2.2.1.can (fun x => ?_)
  have h1 := h.2.2.1.val x
  have h2 := h'.2.2.1.val x
  have hp : ((da.toNat : Int) * (db.toNat : Int)) ≠ 0 := by
    intro h0
    rcases Int.mul_eq_zero.1 h0 with h3 | h3 <;> omega
  refine Int.eq_of_mul_eq_mul_right hp ?_
  generalize (da.toNat : Int) * (db.toNat : Int) = M at *
  grind
theorem SumOk.comm {da db : Int} {t1 t2 : List (Int × Int)} {d : Nat} {t : List (Int × Int)} (h : SumOk da db t1 t2 d t) : SumOk db da t2 t1 d t :=
  ⟨h.2.1, h.1, ⟨h.2.2.1.can, fun x => by rw [Int.mul_comm (db.toNat : Int), h.2.2.1.val x, Int.add_comm], by have := h.2.2.1.len; omega⟩, h.2.2.2⟩
/-- In any brackets. -/
theorem SumOk.assoc {da db dc : Int} {ta tb tc tx tp tq tr : List (Int × Int)} {dx dp dq dr : Nat} (h1 : SumOk da db ta tb dx tx) (h2 : SumOk dx dc tx tc dp tp) (h3 : SumOk db dc tb tc dq tq) (h4 : SumOk da dq ta tq dr tr) : dp = dr ∧ tp = tr := by
  refine canon_uniq h2.2.2.1.can h4.2.2.1.can (fun x => ?_)
  have e1 := h1.2.2.1.val x
  have e2 := h2.2.2.1.val x
  have e3 := h3.2.2.1.val x
  have e4 := h4.2.2.1.val x
  have pa : (da.toNat : Int) ≠ 0 := by have := h1.1.1; omega
  have pb : (db.toNat : Int) ≠ 0 := by have := h1.2.1.1; omega
  have pc : (dc.toNat : Int) ≠ 0 := by have := h2.2.1.1; omega
  have px : (dx : Int) ≠ 0 := by have := h1.2.2.1.can.pos; omega
  have pq : (dq : Int) ≠ 0 := by have := h3.2.2.1.can.pos; omega
  rw [Int.toNat_natCast] at e2 e4
  generalize (da.toNat : Int) = A at *
  generalize (db.toNat : Int) = B at *
  generalize (dc.toNat : Int) = C at *
  generalize (dx : Int) = X at *
  generalize (dp : Int) = P at *
  generalize (dq : Int) = Q at *
  generalize (dr : Int) = R at *
  generalize atL tx x = x' at *
  generalize atL tp x = p' at *
  generalize atL tq x = q' at *
  generalize atL tr x = r' at *
  generalize atL ta x = a' at *
  generalize atL tb x = b' at *
  generalize atL tc x = c' at *
  have f1 : p' * (A * B * C) * X = (a' * B * C + b' * A * C + c' * A * B) * P * X := by grind
  have f2 : r' * (A * B * C) * Q = (a' * B * C + b' * A * C + c' * A * B) * R * Q := by grind
  have f3 := Int.eq_of_mul_eq_mul_right px f1
  have f4 := Int.eq_of_mul_eq_mul_right pq f2
  have hM : A * B * C ≠ 0 := by
    intro h0
    rcases Int.mul_eq_zero.1 h0 with h5 | h5
    · rcases Int.mul_eq_zero.1 h5 with h6 | h6
      · exact pa h6
      · exact pb h6
    · exact pc h5
  refine Int.eq_of_mul_eq_mul_right hM ?_
  generalize A * B * C = M at *
  generalize a' * B * C + b' * A * C + c' * A * B = S at *
  calc p' * R * M = p' * M * R := by rw [Int.mul_right_comm]
    _ = S * P * R := by rw [f3]
    _ = S * R * P := by rw [Int.mul_right_comm]
    _ = r' * M * P := by rw [f4]
    _ = r' * P * M := by rw [Int.mul_right_comm]

/-- Add, by forms. -/
theorem Add_all (da db : Int) (v1 v2 : Value) (t1 t2 : List (Int × Int)) (a : Nat → Addr) (w : World) (h : Errs w a) (hl1 : LogAt w v1 t1.length (pOf t1) (cOf t1)) (hl2 : LogAt w v2 t2.length (pOf t2) (cOf t2)) (hn : t1.length + t2.length ≤ 10000) :
    Calls Tryz.prog 55 #[.agg #[.int .i64 da, v1], .agg #[.int .i64 db, v2]] w fun e w' => ((∃ d t v, SumOk da db t1 t2 d t ∧ e = .returned (.tuple #[.agg #[.int .i64 (d : Nat), v], .nilIface]) ∧ ListAt w' v t) ∨ ((∀ d t, ¬ SumOk da db t1 t2 d t) ∧ ∃ ad, e = .returned (.tuple #[.agg #[.int .i64 0, .slice none 0 0], .iface 179 (.pointer (some ad))]))) ∧ Below w.heap.size w w' := by
  by_cases hok : OkLog da t1.length (pOf t1) (cOf t1) ∧ OkLog db t2.length (pOf t2) (cOf t2)
  · obtain ⟨hok1, hok2⟩ := hok
    obtain ⟨na, rfl⟩ := Int.eq_ofNat_of_zero_le (show 0 ≤ da by have := hok1.1; omega)
    obtain ⟨nb, rfl⟩ := Int.eq_ofNat_of_zero_le (show 0 ≤ db by have := hok2.1; omega)
    have pa : 0 < na := by have := hok1.1; omega
    have pb : 0 < nb := by have := hok2.1; omega
    obtain ⟨ad1, cap1, rfl⟩ := hl1.slice
    obtain ⟨ad2, cap2, rfl⟩ := hl2.slice
    refine (Add_any na nb ad1 ad2 cap1 cap2 t1 t2 a w h hl1 hl2 hok1 hok2 hn _ rfl).mono ?_
    rintro e w' ⟨⟨l, G, hr, hv, hG, hlen, hres⟩, hb⟩
    obtain ⟨s1, s2, s3, s4⟩ := sum_value rfl pa pb hr hv hG
    have hs : SumIs na nb t1 t2 (na / Int.gcd (na : Int) (nb : Int) * nb / G) (overL G l) := ⟨s1, s3, Nat.le_trans (length_over l G) hlen⟩
    refine ⟨?_, hb⟩
    rcases hres with ⟨hf, v, rfl, hlist⟩ | ⟨hf, rfl⟩
    · refine Or.inl ⟨_, _, v, ⟨hok1, hok2, by simpa using hs, s4.1 hf⟩, by rw [s2], hlist⟩
    · refine Or.inr ⟨fun d t hso => hf (s4.2 ?_), a 1, rfl⟩
      have hs' : SumIs (na : Int).toNat (nb : Int).toNat t1 t2 _ _ := hso.2.2.1
      rw [Int.toNat_natCast, Int.toNat_natCast] at hs'
      obtain ⟨u1, u2⟩ := canon_uniq hs.can hs'.can (fun x => by
        have q1 := hs.val x
        have q2 := hs'.val x
        have hp : ((na : Int) * (nb : Int)) ≠ 0 := by
          intro h0
          rcases Int.mul_eq_zero.1 h0 with h3 | h3 <;> omega
        refine Int.eq_of_mul_eq_mul_right hp ?_
        generalize (na : Int) * (nb : Int) = M at *
        grind)
      rw [u1, u2]
      exact hso.2.2.2
  · refine (Add_shape da db v1 v2 _ _ _ _ _ _ a w h hl1 hl2 (by omega) (by omega) hok).mono ?_
    rintro e w' ⟨rfl, hb⟩
    exact ⟨Or.inr ⟨fun d t hso => hok ⟨hso.1, hso.2.1⟩, a 2, rfl⟩, hb⟩
end Go.Proofs.YtofflboheiflaaaGreatDoor

/- The law's helper sign, of two that are told of sums. -/
namespace Go.Proofs.YtofflboheiflaaaGreatDoor
open Go.RowKit

theorem okTo_neg {p c : Nat → Int} : ∀ k, OkTo p c k → OkTo p (fun i => -c i) k := by
  intro k h i hi
  obtain ⟨h1, h2, h3, h4, h5, h6, h7⟩ := h i hi
  exact ⟨h1, h2, by show -c i ≠ 0; omega, by show _ ≤ -c i; omega, by show -c i ≤ _; omega, h6, h7⟩
theorem gcdTo_neg (d : Int) (c : Nat → Int) : ∀ k, gcdTo d (fun i => -c i) k = gcdTo d c k
  | 0 => rfl
  | k + 1 => by
    show Int.gcd (gcdTo d (fun i => -c i) k : Int) (-c k) = Int.gcd (gcdTo d c k : Int) (c k)
    rw [gcdTo_neg d c k, Int.gcd_neg]
theorem okLog_neg {d : Int} {n : Nat} {p c : Nat → Int} (h : OkLog d n p c) : OkLog d n p (fun i => -c i) :=
  ⟨h.1, h.2.1, okTo_neg n h.2.2.1, by rw [gcdTo_neg]; exact h.2.2.2⟩
def negL (t : List (Int × Int)) : List (Int × Int) := t.map fun e => (e.1, -e.2)
theorem negL_parts (t : List (Int × Int)) : pOf (negL t) = pOf t ∧ cOf (negL t) = (fun i => -cOf t i) ∧ (negL t).length = t.length := by
  refine ⟨?_, ?_, by simp [negL]⟩
  · funext i
    unfold pOf negL
    simp only [List.getD_eq_getElem?_getD, List.getElem?_map]
    cases t[i]? <;> rfl
  · funext i
    unfold cOf negL
    simp only [List.getD_eq_getElem?_getD, List.getElem?_map]
    cases t[i]? <;> rfl
theorem negL_at : ∀ (t : List (Int × Int)) (x : Int), atL (negL t) x = -atL t x
  | [], _ => rfl
  | e :: r, x => by
    have ih := negL_at r x
    unfold negL at ih ⊢
    simp only [List.map_cons, atL]
    rw [ih]
    split <;> simp
theorem ownAt_put {w : World} {v : Value} {n : Nat} {p c : Nat → Int} {B : Nat} {ad : Option Addr} {l cap : Nat} {x y : Value} (h : OwnAt w v n p c) (hx : w.cell? ⟨B, 1, none⟩ = some (.slice ad l cap)) : OwnAt ((w.setCell ⟨B, 0, none⟩ x).setCell ⟨B, 1, none⟩ y) v n p c := by
  rcases Nat.eq_zero_or_pos n with h0 | h0
  · subst h0
    rcases h with h | ⟨g, cap, hv, _⟩
    · exact Or.inl h
    · exact Or.inr ⟨g, cap, hv, fun i hi => by omega⟩
  · exact h.set h0 hx
/-- The sides of a difference. -/
theorem by_sides2 {d M U D : Nat} {t : List (Int × Int)} {F : Int → Int} (hok : OkLog d t.length (pOf t) (cOf t)) (hv : ∀ x, (M : Int) * atL t x = (d : Int) * F x) (hU : 0 < U) (hD : 0 < D) (hm : ∀ q : Nat, Pr q → F (q : Int) = (mult q U : Int) - (mult q D : Int)) :
    sideUp (pOf t) (cOf t) 1 t.length ^ M * D ^ d = sideDown (pOf t) (cOf t) 1 t.length ^ M * U ^ d ∧ 0 < sideUp (pOf t) (cOf t) 1 t.length ∧ 0 < sideDown (pOf t) (cOf t) 1 t.length := by
  have h2 : Pr 2 := ⟨by omega, fun d hd hdd => by have := Nat.mul_le_mul hd hd; omega⟩
  obtain ⟨_, a1, a2⟩ := hok.side 1 h2
  refine ⟨eq_of_mult _ _ (Nat.mul_pos (Nat.pow_pos a1) (Nat.pow_pos hD)) (Nat.mul_pos (Nat.pow_pos a2) (Nat.pow_pos hU)) (fun q hq => ?_), a1, a2⟩
  have e1 := (hok.side 1 hq).1
  have e2 := hv (q : Int)
  rw [hm q hq] at e2
  rw [mult_mul hq _ _ (Nat.pow_pos a1) (Nat.pow_pos hD), mult_mul hq _ _ (Nat.pow_pos a2) (Nat.pow_pos hU), mult_power hq a1, mult_power hq a2, mult_power hq hD, mult_power hq hU]
  generalize mult q (sideUp (pOf t) (cOf t) 1 t.length) = A at *
  generalize mult q (sideDown (pOf t) (cOf t) 1 t.length) = B at *
  generalize mult q U = u at *
  generalize mult q D = e at *
  generalize atL t (q : Int) = z at *
  apply Int.ofNat_inj.1
  simp only [Int.natCast_add, Int.natCast_mul]
  have h3 : (A : Int) = B + z := by omega
  rw [h3]
  grind
theorem cmp_ge {su sd M d U D : Nat} (h : su ^ M * D ^ d = sd ^ M * U ^ d) (hM : 0 < M) (h1 : 0 < su) (h2 : 0 < sd) (hU : 0 < U) (hle : D ≤ U) : 0 ≤ cmpOf su sd := by
  obtain ⟨_, o2, o3⟩ := sides_order h (Nat.pow_pos h1) (Nat.pow_pos h2)
  have hp := Nat.pow_le_pow_left hle d
  rcases Nat.lt_or_ge (D ^ d) (U ^ d) with h3 | h3
  · have := (pow_order hM).1 (o2 h3)
    rw [cmpOf_gt this]
    decide
  · have := (pow_order hM).2 (o3 (by omega) (Nat.pow_pos hU))
    rw [cmpOf_eq this]
    decide
theorem diff_val {M G1 G2 e1 e2 d : Nat} {t1 t2 t : List (Int × Int)} {f1 f2 : Int → Int} (hM1 : M = G1 * e1) (hM2 : M = G2 * e2) (hM : 0 < M) (v1 : ∀ x, f1 x = (G1 : Int) * atL t1 x) (v2 : ∀ x, f2 x = (G2 : Int) * atL t2 x) (hs : ∀ x, atL t x * ((e1 : Int) * (e2 : Int)) = (atL t1 x * (e2 : Int) + atL (negL t2) x * (e1 : Int)) * (d : Int)) : ∀ x, (M : Int) * atL t x = (d : Int) * (f1 x - f2 x) := fun x => by
  have h := hs x
  rw [negL_at] at h
  rw [v1 x, v2 x]
  have m1 : (M : Int) = (G1 : Int) * (e1 : Int) := by rw [hM1]; simp
  have m2 : (M : Int) = (G2 : Int) * (e2 : Int) := by rw [hM2]; simp
  generalize atL t x = T at *
  generalize atL t1 x = A at *
  generalize atL t2 x = B at *
  refine Int.eq_of_mul_eq_mul_left (show (M : Int) ≠ 0 by omega) ?_
  have k1 : (M : Int) * ((M : Int) * T) = (G1 : Int) * (G2 : Int) * (T * ((e1 : Int) * (e2 : Int))) := by
    calc (M : Int) * ((M : Int) * T) = ((G1 : Int) * (e1 : Int)) * (((G2 : Int) * (e2 : Int)) * T) := by rw [← m1, ← m2]
      _ = _ := by grind
  rw [k1, h]
  have k2 : (M : Int) * ((d : Int) * ((G1 : Int) * A - (G2 : Int) * B)) = (d : Int) * ((G1 : Int) * A * (M : Int) - (G2 : Int) * B * (M : Int)) := by grind
  rw [k2]
  have k3 : (G1 : Int) * A * (M : Int) = (G1 : Int) * A * ((G2 : Int) * (e2 : Int)) := by rw [← m2]
  have k4 : (G2 : Int) * B * (M : Int) = (G2 : Int) * B * ((G1 : Int) * (e1 : Int)) := by rw [← m1]
  rw [k3, k4]
  grind

set_option maxRecDepth 100000 in
set_option maxHeartbeats 2000000 in
theorem sign_by {M b1 b2 : Nat} {f1 f2 : Int → Int} {d1 d2 : Int} {v1 v2 : Value} {U D : Nat} (a : Nat → Addr) (w : World) (hE : Errs w a) (h1 : LogBy b1 M f1 w d1 v1) (h2 : LogBy b2 M f2 w d2 v2) (hM : 1 ≤ M) (hM6 : M ≤ 1000000) (p1 : Prim f1) (p2 : Prim f2) (hU : 0 < U) (hD : 0 < D) (hm : ∀ q : Nat, Pr q → f1 (q : Int) - f2 (q : Int) = (mult q U : Int) - (mult q D : Int)) (hle : D ≤ U) :
    Calls Tryz.prog 23 #[.agg #[.int .i64 d1, v1], .agg #[.int .i64 d2, v2]] w fun e w' => (∃ z : Int, 0 ≤ z ∧ e = .returned (.int .i64 z)) ∧ Below w.heap.size w w' := by
  obtain ⟨t1, e1, G1, rfl, l1, n1, m1, g1, w1', o1⟩ := h1.ok hM hM6 p1
  obtain ⟨t2, e2, G2, rfl, l2, n2, m2, g2, w2', o2⟩ := h2.ok hM hM6 p2
  obtain ⟨ad1, k1, cap1, rfl⟩ := h1.form
  obtain ⟨ad2, k2, cap2, rfl⟩ := h2.form
  clear h1 h2
  obtain ⟨W0, hW0⟩ : ∃ W0, W0 = (w.alloc (.cells #[.int .i64 (e1 : Int), .slice ad1 k1 cap1] 45)).alloc (.cells #[.int .i64 (e2 : Int), .slice ad2 k2 cap2] 45) := ⟨_, rfl⟩
  have hb0 : Below w.heap.size w W0 := by rw [hW0]; exact below_chain (new_below _ _) (new_below _ _)
  have HC0 : Hid (∀ W, Below W0.heap.size W0 W → (W.cell? ⟨w.heap.size, 0, none⟩ = some (.int .i64 (e1 : Int)) ∧ W.cell? ⟨w.heap.size, 1, none⟩ = some (.slice ad1 k1 cap1)) ∧ (W.cell? ⟨w.heap.size + 1, 0, none⟩ = some (.int .i64 (e2 : Int)) ∧ W.cell? ⟨w.heap.size + 1, 1, none⟩ = some (.slice ad2 k2 cap2))) := fun W hb => by
    have hr := hb
    rw [hW0] at hr
    have r2 := res_past hr
    rw [World.size_alloc] at r2
    have r1 := res_past (w := w) (below_chain (new_below _ _) hr)
    exact ⟨⟨r1.1, r1.2.1⟩, r2.1, r2.2.1⟩
  have hsc := Scale_back (e2 : Int) (.slice ad2 k2 cap2) t2.length (pOf t2) (cOf t2) a W0 (hE.below hb0) (listAt_log (l2.later hb0)) o2 (by omega)
  obtain ⟨np, nc, nl⟩ := negL_parts t2
  have o2' : OkLog e2 (negL t2).length (pOf (negL t2)) (cOf (negL t2)) := by rw [np, nc, nl]; exact okLog_neg o2
  have HAD : Hid (∀ (W : World) (v : Value), Below W0.heap.size W0 W → OwnAt W v t2.length (pOf t2) (fun i => -cOf t2 i) → Calls Tryz.prog 55 #[.agg #[.int .i64 (e1 : Int), .slice ad1 k1 cap1], .agg #[.int .i64 (e2 : Int), v]] W fun e w' => ((∃ d t v, SumOk e1 e2 t1 (negL t2) d t ∧ e = .returned (.tuple #[.agg #[.int .i64 (d : Nat), v], .nilIface]) ∧ ListAt w' v t) ∨ ∃ ad, e = .returned (.tuple #[.agg #[.int .i64 0, .slice none 0 0], .iface 179 (.pointer (some ad))])) ∧ Below W.heap.size W w') := fun W v hb hv => by
    have hv' : ListAt W v (negL t2) := by unfold ListAt; rw [np, nc, nl]; exact hv
    refine (Add_all e1 e2 _ v t1 (negL t2) a W (hE.below (below_chain hb0 hb)) (listAt_log ((l1.later hb0).later hb)) (listAt_log hv') (by omega)).mono ?_
    rintro e w' ⟨h | ⟨_, h⟩, hb'⟩
    · exact ⟨Or.inl h, hb'⟩
    · exact ⟨Or.inr h, hb'⟩
  have HSG : Hid (∀ (W : World) (d : Nat) (t : List (Int × Int)) (v : Value), Below W0.heap.size W0 W → SumOk e1 e2 t1 (negL t2) d t → ListAt W v t → Calls Tryz.prog 56 #[.agg #[.int .i64 (d : Int), v]] W fun e w' => ((∃ z : Int, 0 ≤ z ∧ e = .returned (.tuple #[.int .i64 z, .nilIface])) ∨ ∃ ad, e = .returned (.tuple #[.int .i64 0, .iface 179 (.pointer (some ad))])) ∧ Below W.heap.size W w') := fun W d t v hb hs hl => by
    have hok := hs.ok
    have hval := hs.2.2.1.val
    have hlen := hs.2.2.1.len
    simp only [Int.toNat_natCast] at hval
    have hd := diff_val m1 m2 hM w1' w2' hval
    obtain ⟨s1, s2, s3⟩ := by_sides2 hok hd hU hD hm
    have hc := cmp_ge s1 hM s2 s3 hU hle
    by_cases hfit : cost (pOf t) (cOf t) t.length ≤ 40000
    · refine (Sign_log d v t.length (pOf t) (cOf t) a true true (by simpa using hok) (by simpa using hfit) W (hE.below (below_chain hb0 hb)) (listAt_log hl) (by omega)).mono ?_
      rintro e w' ⟨rfl, hb'⟩
      exact ⟨Or.inl ⟨_, hc, rfl⟩, hb'⟩
    · refine (Sign_log d v t.length (pOf t) (cOf t) a true false (by simpa using hok) (by simpa using hfit) W (hE.below (below_chain hb0 hb)) (listAt_log hl) (by omega)).mono ?_
      rintro e w' ⟨rfl, hb'⟩
      exact ⟨Or.inr ⟨_, rfl⟩, hb'⟩
  have HB0 := Hid.mk' hb0
  have HW0 := Hid.mk' hW0
  have c00 := HC0.out W0 (Below.refl _ _)
  obtain ⟨⟨x0, x1⟩, y0, y1⟩ := c00
  clear hE hb0 hW0 o1 o2 o2' l1 l2 w1' w2' hm hle np nc nl
  go_enter Tryz.func23, Tryz.ntmps23
  go_upto_region 1 with fail
  rw [← HW0.out]
  go_wp2_with fail
  refine hsc.mono ?_
  clear hsc x0 x1 y0 y1
  rintro e w1 ⟨v1, rfl, hv1, hb1⟩
  obtain ⟨ad3, k3, cap3, rfl⟩ := ownAt_slice hv1
  obtain ⟨W1, hW1⟩ : ∃ W1, W1 = w1.alloc (.cells #[.int .i64 (e2 : Int), .slice ad3 k3 cap3] 45) := ⟨_, rfl⟩
  have hb01 : Below W0.heap.size W0 W1 := by rw [hW1]; exact below_chain hb1 (new_below _ _)
  have hv1' : OwnAt W1 (.slice ad3 k3 cap3) t2.length (pOf t2) (fun i => -cOf t2 i) := by rw [hW1]; exact hv1.later (new_below _ _)
  have HC1 : Hid (∀ W, Below W1.heap.size W1 W → W.cell? ⟨w1.heap.size, 0, none⟩ = some (.int .i64 (e2 : Int)) ∧ W.cell? ⟨w1.heap.size, 1, none⟩ = some (.slice ad3 k3 cap3) ∧ W.frozen? ⟨w1.heap.size, 0, none⟩ = false ∧ W.frozen? ⟨w1.heap.size, 1, none⟩ = false) := fun W hb => by
    rw [hW1] at hb
    exact res_past hb
  have hB1 : W0.heap.size ≤ w1.heap.size := hb1.size
  have had := HAD.out W1 _ hb01 hv1'
  obtain ⟨⟨x0, x1⟩, _, _⟩ := HC0.out W1 hb01
  obtain ⟨y0, y1, _, _⟩ := HC1.out W1 (Below.refl _ _)
  have HW1 := Hid.mk' hW1
  have HB01 := Hid.mk' hb01
  clear hv1 hb1 hv1' hb01 hW1 HAD
  go_upto_region 2 with fail
  rw [← HW1.out]
  clear HW1
  go_wp2_with fail
  refine had.mono ?_
  clear had x0 x1 y0 y1
  rintro e w2 ⟨⟨d, t, v2, hs, rfl, hl2⟩ | ⟨ad, rfl⟩, hb2⟩
  · obtain ⟨ad4, k4, cap4, rfl⟩ := ownAt_slice hl2
    obtain ⟨z0, z1, f0, f1⟩ := HC1.out w2 hb2
    obtain ⟨W2, hW2⟩ : ∃ W2, W2 = (w2.setCell ⟨w1.heap.size, 0, none⟩ (.int .i64 (d : Int))).setCell ⟨w1.heap.size, 1, none⟩ (.slice ad4 k4 cap4) := ⟨_, rfl⟩
    have hb02 : Below W0.heap.size W0 W2 := by rw [hW2]; exact ((below_chain HB01.out hb2).setCell hB1 _).setCell hB1 _
    have hl2' : ListAt W2 (.slice ad4 k4 cap4) t := by rw [hW2]; exact ownAt_put hl2 z1
    have q0 : W2.cell? ⟨w1.heap.size, 0, none⟩ = some (.int .i64 (d : Int)) := by
      rw [hW2, World.cell?_setCell_other _ _ _ _ (by simp)]
      exact World.cell?_setCell_same _ _ _ z0
    have q1 : W2.cell? ⟨w1.heap.size, 1, none⟩ = some (.slice ad4 k4 cap4) := by
      rw [hW2]
      exact World.cell?_setCell_same _ _ _ (by rw [World.cell?_setCell_other _ _ _ _ (by simp)]; exact z1)
    have hsg := HSG.out W2 d t _ hb02 hs hl2'
    have HB2 := Hid.mk' (below_chain HB0.out hb02)
    have HW2 := Hid.mk' hW2
    clear hs hl2 hb2 hb02 hl2' hW2 HSG HC0
    go_upto_region 5 with fail
    rw [← HW2.out]
    clear HW2 z0 z1 f0 f1
    go_wp2_with fail
    refine hsg.mono ?_
    clear hsg
    rintro e w3 ⟨⟨z, hz, rfl⟩ | ⟨ad, rfl⟩, hb3⟩
    · have HB3 := Hid.mk' (below_chain HB2.out hb3)
      clear hb3
      go_wp2_with fail
      go_ret
      exact ⟨⟨z, hz, rfl⟩, HB3.out⟩
    · have HB3 := Hid.mk' (below_chain HB2.out hb3)
      clear hb3
      go_wp2_with fail
      go_ret
      exact ⟨⟨2, by omega, rfl⟩, HB3.out⟩
  · obtain ⟨z0, z1, f0, f1⟩ := HC1.out w2 hb2
    have HB2 := Hid.mk' (below_chain (below_chain HB0.out HB01.out) hb2)
    have hB1' : w.heap.size ≤ w1.heap.size := by have := HB0.out.size; omega
    clear hb2 HSG HC0
    go_wp2_with fail
    go_ret
    exact ⟨⟨2, by omega, rfl⟩, (HB2.out.setCell hB1' _).setCell hB1' _⟩
end Go.Proofs.YtofflboheiflaaaGreatDoor

/- dist.Divergence at right pairs. -/
namespace Go.Proofs.YtofflboheiflaaaGreatDoor
open Go.RowKit Go.Maps

/-- Is a chance of q 0 where p's is not? -/
def zeroB (p q : Nat → Int) : Nat → Bool
  | 0 => false
  | k + 1 => zeroB p q k || (decide (0 < p k) && decide (q k = 0))
theorem zeroB_iff (p q : Nat → Int) : ∀ n, zeroB p q n = true ↔ ∃ i, i < n ∧ 0 < p i ∧ q i = 0
  | 0 => by simp [zeroB]
  | n + 1 => by
    have ih := zeroB_iff p q n
    simp only [zeroB, Bool.or_eq_true, Bool.and_eq_true, decide_eq_true_eq, ih]
    constructor
    · rintro (⟨i, h1, h2⟩ | h)
      · exact ⟨i, by omega, h2⟩
      · exact ⟨n, by omega, h⟩
    · rintro ⟨i, h1, h2⟩
      rcases Nat.lt_or_ge i n with h | h
      · exact Or.inl ⟨i, h, h2⟩
      · obtain rfl : i = n := by omega
        exact Or.inr h2
/-- Two numbers in boxes. -/
structure TwoNums (W0 W : World) (B1 B2 : Nat) (x y : Int) : Prop where
  below : Below W0.heap.size W0 W
  c1 : W.cell? ⟨B1, 0, none⟩ = some (.int .i64 x)
  c2 : W.cell? ⟨B2, 0, none⟩ = some (.int .i64 y)

theorem twoNums_a (W0 : World) (x y : Int) (t : TypeId) : TwoNums W0 ((W0.alloc (.cells #[.int .i64 x] t)).alloc (.cells #[.int .i64 y] t)).drew W0.heap.size (W0.heap.size + 1) x y :=
  ⟨(below_chain (new_below _ _) (new_below _ _)).drew, new_one (new_below _ _).drew, by
    show ((W0.alloc (.cells #[.int .i64 x] t)).alloc (.cells #[.int .i64 y] t)).cell? _ = _
    rw [World.cell?_alloc_at _ _ _ _ (by simp)]; rfl⟩
theorem twoNums_b (W0 : World) (x y : Int) (t : TypeId) : TwoNums W0 ((W0.alloc (.cells #[.int .i64 y] t)).alloc (.cells #[.int .i64 x] t)).drew (W0.heap.size + 1) W0.heap.size x y :=
  ⟨(below_chain (new_below _ _) (new_below _ _)).drew, by
    show ((W0.alloc (.cells #[.int .i64 y] t)).alloc (.cells #[.int .i64 x] t)).cell? _ = _
    rw [World.cell?_alloc_at _ _ _ _ (by simp)]; rfl, new_one (new_below _ _).drew⟩

set_option maxRecDepth 100000 in
set_option maxHeartbeats 4000000 in
theorem Divergence_right (a : Nat → Addr) (b o cap b' o' cap' n P Q : Nat) (p q : Nat → Int) (w : World) (hE : Errs w a) (h : RowAt w b o n p) (k : RowAt w b' o' n q) (h0 : twoErr p n q n = 0) (hP : sumN p n = P) (hQ : sumN q n = Q) :
    Calls Tryz.prog 14 #[.slice (some ⟨b, o, none⟩) n cap, .slice (some ⟨b', o', none⟩) n cap'] w fun e w' => ((zeroB p q n = true ∧ e = .returned (.tuple #[.agg #[.int .i64 0, .slice none 0 0], errV a 4])) ∨ (zeroB p q n = false ∧ ∃ dn v, e = .returned (.tuple #[.agg #[.int .i64 dn, v], .nilIface]) ∧ LogBy w.heap.size P (fun x => sumN (divV p q P Q x) n) w' dn v)) ∧ Below w.heap.size w w' := by
  obtain ⟨_, hn, hok1, hok2⟩ := twoErr_ok h0
  have h0n := hok1.posN
  have hP1 : 1 ≤ P ∧ P ≤ 4096 := by have := hok1.pos; have := hok1.le; omega
  have hQ1 : 1 ≤ Q ∧ Q ≤ 4096 := by have := hok2.pos; have := hok2.le; omega
  obtain ⟨W0, hW0⟩ : ∃ W0, W0 = ((w.alloc (.cells #[.slice (some ⟨b, o, none⟩) n cap] 22)).alloc (.cells #[.slice (some ⟨b', o', none⟩) n cap'] 22)).alloc (.cells #[.int .i64 0, .slice none 0 0] 45) := ⟨_, rfl⟩
  have hb0 : Below w.heap.size w W0 := by rw [hW0]; exact below_chain (below_chain (new_below _ _) (new_below _ _)) (new_below _ _)
  have hz0 : W0.heap.size = w.heap.size + 1 + 1 + 1 := by rw [hW0]; simp
  have hbox : ∀ W, Below W0.heap.size W0 W → W.cell? ⟨w.heap.size, 0, none⟩ = some (.slice (some ⟨b, o, none⟩) n cap) ∧ W.cell? ⟨w.heap.size + 1, 0, none⟩ = some (.slice (some ⟨b', o', none⟩) n cap') := fun W hb => by
    refine ⟨(cell_past ?_ hb).2, (cell_past ?_ hb).2⟩
    · rw [hW0]; exact new_one (below_chain (new_below _ _) (new_below _ _))
    · rw [hW0]
      have := new_one (w := w.alloc (.cells #[.slice (some ⟨b, o, none⟩) n cap] 22)) (x := .slice (some ⟨b', o', none⟩) n cap') (t := 22) (new_below _ (.cells #[.int .i64 0, .slice none 0 0] 45))
      rw [World.size_alloc] at this
      exact this
  have hres : ∀ W, Below W0.heap.size W0 W → W.cell? ⟨w.heap.size + 1 + 1, 0, none⟩ = some (.int .i64 0) ∧ W.cell? ⟨w.heap.size + 1 + 1, 1, none⟩ = some (.slice none 0 0) ∧ W.frozen? ⟨w.heap.size + 1 + 1, 0, none⟩ = false ∧ W.frozen? ⟨w.heap.size + 1 + 1, 1, none⟩ = false := fun W hb => by
    rw [hW0] at hb
    have := res_past hb
    simpa using this
  have hcp := checkPair_any a (.slice (some ⟨b, o, none⟩) n cap) (.slice (some ⟨b', o', none⟩) n cap') n n p q W0 (hE.below hb0) (Or.inr ⟨b, o, cap, rfl, h0n, h.later hb0⟩) (Or.inr ⟨b', o', cap', rfl, h0n, k.later hb0⟩) (by omega) (by omega)
  rw [h0, errV_zero] at hcp
  have HR : Hid (∀ W, Below W0.heap.size W0 W → RowAt W b o n p ∧ RowAt W b' o' n q) := fun W hb => ⟨(h.later hb0).later hb, (k.later hb0).later hb⟩
  have HTP : Hid (∀ W, Below W0.heap.size W0 W → Calls Tryz.prog 27 #[.slice (some ⟨b, o, none⟩) n cap] W fun e w' => e = .returned (.int .i64 P) ∧ w' = W) := fun W hb => by
    have := total_some b o cap n p W (HR.out W hb).1 (fun k hk => by have := hok1.part hk; omega) (fun i hi => by have := hok1.lt hi; omega) (by omega)
    rw [hP] at this
    exact this
  have HTQ : Hid (∀ W, Below W0.heap.size W0 W → Calls Tryz.prog 27 #[.slice (some ⟨b', o', none⟩) n cap'] W fun e w' => e = .returned (.int .i64 Q) ∧ w' = W) := fun W hb => by
    have := total_some b' o' cap' n q W (HR.out W hb).2 (fun k hk => by have := hok2.part hk; omega) (fun i hi => by have := hok2.lt hi; omega) (by omega)
    rw [hQ] at this
    exact this
  have HSO : Hid (∀ (W : World) (B1 B2 : Nat), TwoNums W0 W B1 B2 P Q → zeroB p q n = false → Calls Tryz.prog 36 #[.int .i64 P, .func (.func 37) #[] #[.pointer (some ⟨w.heap.size, 0, none⟩), .pointer (some ⟨B1, 0, none⟩), .pointer (some ⟨w.heap.size + 1, 0, none⟩), .pointer (some ⟨B2, 0, none⟩)]] W fun e w' => ∃ dn v, e = .returned (.tuple #[.agg #[.int .i64 dn, v], .nilIface]) ∧ LogBy W.heap.size P (fun x => sumN (divV p q P Q x) n) w' dn v ∧ Below W.heap.size W w') := fun W B1 B2 ht hzb =>
    sumOver_any 37 _ P (4 * n) (fun x => sumN (divV p q P Q x) n) W (enters_of Tryz.func37 (by kernel_rfl) rfl) hP1.1 hP1.2 (by omega) (fun x => by
      have h3 := sumN_bound (f := divV p q P Q x) (B := 400000) (n := n) (fun i hi => divV_le x (hok1.lt hi) (hok2.lt hi) hP1.2 hQ1.2)
      have : (n : Int) * 400000 ≤ 6400000 := by omega
      omega)
      (fun W' mb hb ho => Divergence_parts P mb w.heap.size B1 (w.heap.size + 1) B2 b o cap b' o' cap' n P Q p q W' ho (hbox W' (below_chain ht.below hb)).1 (cell_past ht.c1 hb).2 (hbox W' (below_chain ht.below hb)).2 (cell_past ht.c2 hb).2 (HR.out W' (below_chain ht.below hb)).1 (HR.out W' (below_chain ht.below hb)).2 (fun i hi => hok1.lt hi) (fun i hi => hok2.lt hi)
        (fun i hi h1 => by
          have h2 := (hok2.lt hi).1
          rcases Int.lt_or_le 0 (q i) with h3 | h3
          · exact h3
          · have : zeroB p q n = true := (zeroB_iff p q n).2 ⟨i, hi, h1, by omega⟩
            rw [hzb] at this; cases this) hP1 hQ1 hn)
  have HQN : Hid (∀ i, i < n → 0 ≤ q i) := hok2.nn
  have HE3 : Hid (∀ W, Below W0.heap.size W0 W → Errs W a) := fun W hb => (hE.below hb0).below hb
  have HLG : Hid (0 < w.heap.size) := cell_lt hE.c3
  have HB0 := Hid.mk' hb0
  have HBOX := Hid.mk' hbox
  have HRES := Hid.mk' hres
  have HW0 := Hid.mk' hW0
  have HZ0 := Hid.mk' hz0
  clear hE h k hb0 hbox hres hW0 hz0 hok1 hok2 h0 hP hQ
  obtain ⟨cp0, cq0⟩ := HBOX.out W0 (Below.refl _ _)
  go_enter Tryz.func14, Tryz.ntmps14
  go_upto_region 1 with fail
  rw [← HW0.out]
  go_wp2_with (go_at_call 26; refine hcp.mono ?_; rintro e w1 ⟨rfl, hw1⟩; rw [hw1]; clear hw1)
  clear hcp
  go_loopw [7, 8, 20] (fun _ _ i wr => ∃ k : Nat, k ≤ n ∧ i = .int .i64 k ∧ wr = W0 ∧ Hid (zeroB p q k = false)) (fun _ _ i _ => n - (intOf i).toNat)
  case atStart => exact ⟨0, Nat.zero_le _, rfl, rfl, rfl⟩
  case round =>
    obtain ⟨k, hk, rfl, hwr, HZB⟩ := hrel
    rw [hwr]
    clear hwr
    rcases Nat.lt_or_ge k n with h1 | h1
    · have hcP := (HR.out W0 (Below.refl _ _)).1 k h1
      have hcQ := (HR.out W0 (Below.refl _ _)).2 k h1
      have hkn : (k : Int) < (n : Int) := by omega
      have HZ1 : Hid (zeroB p q (k + 1) = (decide (0 < p k) && decide (q k = 0))) := by show (zeroB p q k || _) = _; rw [HZB.out, Bool.false_or]
      have HZT : Hid (0 < p k → q k = 0 → zeroB p q n = true) := fun h2 h3 => (zeroB_iff p q n).2 ⟨k, h1, h2, h3⟩
      obtain ⟨x, hx⟩ : ∃ x, x = p k := ⟨_, rfl⟩
      obtain ⟨y, hy⟩ : ∃ y, y = q k := ⟨_, rfl⟩
      rw [← hx] at hcP HZ1 HZT
      rw [← hy] at hcQ HZ1 HZT
      clear hx hy
      rcases Int.lt_or_le 0 x with hx | hx
      · have hxd : decide (0 < x) = true := decide_eq_true hx
        by_cases hy : y = 0
        · subst hy
          have HZF : Hid (zeroB p q n = true) := HZT.out hx rfl
          clear HZT HZ1
          have e3 := (HE3.out W0 (Below.refl _ _)).c3
          have e3s : (W0.setCell ⟨w.heap.size + 1 + 1, 0, none⟩ (.int .i64 0)).cell? ⟨0, 0, none⟩ = some (.iface 179 (.pointer (some (a 3)))) := by
            rw [World.cell?_setCell_far _ _ _ _ (by show w.heap.size + 1 + 1 ≠ 0; have := HLG.out; omega)]
            exact e3
          obtain ⟨c0, c1, q0, q1⟩ := HRES.out W0 (Below.refl _ _)
          go_wp2_with fail
          go_region
          all_goals
            go_wp2_with fail
            refine bodyPost_ret (v := .tuple #[.agg #[.int .i64 0, .slice none 0 0], .iface 179 (.pointer (some (a 3)))]) (by simp [results, Tryz.results14, go_sem, c0, c1]) rfl ⟨Or.inl ⟨HZF.out, rfl⟩, ?_⟩
            first
              | exact ((HB0.out.setCell (by show w.heap.size ≤ w.heap.size + 1 + 1; omega) _).setCell (by show w.heap.size ≤ w.heap.size + 1 + 1; omega) _).drew
              | exact HB0.out.drew
        · have hyb : (y == 0) = false := by simpa using hy
          have HZ2 : Hid (zeroB p q (k + 1) = false) := by show _ = _; rw [HZ1.out, hxd]; simpa using hy
          go_wp2_with fail
          exact ⟨⟨k + 1, h1, by go_num, trivial, HZ2⟩, by simp [intOf]; omega⟩
      · have hxd : decide (0 < x) = false := decide_eq_false (by omega)
        have HZ2 : Hid (zeroB p q (k + 1) = false) := by show _ = _; rw [HZ1.out, hxd]; rfl
        go_wp2_with fail
        exact ⟨⟨k + 1, h1, by go_num, trivial, HZ2⟩, by simp [intOf]; omega⟩
    · obtain rfl : k = n := by omega
      have hcur0 : Below W0.heap.size W0 W0 := Below.refl _ _
      go_wp2_with fail
      go_cut [9, 10] from 37 (fun s t wx => ∃ B1 B2 : Nat, s = .pointer (some ⟨B1, 0, none⟩) ∧ t = .pointer (some ⟨B2, 0, none⟩) ∧ Hid (TwoNums W0 wx B1 B2 P Q))
      case first =>
        clear cp0 cq0
        go_region_held3 (fun W => W.cell? ⟨w.heap.size, 0, none⟩ = some (.slice (some ⟨b, o, none⟩) k cap) ∧ W.cell? ⟨w.heap.size + 1, 0, none⟩ = some (.slice (some ⟨b', o', none⟩) k cap'))
          ((refine HBOX.out _ ?_; (first | exact hcur0 | exact hcur0.drew | exact (more_below hcur0 _).drew | exact (more_below (more_below hcur0 _) _).drew | exact more_below hcur0.drew _ | exact more_below (more_below hcur0.drew _) _ | exact more_below (more_below hcur0 _).drew _ | exact more_below hcur0 _ | exact more_below (more_below hcur0 _) _)))
          (first
            | (go_at_call_of 27 b; refine (HTP.out _ ?_).mono ?_; (first | exact hcur0 | exact hcur0.drew | exact (more_below hcur0 _).drew | exact (more_below (more_below hcur0 _) _).drew | exact more_below hcur0.drew _ | exact more_below (more_below hcur0.drew _) _ | exact more_below (more_below hcur0 _).drew _ | exact more_below hcur0 _ | exact more_below (more_below hcur0 _) _); rintro e w5 ⟨rfl, hw5⟩; rw [hw5]; clear hw5)
            | (go_at_call_of 27 b'; refine (HTQ.out _ ?_).mono ?_; (first | exact hcur0 | exact hcur0.drew | exact (more_below hcur0 _).drew | exact (more_below (more_below hcur0 _) _).drew | exact more_below hcur0.drew _ | exact more_below (more_below hcur0.drew _) _ | exact more_below (more_below hcur0 _).drew _ | exact more_below hcur0 _ | exact more_below (more_below hcur0 _) _); rintro e w5 ⟨rfl, hw5⟩; rw [hw5]; clear hw5))
        all_goals
          go_wp2_with fail
          go_meet
          first | exact ⟨_, _, rfl, rfl, twoNums_a _ _ _ _⟩ | exact ⟨_, _, rfl, rfl, twoNums_b _ _ _ _⟩
      case rest =>
      obtain ⟨B1, B2, rfl, rfl, HTN⟩ := hcut
      have hso := HSO.out wc B1 B2 HTN.out HZB.out
      have cB := HTN.out.c1
      go_wp2_with fail
      refine hso.mono ?_
      clear hso cB
      rintro e w6 ⟨dn, v, rfl, hlb, hb6⟩
      have hbw := below_chain HTN.out.below hb6
      obtain ⟨c0, c1, q0, q1⟩ := HRES.out w6 hbw
      have HBW := Hid.mk' (below_chain HB0.out hbw)
      have HLT : Hid (w.heap.size + 1 + 1 < wc.heap.size) := by have h2 := HZ0.out; have h3 := HTN.out.below.size; show _ < _; omega
      have HLB := Hid.mk' hlb
      obtain ⟨ad, n', c', rfl⟩ := hlb.form
      clear hlb hb6 hbw
      go_wp2_with fail
      refine bodyPost_ret (v := .tuple #[.agg #[.int .i64 dn, .slice ad n' c'], .nilIface]) (by simp [results, Tryz.results14, go_sem, c0, c1]) rfl ⟨Or.inr ⟨HZB.out, _, .slice ad n' c', rfl, (HLB.out.set HLT.out _ _).lower (by have := HLT.out; omega)⟩, ?_⟩
      exact (HBW.out.setCell (by show w.heap.size ≤ w.heap.size + 1 + 1; omega) _).setCell (by show w.heap.size ≤ w.heap.size + 1 + 1; omega) _

set_option maxRecDepth 100000 in
set_option maxHeartbeats 1000000 in
theorem Divergence_bad (a : Nat → Addr) (v u : Value) (n m : Nat) (p q : Nat → Int) (w : World) (hE : Errs w a) (h : NumsAt w v n p) (k : NumsAt w u m q) (hn : n ≤ 400) (hm : m ≤ 400) (h0 : twoErr p n q m ≠ 0) :
    Calls Tryz.prog 14 #[v, u] w fun e w' => e = .returned (.tuple #[.agg #[.int .i64 0, .slice none 0 0], errV a (twoErr p n q m)]) ∧ Below w.heap.size w w' := by
  obtain ⟨ad, cap, rfl⟩ := h.form
  obtain ⟨ad', cap', rfl⟩ := k.form
  obtain ⟨W0, hW0⟩ : ∃ W0, W0 = ((w.alloc (.cells #[.slice ad n cap] 22)).alloc (.cells #[.slice ad' m cap'] 22)).alloc (.cells #[.int .i64 0, .slice none 0 0] 45) := ⟨_, rfl⟩
  have hb0 : Below w.heap.size w W0 := by rw [hW0]; exact below_chain (below_chain (new_below _ _) (new_below _ _)) (new_below _ _)
  have hbox : W0.cell? ⟨w.heap.size, 0, none⟩ = some (.slice ad n cap) := by rw [hW0]; exact new_one (below_chain (new_below _ _) (new_below _ _))
  have hbox2 : W0.cell? ⟨w.heap.size + 1, 0, none⟩ = some (.slice ad' m cap') := by
    rw [hW0]
    have := new_one (w := w.alloc (.cells #[.slice ad n cap] 22)) (x := .slice ad' m cap') (t := 22) (new_below _ (.cells #[.int .i64 0, .slice none 0 0] 45))
    rw [World.size_alloc] at this
    exact this
  have hres : W0.cell? ⟨w.heap.size + 1 + 1, 0, none⟩ = some (.int .i64 0) ∧ W0.cell? ⟨w.heap.size + 1 + 1, 1, none⟩ = some (.slice none 0 0) ∧ W0.frozen? ⟨w.heap.size + 1 + 1, 0, none⟩ = false ∧ W0.frozen? ⟨w.heap.size + 1 + 1, 1, none⟩ = false := by
    rw [hW0]
    have := res_past (w := (w.alloc (.cells #[.slice ad n cap] 22)).alloc (.cells #[.slice ad' m cap'] 22)) (x := .int .i64 0) (y := .slice none 0 0) (t := 45) (Below.refl _ _)
    simpa using this
  have hcp := checkPair_any a (.slice ad n cap) (.slice ad' m cap') n m p q W0 (hE.below hb0) (h.later hb0) (k.later hb0) (by omega) (by omega)
  rw [errV_pos a h0] at hcp ⊢
  generalize a (twoErr p n q m - 1) = ea at hcp ⊢
  obtain ⟨c0, c1, q0, q1⟩ := hres
  have HB0 := Hid.mk' hb0
  have HW0 := Hid.mk' hW0
  clear hE h k hb0 hW0 h0
  go_enter Tryz.func14, Tryz.ntmps14
  go_upto_region 1 with fail
  rw [← HW0.out]
  go_wp2_with (go_at_call 26; refine hcp.mono ?_; rintro e w1 ⟨rfl, hw1⟩; rw [hw1]; clear hw1)
  refine bodyPost_ret (v := .tuple #[.agg #[.int .i64 0, .slice none 0 0], .iface 179 (.pointer (some ea))]) (by simp [results, Tryz.results14, go_sem, c0, c1]) rfl ⟨rfl, ?_⟩
  exact (HB0.out.setCell (by show w.heap.size ≤ w.heap.size + 1 + 1; omega) _).setCell (by show w.heap.size ≤ w.heap.size + 1 + 1; omega) _
end Go.Proofs.YtofflboheiflaaaGreatDoor

/- A row of numbers that is made and filled. -/
namespace Go.Proofs.YtofflboheiflaaaGreatDoor
open Go.RowKit

/-- The row that is filled. -/
structure Fills (w wr : World) (g T : Nat) (f : Nat → Int) : Prop where
  row : RowAt wr g 0 T f
  fz : ∀ i, i < T → wr.frozen? ⟨g, 0 + i, none⟩ = false
  below : Below w.heap.size w wr
  hg : w.heap.size ≤ g
theorem Fills.set {w wr : World} {g T : Nat} {f : Nat → Int} (h : Fills w wr g T f) {j : Nat} (hj : j < T) (x : Int) {f' : Nat → Int} (hf : ∀ i, i < T → f' i = if i = j then x else f i) : Fills w (wr.setCell ⟨g, j, none⟩ (.int .i64 x)) g T f' := by
  refine ⟨fun i hi => ?_, fun i hi => ?_, h.below.setCell h.hg _, h.hg⟩
  · rw [hf i hi]
    by_cases hij : i = j
    · subst hij
      rw [if_pos rfl, Nat.zero_add]
      exact World.cell?_setCell_same _ _ _ (by have := h.row i hi; rwa [Nat.zero_add] at this)
    · rw [if_neg hij, World.cell?_setCell_other _ _ _ _ (fun e => hij (by have := congrArg Addr.off e; simp at this; omega))]
      exact h.row i hi
  · rw [World.frozen?_setCell]
    exact h.fz i hi
theorem Fills.drew {w wr : World} {g T : Nat} {f : Nat → Int} (h : Fills w wr g T f) : Fills w wr.drew g T f := ⟨h.row, h.fz, h.below.drew, h.hg⟩
theorem fills_made {w w2 : World} {g n : Nat} {t : TypeId} {xs : List Value} (h : w2.ownsRow w.heap.size t 1 (.slice (some ⟨g, 0, none⟩) n n) n xs) (hx : ∀ i, i < n → xs[i]? = some (.int .i64 0)) (hg : w.grownBy w2 none) : Fills w w2 g n (fun _ => 0) := by
  obtain ⟨hl, hr⟩ := h
  rcases hr with ⟨hx, _⟩ | ⟨g', cap', cur, hv, hb, hh, _, _, hs, ht⟩
  · cases hx
  · obtain ⟨rfl, rfl⟩ : g = g' ∧ n = cap' := by simpa using hv
    refine ⟨fun i hi => ?_, fun i hi => ?_, (Below.refl _ _).grown hg (Nat.le_refl _) (fun k hk => by cases hk), hb⟩
    · rw [← hx i hi, ← ht, List.getElem?_take_of_lt (by omega)]
      simp [World.cell?, hh]
    · simp [World.frozen?, hh]
theorem made_zero (n i : Nat) (hi : i < n) : (madeCells (Value.int IntKind.i64 0).cells (n * 1)).toList[i]? = some (.int .i64 0) := by
  simp [madeCells, hi, Nat.mod_one, Value.cells]
end Go.Proofs.YtofflboheiflaaaGreatDoor
