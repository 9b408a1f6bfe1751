/- The law OrderMoves. -/
import Derived.Test.YtgopohbombnflaaDoorOrMv
import Derived.Test.YtgopohbombnflaaDoorOrIs
import Derived.Test.YtgopohbombnflaaDoorOrUn
import Derived.Test.YtgopohbombnflaaDoorOrDo
import Derived.Test.YtgopohbombnflaaDoorCodedV
import Derived.Test.YtgopohbombnflaaDoorSameN
namespace Go.Proofs.YtgopohbombnflaaDoor
open Go.RowKit

set_option maxRecDepth 100000 in
theorem Moves_bad (a : Nat → Addr) (pv qv : Value) (n m : Nat) (p q : Nat → Int) (w : World) (hE : Errs w a) (hp : NumsAt w pv n p) (hq : NumsAt w qv m q) (hn : n ≤ 100000) (hm : m ≤ 100000) (hb : mvE n m p q ≠ 0) :
    Calls Tryd.prog 14 #[pv, qv] w fun e w' => e = .returned (.tuple #[.slice none 0 0, errV a (mvE n m p q)]) ∧ Below w.heap.size w w' := by
  have hAb := Above_any a pv qv n m p q w hE hp hq hn hm
  have HE5 := Hid.mk' (fun (W : World) (hb : Below w.heap.size w W) => (hE.below hb).c5)
  obtain ⟨pad, pcap, rfl⟩ := hp.form
  obtain ⟨qad, qcap, rfl⟩ := hq.form
  clear hp hq hE
  by_cases h : prE n p m q = 0
  · have hd : dipN (surF p q n) n = true := by
      cases hd : dipN (surF p q n) n with
      | true => rfl
      | false => exact absurd (by unfold mvE; rw [if_pos h, hd, if_neg (by decide)]) hb
    have HV : Hid (errV a (mvE n m p q) = .iface 120 (.pointer (some (a 5)))) := by show _ = _; unfold mvE; rw [if_pos h, hd, if_pos rfl]; rfl
    have hAb2 : Calls Tryd.prog 10 #[.slice pad n pcap, .slice qad m qcap] w fun e w' => e = .returned (.tuple #[.bool false, .nilIface]) ∧ Below w.heap.size w w' := by
      rw [h, hd] at hAb
      exact hAb
    clear hAb h hd hb
    go_enter Tryd.func14, Tryd.ntmps14
    go_wp2_with fail
    refine hAb2.mono ?_
    clear hAb2
    rintro e w1 ⟨rfl, hb1⟩
    have HB1 := Hid.mk' hb1
    have e5 := HE5.out w1 hb1
    clear hb1
    go_wp2_with fail
    go_quiet (fail)
    go_wp2_with fail
    go_ret2
    exact ⟨by rw [HV.out]; rfl, below_drewN HB1.out _⟩
  · have HV : Hid (errV a (mvE n m p q) = errV a (prE n p m q)) := by show _ = _; unfold mvE; rw [if_neg h]
    obtain ⟨e, he⟩ : ∃ e, errV a (prE n p m q) = e := ⟨_, rfl⟩
    obtain ⟨t, x, rfl⟩ : ∃ t x, e = .iface t x := by rw [← he, errV_pos a h]; exact ⟨_, _, rfl⟩
    have hAb2 : Calls Tryd.prog 10 #[.slice pad n pcap, .slice qad m qcap] w fun e w' => e = .returned (.tuple #[.bool false, .iface t x]) ∧ Below w.heap.size w w' := by
      rw [he, decide_eq_false h] at hAb
      exact hAb
    have HE2 := Hid.mk' he
    clear hAb h he hb
    go_enter Tryd.func14, Tryd.ntmps14
    go_wp2_with fail
    refine hAb2.mono ?_
    clear hAb2
    rintro e w1 ⟨rfl, hb1⟩
    have HB1 := Hid.mk' hb1
    clear hb1
    go_wp2_with fail
    go_ret2
    exact ⟨by rw [HV.out, HE2.out]; rfl, HB1.out⟩

theorem Tryd.infoMvd : (Tryd.prog.info? 38).map (fun i => (i.zero, i.size, i.bytes)) = some (some (.agg #[.int .i64 0, .int .i64 0, .int .i64 0]), 3, 24) := by kernel_rfl
theorem mvE_le (n m : Nat) (p q : Nat → Int) : mvE n m p q ≤ 8 := by
  have := prE_le n m p q
  unfold mvE
  split
  · split <;> omega
  · omega
theorem ok_apply {n : Nat} {p q : Nat → Int} {ml : List MvI} (hn : n ≤ 16) (hp : noN p n = false) (h : MvOk n p q ml) : apE n p ml = (0, -1) ∧ fallL (apZ n p ml) n = fallL q n := by
  obtain ⟨hl, c, hr, hc⟩ := h
  refine ⟨?_, ?_⟩
  · rw [apE_go (by omega) hp, hr]
  · unfold apZ; rw [hr]; exact hc

set_option maxRecDepth 100000 in
set_option maxHeartbeats 8000000 in
theorem OrderMoves_all (a : Nat → Addr) (pv qv : Value) (n m : Nat) (p q : Nat → Int) (w : World) (hE : Errs w a) (hp : NumsAt w pv n p) (hq : NumsAt w qv m q) :
    Calls Tryd.prog 4 #[pv, qv] w fun e w' => e = .returned (.bool true) ∧ Below w.heap.size w w' := by
  have hU := unlike_any a w hE
  have HP := Hid.mk' (fun (W : World) (hb : Below w.heap.size w W) => hp.later hb)
  have HQ := Hid.mk' (fun (W : World) (hb : Below w.heap.size w W) => hq.later hb)
  have HE := Hid.mk' (fun (W : World) (hb : Below w.heap.size w W) => hE.below hb)
  obtain ⟨pad, pcap, rfl⟩ := hp.form
  obtain ⟨qad, qcap, rfl⟩ := hq.form
  clear hp hq hE
  by_cases hbig : 200 < n ∨ 200 < m
  · have hd : (200 : Int) < (n : Int) ∨ (¬ (200 : Int) < (n : Int) ∧ (200 : Int) < (m : Int)) := by omega
    clear hbig
    rcases hd with h1 | ⟨h1, h2⟩
    all_goals
      go_enter Tryd.func4, Tryd.ntmps4
      go_wp2_with fail
      refine hU.mono ?_
      rintro e w1 ⟨rfl, hb1⟩
      have HB1 := Hid.mk' hb1
      clear hb1 hU
      go_wp2_with fail
      go_ret
      exact ⟨rfl, HB1.out⟩
  · have h1 : ¬ (200 : Int) < (n : Int) := by omega
    have h2 : ¬ (200 : Int) < (m : Int) := by omega
    have HLE := Hid.mk' (fun (W : World) (hb : Below w.heap.size w W) => ListsError_any _ _ n m p q W (HP.out W hb) (HQ.out W hb) (by omega) (by omega))
    have HIP := Hid.mk' (fun (W : World) (hb : Below w.heap.size w W) => ints_any _ n p W (HP.out W hb) (by omega))
    have HIQ := Hid.mk' (fun (W : World) (hb : Below w.heap.size w W) => ints_any _ m q W (HQ.out W hb) (by omega))
    have HMB := Hid.mk' (fun (W : World) (x y : Value) (hb : Below w.heap.size w W) (hx : NumsAt W x n p) (hy : NumsAt W y m q) (h : mvE n m p q ≠ 0) => Moves_bad a x y n m p q W (HE.out W hb) hx hy (by omega) (by omega) h)
    have HCD := Hid.mk' (fun (W : World) (hb : Below w.heap.size w W) => coded_errV a (mvE n m p q) (mvE_le n m p q) W (HE.out W hb))
    have HIS : Hid (prE n p m q = 0 → ∀ W, Below w.heap.size w W → Calls Tryd.prog 13 #[.slice pad n pcap, .slice qad m qcap] W fun e w' => e = .returned (.bool (!dipN (surF p q n) n)) ∧ Below W.heap.size W w') := fun h W hbW => by
      obtain ⟨h16, h0, e, hpr, hqr, _⟩ := prE_ok h
      subst e
      exact IsAbove_any _ _ n p q W (HP.out W hbW) (HQ.out W hbW) h0 h16 hpr hqr
    by_cases h0 : prE n p m q = 0
    · obtain ⟨h16, hn0, rfl, hpr, hqr, hsum⟩ := prE_ok h0
      have HIS' := Hid.mk' (fun W hb => HIS.out h0 W hb)
      cases hdip : dipN (surF p q n) n with
      | true =>
        have hme : mvE n n p q = 6 := by unfold mvE; rw [if_pos h0, hdip, if_pos rfl]
        have HMB' := Hid.mk' (fun (W : World) (x y : Value) (hb : Below w.heap.size w W) (hx : NumsAt W x n p) (hy : NumsAt W y n q) => HMB.out W x y hb hx hy (by omega))
        rw [hme] at HMB' HCD
        rw [hdip] at HIS'
        rw [h0] at HLE
        clear hbig HMB HIS HP HQ HE hme hdip h0 hsum hpr hqr
        generalize errV a 6 = er at *
        go_enter Tryd.func4, Tryd.ntmps4
        go_wp2_with fail
        refine hU.mono ?_
        rintro e w1 ⟨rfl, hb1⟩
        have HB1 := Hid.mk' hb1
        clear hb1 hU
        go_wp2_with fail
        refine (HLE.out w1 HB1.out).mono ?_
        rintro e w1' ⟨rfl, hw1⟩
        rw [hw1]
        clear hw1
        go_wp2_with fail
        refine (HIS'.out w1 HB1.out).mono ?_
        rintro e w2 ⟨rfl, hb2⟩
        have HB2 := Hid.mk' (below_chain HB1.out hb2)
        clear hb2
        go_wp2_with fail
        refine (HIP.out w2 HB2.out).mono ?_
        rintro e w3 ⟨v3, rfl, hn3, hb3⟩
        have HN3 := Hid.mk' hn3
        have HB3 := Hid.mk' (below_chain HB2.out hb3)
        clear hn3 hb3
        go_wp2_with fail
        refine (HIQ.out w3 HB3.out).mono ?_
        rintro e w4 ⟨v4, rfl, hn4, hb4⟩
        have HN4 := Hid.mk' hn4
        have HN3' := Hid.mk' (HN3.out.later hb4)
        have HB4 := Hid.mk' (below_chain HB3.out hb4)
        clear hn4 hb4
        go_wp2_with fail
        refine (HMB'.out w4 v3 v4 HB4.out HN3'.out HN4.out).mono ?_
        rintro e w5 ⟨rfl, hb5⟩
        have HB5 := Hid.mk' (below_chain HB4.out hb5)
        clear hb5
        go_wp2_with fail
        refine (HCD.out w5 HB5.out).mono ?_
        rintro e w6 ⟨rfl, hb6⟩
        have HB6 := Hid.mk' (below_chain HB5.out hb6)
        clear hb6
        go_wp2_with fail
        go_ret
        exact ⟨rfl, HB6.out⟩
      | false =>
        have HMO := Hid.mk' (fun (W : World) (x y : Value) (hb : Below w.heap.size w W) (hx : NumsAt W x n p) (hy : NumsAt W y n q) => Moves_ok a x y n p q W (HE.out W hb) hx hy h0 hdip)
        have HAF := Hid.mk' (fun (W : World) (lv : Value) (ml : List MvI) (hb : Below w.heap.size w W) (hl : MvAt W lv ml) (hlen : ml.length ≤ 100000) => ApplyFault_any _ lv n p ml W (HP.out W hb) hl (by omega) hlen)
        have HFQ := Hid.mk' (fun (W : World) (hb : Below w.heap.size w W) => Falling_any _ n q W (HQ.out W hb) (by omega))
        have HOK := Hid.mk' (fun (ml : List MvI) (h : MvOk n p q ml) => ok_apply h16 (noN_of hpr) h)
        obtain ⟨i0, hi, hi2⟩ := Option.map_eq_some_iff.1 Tryd.infoMvd
        obtain ⟨hz, hsz, hby⟩ : i0.zero = some (.agg #[.int .i64 0, .int .i64 0, .int .i64 0]) ∧ i0.size = 3 ∧ i0.bytes = 24 := by simpa using hi2
        have HINF := Hid.mk' (And.intro hi (And.intro hz (And.intro hsz hby)))
        rw [hdip] at HIS'
        rw [h0] at HLE
        clear hbig HMB HIS HP HQ HE hdip h0 hsum hpr hqr HCD hi hi2 hz hsz hby
        go_enter Tryd.func4, Tryd.ntmps4
        go_wp2_with fail
        refine hU.mono ?_
        rintro e w1 ⟨rfl, hb1⟩
        have HB1 := Hid.mk' hb1
        clear hb1 hU
        go_wp2_with fail
        refine (HLE.out w1 HB1.out).mono ?_
        rintro e w1' ⟨rfl, hw1⟩
        rw [hw1]
        clear hw1
        go_wp2_with fail
        refine (HIS'.out w1 HB1.out).mono ?_
        rintro e w2 ⟨rfl, hb2⟩
        have HB2 := Hid.mk' (below_chain HB1.out hb2)
        clear hb2
        go_wp2_with fail
        refine (HIP.out w2 HB2.out).mono ?_
        rintro e w3 ⟨v3, rfl, hn3, hb3⟩
        have HN3 := Hid.mk' hn3
        have HB3 := Hid.mk' (below_chain HB2.out hb3)
        clear hn3 hb3
        go_wp2_with fail
        refine (HIQ.out w3 HB3.out).mono ?_
        rintro e w4 ⟨v4, rfl, hn4, hb4⟩
        have HN4 := Hid.mk' hn4
        have HN3' := Hid.mk' (HN3.out.later hb4)
        have HB4 := Hid.mk' (below_chain HB3.out hb4)
        clear hn4 hb4
        go_wp2_with fail
        refine (HMO.out w4 v3 v4 HB4.out HN3'.out HN4.out).mono ?_
        rintro e w5 ⟨v5, ml, rfl, hm5, hok, hb5⟩
        have HB5 := Hid.mk' (below_chain HB4.out hb5)
        have HOM := Hid.mk' (HOK.out ml hok)
        have hl5 : ml.length + 1 ≤ n := hok.1
        have hlI : ¬ (n : Int) - 1 < (ml.length : Int) := by omega
        have HL := Hid.mk' (fun (W : World) (hb : Below w5.heap.size w5 W) => hm5.later hb)
        obtain ⟨ad, cap, rfl⟩ := hm5.form
        clear hb5 hok hm5 HOK
        go_wp2_with fail
        go_loopw [9, 10] (fun s t wr => ∃ k : Nat, k ≤ ml.length ∧ t = .int .i64 (k : Int) ∧ Hid (wr.ownsRow w5.heap.size 38 3 s k (mvsC (ml.take k))) ∧ Hid (Below w5.heap.size w5 wr)) (fun _ t _ => ml.length - (intOf t).toNat)
        case atStart => exact ⟨0, Nat.zero_le _, rfl, World.ownsRow_nil _ _ _ _, Below.refl _ _⟩
        case round =>
          obtain ⟨k, hk, rfl, HO, HB⟩ := hrel
          have hle := HB.out.size
          rcases Nat.lt_or_ge k ml.length with h5 | h5
          · obtain ⟨c, hc⟩ : ∃ c, ml[k]? = some c := ⟨_, List.getElem?_eq_getElem h5⟩
            obtain ⟨b, o, rfl, x0, x1, x2⟩ := (HL.out wr HB.out).at hc
            have HTK : Hid (ml.take (k + 1) = ml.take k ++ [c]) := by
              show _ = _
              obtain ⟨hi, rfl⟩ := List.getElem?_eq_some_iff.1 hc
              exact List.take_succ_eq_append_getElem hi
            have HKK : Hid (∀ W, Below w5.heap.size w5 W → W.cell? ⟨b, o + k * 3, none⟩ = some (.int .i64 c.f) ∧ W.cell? ⟨b, o + k * 3 + 1, none⟩ = some (.int .i64 c.t) ∧ W.cell? ⟨b, o + k * 3 + 2, none⟩ = some (.int .i64 c.s)) := fun W hb => by
              obtain ⟨b', o', e, y⟩ := (HL.out W hb).at hc
              obtain ⟨rfl, rfl⟩ : b = b' ∧ o = o' := by simpa using e
              exact y
            have hkI : (k : Int) < (ml.length : Int) := by omega
            have hk0 : (0 : Int) ≤ (k : Int) := by omega
            have HRR := Hid.mk' (HO.out.alloc (.cells #[.int .i64 c.f, .int .i64 c.t, .int .i64 c.s] 38))
            have HBB : Hid (Below w5.heap.size w5 (wr.alloc (.cells #[.int .i64 c.f, .int .i64 c.t, .int .i64 c.s] 38))) := HB.out.alloc hle _
            have HPU : Hid (∀ w3, World.grownBy (wr.alloc (.cells #[.int .i64 c.f, .int .i64 c.t, .int .i64 c.s] 38)).drew w3 u9.ownBlock → Below w5.heap.size w5 w3) := fun w3 hg => mv_push HBB.out.drew (by show w5.heap.size ≤ (wr.alloc (.cells #[.int .i64 c.f, .int .i64 c.t, .int .i64 c.s] 38)).heap.size; simp; omega) (HRR.out.drew) hg
            go_wp2_with fail
            go_region_held3 (fun W => W.cell? ⟨b, o + k * 3, none⟩ = some (.int .i64 c.f) ∧ W.cell? ⟨b, o + k * 3 + 1, none⟩ = some (.int .i64 c.t) ∧ W.cell? ⟨b, o + k * 3 + 2, none⟩ = some (.int .i64 c.s))
              (first | exact HKK.out _ (HPU.out _ (by assumption)) | go_keep)
              ((refine step_append_lies _ (by rfl) _ _ _ (by rfl) w5.heap.size 38 i0 _ 3 24 Tryd.underlying35 HINF.out.1 HINF.out.2.1 HINF.out.2.2.1 HINF.out.2.2.2 rfl (by omega) u9 k (mvsC (ml.take k)) (by rfl) HRR.out ⟨wr.heap.size, 0, none⟩ 1 1 [.int .i64 c.f, .int .i64 c.t, .int .i64 c.s] (by rfl) rfl (three_new wr _ _ _ _) (by simp [Value.oneCell']) (by omega) (by unfold maxLen; omega) (by omega) (by simp; omega) _ rfl ?_; intro g' cap' w3 hown3 hgrow3 hat3 hlt3))
            have HW3 := Hid.mk' hown3
            have HB3 := Hid.mk' (HPU.out _ hgrow3)
            clear hown3 hgrow3 hat3
            go_wp2_with fail
            exact ⟨⟨k + 1, h5, by go_num, by show World.ownsRow _ _ _ _ _ _ _; rw [HTK.out, mvsC_snoc]; exact HW3.out, HB3.out⟩, by simp [intOf]; omega⟩
          · obtain rfl : k = ml.length := by omega
            have hkI : ¬ (ml.length : Int) < (ml.length : Int) := by omega
            rw [List.take_length] at HO
            have HV := Hid.mk' (mvAt_row HO.out)
            have HB6 := Hid.mk' (below_chain HB5.out HB.out)
            clear HO
            go_wp2_with fail
            refine (HAF.out wr _ ml HB6.out HV.out (by omega)).mono ?_
            rintro e w7 ⟨r, rfl, _, hr1, hb7⟩
            rw [HOM.out.1] at hr1 ⊢
            have hr2 := hr1 rfl
            have HB7 := Hid.mk' (below_chain HB6.out hb7)
            have hle7 := HB7.out.size
            have HB8 := Hid.mk' (HB7.out.alloc hle7 (.cells #[.int .i64 0, .int .i64 (-1)] 40))
            have hb8 : Below w7.heap.size w7 (w7.alloc (.cells #[.int .i64 0, .int .i64 (-1)] 40)) := (Below.refl _ _).alloc (Nat.le_refl _) _
            have hFN := Falling_any r n (apZ n p ml) _ (hr2.later hb8) (by omega)
            rw [HOM.out.2] at hFN
            clear hb7 hb8 hr1 hr2
            go_wp2_with fail
            refine hFN.mono ?_
            clear hFN
            rintro e w9 ⟨v9, rfl, hf9, hb9⟩
            have HB9 := Hid.mk' (below_chain HB8.out hb9)
            have HF9 := Hid.mk' hf9
            clear hf9 hb9
            go_wp2_with fail
            refine (HFQ.out w9 HB9.out).mono ?_
            rintro e w10 ⟨v10, rfl, hf10, hb10⟩
            have HB10 := Hid.mk' (below_chain HB9.out hb10)
            have HSI := Hid.mk' (SameInts_any v9 v10 _ _ w10 (HF9.out.nums.later hb10) hf10.nums (by rw [fallL_length]; omega))
            clear hf10 hb10
            go_wp2_with fail
            refine HSI.out.mono ?_
            rintro e w11 ⟨rfl, hb11⟩
            have HB11 := Hid.mk' (below_chain HB10.out hb11)
            clear hb11
            go_wp2_with fail
            go_ret
            exact ⟨rfl, HB11.out⟩
    · have hme : mvE n m p q = prE n p m q := by unfold mvE; rw [if_neg h0]
      have HMB' := Hid.mk' (fun (W : World) (x y : Value) (hb : Below w.heap.size w W) (hx : NumsAt W x n p) (hy : NumsAt W y m q) => HMB.out W x y hb hx hy (by omega))
      rw [hme] at HMB' HCD
      clear hbig HMB HIS HP HQ HE hme
      have hk : ((prE n p m q : Int) == 0) = false := by simp; exact h0
      have hk2 : (0 : Int) < (prE n p m q : Int) := by omega
      clear h0
      generalize prE n p m q = c at *
      generalize errV a c = er at *
      go_enter Tryd.func4, Tryd.ntmps4
      go_wp2_with fail
      refine hU.mono ?_
      rintro e w1 ⟨rfl, hb1⟩
      have HB1 := Hid.mk' hb1
      clear hb1 hU
      go_wp2_with fail
      refine (HLE.out w1 HB1.out).mono ?_
      rintro e w1' ⟨rfl, hw1⟩
      rw [hw1]
      clear hw1
      go_wp2_with fail
      refine (HIP.out w1 HB1.out).mono ?_
      rintro e w3 ⟨v3, rfl, hn3, hb3⟩
      have HN3 := Hid.mk' hn3
      have HB3 := Hid.mk' (below_chain HB1.out hb3)
      clear hn3 hb3
      go_wp2_with fail
      refine (HIQ.out w3 HB3.out).mono ?_
      rintro e w4 ⟨v4, rfl, hn4, hb4⟩
      have HN4 := Hid.mk' hn4
      have HN3' := Hid.mk' (HN3.out.later hb4)
      have HB4 := Hid.mk' (below_chain HB3.out hb4)
      clear hn4 hb4
      go_wp2_with fail
      refine (HMB'.out w4 v3 v4 HB4.out HN3'.out HN4.out).mono ?_
      rintro e w5 ⟨rfl, hb5⟩
      have HB5 := Hid.mk' (below_chain HB4.out hb5)
      clear hb5
      go_wp2_with fail
      refine (HCD.out w5 HB5.out).mono ?_
      rintro e w6 ⟨rfl, hb6⟩
      have HB6 := Hid.mk' (below_chain HB5.out hb6)
      clear hb6
      go_wp2_with fail
      go_ret
      exact ⟨rfl, HB6.out⟩
theorem OrderMoves_main (a : Nat → Addr) (ad : Option Addr) (n cap : Nat) (z : Nat → Int) (ad1 : Option Addr) (n1 cap1 : Nat) (z1 : Nat → Int) (w : World) (hE : Errs w a) (h : NumsAt w (.slice ad n cap) n z) (_ : n ≤ maxLen) (h1 : NumsAt w (.slice ad1 n1 cap1) n1 z1) (_ : n1 ≤ maxLen) :
    Calls Tryd.prog 4 #[.slice ad n cap, .slice ad1 n1 cap1] w fun e w' => e = .returned (.bool true) ∧ Below w.heap.size w w' :=
  OrderMoves_all a _ _ n n1 z z1 w hE h h1
end Go.Proofs.YtgopohbombnflaaDoor
