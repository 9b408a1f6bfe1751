/- zero.grow: goes through sets of which each two fit, and tells each one. -/
import Derived.Test.YtojljmapdafmaaaDoorZeSet
import Derived.Test.YtojljmapdafmaaaDoorZeADM
import Derived.Test.YtojljmapdafmaaaDoorOwn
import Derived.Deep.RegionHeld3
import Derived.Laws.EntriesVeiled
namespace Go.Proofs.YtojljmapdafmaaaDoor
open Go.RowKit

set_option maxRecDepth 100000 in
set_option maxHeartbeats 4000000 in
theorem from_any {σ : Type} (tell : σ → List Nat → List Nat → σ × Bool) (fit : Nat → Nat) (Inv : σ → World → Prop) (K : Nat) (cap : Array Value) (tb rb fb fg n c : Nat)
    (hent : ∀ (args : Array Value) (w : World), (callFunc K args).run Tryd.prog w = .ok (.enter K args) w)
    (hn : n ≤ 16) (hfit : ∀ v, v < n → fit v < 18446744073709551616)
    (hc : ∀ s W, Inv s W → W.cell? ⟨tb, 0, none⟩ = some (.func (.func K) #[] cap) ∧ W.cell? ⟨rb, 0, none⟩ = some (.func (.func 58) #[] #[.pointer (some ⟨tb, 0, none⟩), .pointer (some ⟨rb, 0, none⟩), .pointer (some ⟨fb, 0, none⟩)]) ∧ W.cell? ⟨fb, 0, none⟩ = some (.slice (some ⟨fg, 0, none⟩) n c) ∧ (∀ v, v < n → W.cell? ⟨fg, v, none⟩ = some (.int .u64 (fit v : Nat))) ∧ TzAt W)
    (hd : ∀ s W, Inv s W → Inv s W.drew)
    (ht : ∀ s g l W, Inv s W → Asc n g → Asc n l → Calls Tryd.prog K (#[.int .u64 (bitZ g : Nat), .int .u64 (bitZ l : Nat)] ++ cap) W fun e W' => e = .returned (.bool (tell s g l).2) ∧ Inv (tell s g l).1 W') :
    ∀ (f k : Nat), k ≤ f → ∀ (s : σ) (g l : List Nat) (W : World), Inv s W → l.length ≤ k → Asc n g → Asc n l → (∀ x ∈ g, ∀ y ∈ l, x < y) →
      Calls Tryd.prog 58 #[.int .u64 (bitZ g : Nat), .int .u64 (bitZ l : Nat), .pointer (some ⟨tb, 0, none⟩), .pointer (some ⟨rb, 0, none⟩), .pointer (some ⟨fb, 0, none⟩)] W fun e W' => e = .returned (.tuple #[]) ∧ Inv (fromG tell (okF fit) k s g l) W'
  | f, k, hkf, s, g, l, W, hI, hl, hg, hla, hgl => by
    have HI : Hid (∀ k', k' < k → ∀ (s : σ) (g l : List Nat) (W : World), Inv s W → l.length ≤ k' → Asc n g → Asc n l → (∀ x ∈ g, ∀ y ∈ l, x < y) →
        Calls Tryd.prog 58 #[.int .u64 (bitZ g : Nat), .int .u64 (bitZ l : Nat), .pointer (some ⟨tb, 0, none⟩), .pointer (some ⟨rb, 0, none⟩), .pointer (some ⟨fb, 0, none⟩)] W fun e W' => e = .returned (.tuple #[]) ∧ Inv (fromG tell (okF fit) k' s g l) W') := fun k' hk' => by
      match f, hkf with
      | 0, hkf => omega
      | f + 1, hkf => exact from_any tell fit Inv K cap tb rb fb fg n c hent hn hfit hc hd ht f k' (by omega)
    have HC := Hid.mk' hc
    have HD := Hid.mk' hd
    have HFIT := Hid.mk' hfit
    have HG := Hid.mk' hg
    have HLA := Hid.mk' hla
    have HGL := Hid.mk' hgl
    have HL := Hid.mk' hl
    have hct := (hc s W hI).1
    have hcall := ht s g l W hI hg hla
    have HFR : Hid (fromG tell (okF fit) k s g l = if (tell s g l).2 then loopG tell (okF fit) k (tell s g l).1 g l else (tell s g l).1) := rfl
    generalize hR : fromG tell (okF fit) k s g l = R at *
    clear hc hd hfit hg hla hgl hl ht hkf hR
    generalize tell s g l = T at *
    obtain ⟨s1, b⟩ := T
    go_enter Tryd.func58, Tryd.ntmps58
    go_wp2_with fail
    refine hcall.mono ?_
    rintro e W1 ⟨rfl, hI1⟩
    have HI1 := Hid.mk' hI1
    clear hcall hct hI1
    cases b
    · go_wp2_with fail
      refine bodyPost_ret (v := .tuple #[]) (by simp [results, Tryd.results58]) rfl ⟨rfl, ?_⟩
      have := HFR.out
      rw [if_neg (by decide)] at this
      rw [this]
      exact HI1.out
    · have HR : Hid (R = loopG tell (okF fit) k s1 g l) := by have := HFR.out; rwa [if_pos rfl] at this
      clear HFR
      go_wp2_with fail
      go_loopw [1] (fun lv wr => ∃ (j : Nat) (s' : σ) (r : List Nat), j ≤ k ∧ lv = .int .u64 (bitZ r : Nat) ∧ Hid (Inv s' wr) ∧ Hid (r.length ≤ j) ∧ Hid (Asc n r) ∧ Hid (∀ x ∈ g, ∀ y ∈ r, x < y) ∧ Hid (R = loopG tell (okF fit) j s' g r)) (fun lv _ => (intOf lv).toNat)
      case atStart => exact ⟨k, s1, l, Nat.le_refl _, rfl, HI1, HL, HLA, HGL, HR⟩
      case round =>
        clear HI1 HL HLA HGL HR
        obtain ⟨j, s', r, hj, rfl, HI1, HL, HLA, HGL, HR⟩ := hrel
        rcases r with _ | ⟨v, r⟩
        · go_wp2_with fail
          refine bodyPost_end (v := .tuple #[]) (by simp [results, Tryd.results58]) rfl ⟨rfl, ?_⟩
          rw [HR.out, loopG_nil]
          exact HI1.out
        · obtain ⟨j, rfl⟩ : ∃ j', j = j' + 1 := ⟨j - 1, by have := HL.out; simp only [List.length_cons] at this; omega⟩
          obtain ⟨hvn, hvr⟩ := HLA.out.head
          have h16 := HLA.out.more hn
          have h64 := h16.more (m := 64) (by decide)
          have hv64 : v < 64 := by omega
          have HF1 := Hid.mk' (setFirst_any v r h64 wr (HC.out s' wr HI1.out).2.2.2.2)
          have HA2 : Hid (Asc n (g ++ [v])) := HG.out.snoc hvn fun x hx => HGL.out x hx v List.mem_cons_self
          have HA3 : Hid (Asc n (r.filter (okF fit v))) := HLA.out.tail.filter _
          have HL3 : Hid ((r.filter (okF fit v)).length ≤ j) := by have := HL.out; simp only [List.length_cons] at this; exact Nat.le_trans (List.length_filter_le _ _) (by omega)
          have HGL3 : Hid (∀ x ∈ g ++ [v], ∀ y ∈ r.filter (okF fit v), x < y) := fun x hx y hy => by
            have hy' := (List.mem_filter.1 hy).1
            rcases List.mem_append.1 hx with h1 | h1
            · exact HGL.out x h1 y (List.mem_cons_of_mem _ hy')
            · rw [List.mem_singleton.1 h1]; exact hvr y hy'
          have HCL : Hid (∀ W, Inv s' W → Calls Tryd.prog 58 #[.int .u64 (bitZ (g ++ [v]) : Nat), .int .u64 (bitZ (r.filter (okF fit v)) : Nat), .pointer (some ⟨tb, 0, none⟩), .pointer (some ⟨rb, 0, none⟩), .pointer (some ⟨fb, 0, none⟩)] W fun e W' => e = .returned (.tuple #[]) ∧ Inv (fromG tell (okF fit) j s' (g ++ [v]) (r.filter (okF fit v))) W') := fun W hW => HI.out j (by omega) s' _ _ W hW HL3.out HA2.out HA3.out HGL3.out
          have HNX : Hid (Asc n r ∧ r.length ≤ j ∧ (∀ x ∈ g, ∀ y ∈ r, x < y) ∧ R = loopG tell (okF fit) j (fromG tell (okF fit) j s' (g ++ [v]) (r.filter (okF fit v))) g r) := ⟨HLA.out.tail, by have := HL.out; simp only [List.length_cons] at this; omega, fun x hx y hy => HGL.out x hx y (List.mem_cons_of_mem _ hy), HR.out.trans (loopG_cons ..)⟩
          have HLT : Hid (bitZ r < bitZ (v :: r)) := by
            obtain ⟨m, e1, e2⟩ := low_form hvr
            show _ < _
            rw [e1, e2, Nat.pow_succ, Nat.mul_add, Nat.mul_one, Nat.mul_assoc]
            have := Nat.two_pow_pos v
            omega
          have hp64 : 2 ^ v < 18446744073709551616 := Nat.pow_lt_pow_right (a := 2) (n := 64) (by decide) hv64
          have hX64 : bitZ (v :: r) < 18446744073709551616 := h64.lt
          have hY64 : bitZ r < 18446744073709551616 := h64.tail.lt
          have hG64 : bitZ g < 18446744073709551616 := (HG.out.more (by omega : n ≤ 64)).lt
          have hf64 := HFIT.out v hvn
          have hs := shl_one hv64
          have hor : bits .or .u64 ((bitZ g : Nat) : Int) ((2 ^ v : Nat) : Int) = ((bitZ (g ++ [v]) : Nat) : Int) := by rw [u64_or_nat _ _ hG64 hp64, bitZ_snoc]
          have hdr : bits .andNot .u64 ((bitZ (v :: r) : Nat) : Int) ((2 ^ v : Nat) : Int) = ((bitZ r : Nat) : Int) := by rw [u64_andNot_nat _ _ hX64 hp64, bitZ_drop h64]
          have han : bits .and .u64 ((bitZ r : Nat) : Int) ((fit v : Nat) : Int) = ((bitZ (r.filter (okF fit v)) : Nat) : Int) := by
            rw [u64_and_nat _ _ hY64 hf64, bitZ_and]; rfl
          have hx0 : (((bitZ (v :: r) : Nat) : Int) == 0) = false := by
            have := bitZ_pos (v := v) (r := r)
            simp; omega
          have HKS : Hid (∀ W, Inv s' W → W.cell? ⟨rb, 0, none⟩ = some (.func (.func 58) #[] #[.pointer (some ⟨tb, 0, none⟩), .pointer (some ⟨rb, 0, none⟩), .pointer (some ⟨fb, 0, none⟩)]) ∧ W.cell? ⟨fb, 0, none⟩ = some (.slice (some ⟨fg, 0, none⟩) n c) ∧ W.cell? ⟨fg, v, none⟩ = some (.int .u64 (fit v : Nat))) := fun W hW => ⟨(HC.out s' W hW).2.1, (HC.out s' W hW).2.2.1, (HC.out s' W hW).2.2.2.1 v hvn⟩
          have HKE : Hid (∀ s W, Inv s W → W.cell? ⟨rb, 0, none⟩ = some (.func (.func 58) #[] #[.pointer (some ⟨tb, 0, none⟩), .pointer (some ⟨rb, 0, none⟩), .pointer (some ⟨fb, 0, none⟩)]) ∧ W.cell? ⟨fb, 0, none⟩ = some (.slice (some ⟨fg, 0, none⟩) n c) ∧ W.cell? ⟨fg, v, none⟩ = some (.int .u64 (fit v : Nat))) := fun s W hW => ⟨(HC.out s W hW).2.1, (HC.out s W hW).2.2.1, (HC.out s W hW).2.2.2.1 v hvn⟩
          have hv0 : (0 : Int) ≤ (v : Int) := by omega
          have hvnI : (v : Int) < (n : Int) := by omega
          have hnI : (n : Int) ≤ 16 := by omega
          have hcur0 := HI1.out
          have hcur := HD.out _ _ HI1.out
          have HHI := Hid.mk' HI1.out
          clear HL HLA HGL HR h16 h64 hp64 hX64 hY64 hG64 hf64 HA2 HA3 HL3 HGL3 hvr HI1
          generalize fromG tell (okF fit) j s' (g ++ [v]) (r.filter (okF fit v)) = s2 at *
          generalize hR2 : bitZ r = Y at *
          generalize bitZ (v :: r) = X at *
          generalize bitZ (g ++ [v]) = G2 at *
          generalize bitZ (r.filter (okF fit v)) = L2 at *
          generalize hP : 2 ^ v = P at hs hor hdr
          generalize fit v = fv at *
          have HR2 := Hid.mk' hR2
          clear hP hR2
          go_wp2_with fail
          refine HF1.out.mono ?_
          rintro e w' ⟨rfl, hw'⟩
          rw [hw']
          clear hw' HF1
          go_wp2_with fail
          go_region_held3 (fun W => W.cell? ⟨rb, 0, none⟩ = some (.func (.func 58) #[] #[.pointer (some ⟨tb, 0, none⟩), .pointer (some ⟨rb, 0, none⟩), .pointer (some ⟨fb, 0, none⟩)]) ∧ W.cell? ⟨fb, 0, none⟩ = some (.slice (some ⟨fg, 0, none⟩) n c) ∧ W.cell? ⟨fg, v, none⟩ = some (.int .u64 (fv : Nat)))
            (first | exact HKE.out _ _ hcur | exact HKE.out _ _ hcur0 | exact HKE.out _ _ h5)
            (first
              | (go_at_call 58; refine (HCL.out _ hcur).mono ?_; rintro e w5 ⟨rfl, h5⟩))
          go_wp2_with fail
          exact ⟨⟨j, s2, r, by omega, by rw [HR2.out], h5, HNX.out.2.1, HNX.out.1, HNX.out.2.2.1, HNX.out.2.2.2⟩, by simp [intOf]; have := HLT.out; omega⟩
end Go.Proofs.YtojljmapdafmaaaDoor
