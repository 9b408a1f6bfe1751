/- zero.grow: its boxes. -/
import Derived.Test.YtojljmapdafmaaaDoorZeGrow
namespace Go.Proofs.YtojljmapdafmaaaDoor
open Go.RowKit

theorem grown_trans {w W W' : World} {b : Nat} (h : w.grownBy W (some b)) (h' : W.grownBy W' (some b)) : w.grownBy W' (some b) := by
  obtain ⟨a1, a2, a3, a4, a5⟩ := h
  obtain ⟨b1, b2, b3, b4, b5⟩ := h'
  exact ⟨b1.trans a1, b2.trans a2, b3.trans a3, Nat.le_trans a4 b4, fun k hk hne => (b5 k (Nat.lt_of_lt_of_le hk a4) hne).trans (a5 k hk hne)⟩
theorem grownZ_below {w W : World} {b : Nat} (h : Below w.heap.size w W) : w.grownBy W (some b) := ⟨h.os, h.tape, h.output, h.size, fun k hk _ => h.block k hk⟩

set_option maxRecDepth 100000 in
set_option maxHeartbeats 4000000 in
theorem grow_any {σ : Type} (tell : σ → List Nat → List Nat → σ × Bool) (fit : Nat → Nat) (enc : σ → Value) (K : Nat) (cap : Array Value) (gb fg n c : Nat) (w : World) (s0 : σ) (Ok : σ → Prop) (hk0 : Ok s0) (hok : ∀ s g l, Ok s → Asc n g → Asc n l → Ok (tell s g l).1)
    (hent : ∀ (args : Array Value) (w : World), (callFunc K args).run Tryd.prog w = .ok (.enter K args) w)
    (hn : n ≤ 16) (hfit : ∀ v, v < n → fit v < 18446744073709551616) (hrow : ∀ v, v < n → w.cell? ⟨fg, v, none⟩ = some (.int .u64 (fit v : Nat))) (hfg : fg ≠ gb) (hgt : gb ≠ 9) (htz : TzAt w)
    (hbox : w.cell? ⟨gb, 0, none⟩ = some (enc s0)) (hfz : w.frozen? ⟨gb, 0, none⟩ = false)
    (ht : ∀ s g l W, Ok s → w.grownBy W (some gb) → W.cell? ⟨gb, 0, none⟩ = some (enc s) → W.frozen? ⟨gb, 0, none⟩ = false → Asc n g → Asc n l → Calls Tryd.prog K (#[.int .u64 (bitZ g : Nat), .int .u64 (bitZ l : Nat)] ++ cap) W fun e W' => e = .returned (.bool (tell s g l).2) ∧ W.grownBy W' (some gb) ∧ W'.cell? ⟨gb, 0, none⟩ = some (enc (tell s g l).1) ∧ W'.frozen? ⟨gb, 0, none⟩ = false) :
    Calls Tryd.prog 44 #[.slice (some ⟨fg, 0, none⟩) n c, .func (.func K) #[] cap] w fun e w' => e = .returned (.tuple #[]) ∧ w.grownBy w' (some gb) ∧ w'.cell? ⟨gb, 0, none⟩ = some (enc (fromG tell (okF fit) n s0 [] (List.range n))) ∧ w'.frozen? ⟨gb, 0, none⟩ = false ∧ Ok (fromG tell (okF fit) n s0 [] (List.range n)) := by
  obtain ⟨W0, hW0⟩ : ∃ W0, W0 = ((w.alloc (.cells #[.slice (some ⟨fg, 0, none⟩) n c] 74)).alloc (.cells #[.func (.func K) #[] cap] 80)).alloc (.cells #[.func (.func 58) #[] #[.pointer (some ⟨w.heap.size + 1, 0, none⟩), .pointer (some ⟨w.heap.size + 1 + 1, 0, none⟩), .pointer (some ⟨w.heap.size, 0, none⟩)]] 98) := ⟨_, rfl⟩
  have hb0 : Below w.heap.size w W0 := by
    rw [hW0]
    exact (((Below.refl _ _).alloc (Nat.le_refl _) _).alloc (by simp) _).alloc (by simp; omega) _
  have c0 : W0.cell? ⟨w.heap.size, 0, none⟩ = some (.slice (some ⟨fg, 0, none⟩) n c) := by rw [hW0]; go_simp
  have c1 : W0.cell? ⟨w.heap.size + 1, 0, none⟩ = some (.func (.func K) #[] cap) := by rw [hW0]; go_simp
  have c2 : W0.cell? ⟨w.heap.size + 1 + 1, 0, none⟩ = some (.func (.func 58) #[] #[.pointer (some ⟨w.heap.size + 1, 0, none⟩), .pointer (some ⟨w.heap.size + 1 + 1, 0, none⟩), .pointer (some ⟨w.heap.size, 0, none⟩)]) := by rw [hW0]; go_simp
  have hgbl : gb < w.heap.size := cell_lt hbox
  have htl : 9 < w.heap.size := cell_lt (htz 0 (by decide))
  let Inv : σ → World → Prop := fun s W => w.grownBy W (some gb) ∧ W.cell? ⟨gb, 0, none⟩ = some (enc s) ∧ W.frozen? ⟨gb, 0, none⟩ = false ∧ W0.grownBy W (some gb) ∧ Ok s
  have hfar : ∀ s W, Inv s W → ∀ b j, b < W0.heap.size → gb ≠ b → W.cell? ⟨b, j, none⟩ = W0.cell? ⟨b, j, none⟩ := fun s W hI b j hb hne => hI.2.2.2.1.cell_far ⟨b, j, none⟩ hb (fun e => hne (Option.some.inj e).symm)
  have hsz : W0.heap.size = w.heap.size + 3 := by rw [hW0]; simp
  have hIc : ∀ s W, Inv s W → W.cell? ⟨w.heap.size + 1, 0, none⟩ = some (.func (.func K) #[] cap) ∧ W.cell? ⟨w.heap.size + 1 + 1, 0, none⟩ = some (.func (.func 58) #[] #[.pointer (some ⟨w.heap.size + 1, 0, none⟩), .pointer (some ⟨w.heap.size + 1 + 1, 0, none⟩), .pointer (some ⟨w.heap.size, 0, none⟩)]) ∧ W.cell? ⟨w.heap.size, 0, none⟩ = some (.slice (some ⟨fg, 0, none⟩) n c) ∧ (∀ v, v < n → W.cell? ⟨fg, v, none⟩ = some (.int .u64 (fit v : Nat))) ∧ TzAt W := fun s W hI => by
    refine ⟨?_, ?_, ?_, fun v hv => ?_, fun j hj => ?_⟩
    · rw [hfar s W hI _ _ (by omega) (by omega)]; exact c1
    · rw [hfar s W hI _ _ (by omega) (by omega)]; exact c2
    · rw [hfar s W hI _ _ (by omega) (by omega)]; exact c0
    · have := cell_lt (hrow v hv)
      rw [hI.1.cell_far ⟨fg, v, none⟩ this (fun e => hfg (Option.some.inj e))]; exact hrow v hv
    · rw [hI.1.cell_far ⟨9, j, none⟩ htl (fun e => hgt (Option.some.inj e).symm)]; exact htz j hj
  have hId : ∀ s W, Inv s W → Inv s W.drew := fun s W hI => ⟨⟨hI.1.1, hI.1.2, hI.1.3, hI.1.4, hI.1.5⟩, hI.2.1, hI.2.2.1, ⟨hI.2.2.2.1.1, hI.2.2.2.1.2, hI.2.2.2.1.3, hI.2.2.2.1.4, hI.2.2.2.1.5⟩, hI.2.2.2.2⟩
  have hFr := from_any tell fit Inv K cap (w.heap.size + 1) (w.heap.size + 1 + 1) w.heap.size fg n c hent hn hfit hIc hId (fun s g l W hI hg hl => (ht s g l W hI.2.2.2.2 hI.1 hI.2.1 hI.2.2.1 hg hl).mono fun e W' h => ⟨h.1, grown_trans hI.1 h.2.1, h.2.2.1, h.2.2.2, grown_trans hI.2.2.2.1 h.2.1, hok s g l hI.2.2.2.2 hg hl⟩) n n (Nat.le_refl _) s0 [] (List.range n)
  have HFR : Hid (∀ W, Inv s0 W → Calls Tryd.prog 58 #[.int .u64 0, .int .u64 (bitZ (List.range n) : Nat), .pointer (some ⟨w.heap.size + 1, 0, none⟩), .pointer (some ⟨w.heap.size + 1 + 1, 0, none⟩), .pointer (some ⟨w.heap.size, 0, none⟩)] W fun e W' => e = .returned (.tuple #[]) ∧ Inv (fromG tell (okF fit) n s0 [] (List.range n)) W') := fun W hW => hFr W hW (by simp) ⟨List.Pairwise.nil, fun _ h => by cases h⟩ (Asc.range n) (fun _ h => by cases h)
  have HS0 : Hid (Inv s0 W0) := ⟨grownZ_below hb0, by rw [hb0.cell (p := ⟨gb, 0, none⟩) hgbl]; exact hbox, by rw [hb0.frozen (p := ⟨gb, 0, none⟩) hgbl]; exact hfz, ⟨rfl, rfl, rfl, Nat.le_refl _, fun _ _ _ => rfl⟩, hk0⟩
  have HUP : Hid (∀ W, Calls Tryd.prog 60 #[.int .i64 n] W fun e w' => e = .returned (.int .u64 (bitZ (List.range n) : Nat)) ∧ w' = W) := fun W => upTo_any n (by omega) W
  have HEND : Hid (∀ s W, Inv s W → w.grownBy W (some gb) ∧ W.cell? ⟨gb, 0, none⟩ = some (enc s) ∧ W.frozen? ⟨gb, 0, none⟩ = false ∧ Ok s) := fun s W h => ⟨h.1, h.2.1, h.2.2.1, h.2.2.2.2⟩
  have HKE : Hid (∀ s W, Inv s W → W.cell? ⟨w.heap.size + 1 + 1, 0, none⟩ = some (.func (.func 58) #[] #[.pointer (some ⟨w.heap.size + 1, 0, none⟩), .pointer (some ⟨w.heap.size + 1 + 1, 0, none⟩), .pointer (some ⟨w.heap.size, 0, none⟩)]) ∧ W.cell? ⟨w.heap.size, 0, none⟩ = some (.slice (some ⟨fg, 0, none⟩) n c)) := fun s W h => ⟨(hIc s W h).2.1, (hIc s W h).2.2.1⟩
  have HW0 := Hid.mk' hW0
  have HD := Hid.mk' hId
  clear hb0 c0 c1 c2 hIc hId hFr hfar hsz ht hrow hbox hfz htz hfit hW0 hfg hgt htl hgbl hok
  generalize fromG tell (okF fit) n s0 [] (List.range n) = s1 at *
  generalize bitZ (List.range n) = U at *
  clear_value Inv
  have hnI : (n : Int) ≤ 16 := by omega
  go_enter Tryd.func44, Tryd.ntmps44
  go_wp2_with fail
  rw [← HW0.out]
  have hcur0 := HS0.out
  have hcur := HD.out _ _ HS0.out
  go_region_held3 (fun W => W.cell? ⟨w.heap.size + 1 + 1, 0, none⟩ = some (.func (.func 58) #[] #[.pointer (some ⟨w.heap.size + 1, 0, none⟩), .pointer (some ⟨w.heap.size + 1 + 1, 0, none⟩), .pointer (some ⟨w.heap.size, 0, none⟩)]) ∧ W.cell? ⟨w.heap.size, 0, none⟩ = some (.slice (some ⟨fg, 0, none⟩) n c))
    (first | exact HKE.out _ _ hcur | exact HKE.out _ _ hcur0 | exact HKE.out _ _ h5)
    (first
      | (go_at_call 58; refine (HFR.out _ hcur).mono ?_; rintro e w5 ⟨rfl, h5⟩)
      | (go_at_call 60; refine (HUP.out _).mono ?_; rintro e w4 ⟨rfl, hw4⟩; rw [hw4]; clear hw4))
  go_wp2_with fail
  refine bodyPost_end (v := .tuple #[]) (by simp [results, Tryd.results44]) rfl ⟨rfl, HEND.out _ _ h5⟩
end Go.Proofs.YtojljmapdafmaaaDoor
