/- The linear families: the program's. -/
import Derived.Test.YtiegobkbinojeaaDoorRyLin
import Derived.Test.YtiegobkbinojeaaDoorLastOp
import Derived.Test.YtiegobkbinojeaaDoorTabCopy
namespace Go.Proofs.YtiegobkbinojeaaDoor
open Go.RowKit

theorem own_geR {w : World} {B e s n : Nat} {v : Value} {xs : List Value} (h : w.ownsRow B e s v n xs) {b : Nat} (hb : v.ownBlock = some b) : B ≤ b ∧ b < w.heap.size := by
  rcases h.2 with ⟨rfl, _⟩ | ⟨g, cap, cur, rfl, hg, hh, _⟩
  · cases hb
  · obtain rfl : g = b := by simpa [Value.ownBlock] using hb
    exact ⟨hg, heap_lt hh⟩
theorem own_lowR {w : World} {base : Nat} {e : TypeId} {s n : Nat} {v y : Value} {xs : List Value} {p : Addr} (h : w.ownsRow base e s v n xs) (hp : p.block < base) : (w.setCell p y).ownsRow base e s v n xs := by
  refine ⟨h.1, ?_⟩
  rcases h.2 with hn | ⟨g, cap, cur, hv, hg, hh, rest⟩
  · exact Or.inl hn
  · refine Or.inr ⟨g, cap, cur, hv, hg, ?_, rest⟩
    rw [Below.heap_setCell _ _ _ _ (fun e => by omega)]
    exact hh
theorem own_formR {w : World} {base : Nat} {t : TypeId} {sz : Nat} {v : Value} {n : Nat} {xs : List Value} (h : w.ownsRow base t sz v n xs) : ∃ ad cap, v = .slice ad n cap := by
  rcases h.2 with ⟨rfl, rfl⟩ | ⟨g, cap, cur, rfl, _⟩
  · exact ⟨_, _, rfl⟩
  · exact ⟨_, _, rfl⟩
/-- A family that grows, in its box; the box of what is returned. -/
structure LinAt (w wr : World) (B ob rb : Nat) (p : Int) (sv : Value) (R n : Nat) (us : Nat → Value) (zs : Nat → Nat → Int) : Prop where
  below : Below w.heap.size w wr
  hB : B ≤ wr.heap.size
  lt : w.heap.size ≤ ob ∧ ob < B ∧ w.heap.size ≤ rb ∧ rb < B ∧ rb ≠ ob
  c0 : wr.cell? ⟨ob, 0, none⟩ = some (.int .i64 p)
  c1 : wr.cell? ⟨ob, 1, none⟩ = some sv
  fz : wr.frozen? ⟨ob, 1, none⟩ = false
  r0 : wr.cell? ⟨rb, 0, none⟩ = some (.int .i64 0)
  r1 : wr.cell? ⟨rb, 1, none⟩ = some (.slice none 0 0)
  rz : wr.frozen? ⟨rb, 0, none⟩ = false ∧ wr.frozen? ⟨rb, 1, none⟩ = false
  own : wr.ownsRow B 39 1 sv R (rowV us R)
  rows : ∀ i, i < R → ∃ g, us i = .slice (some ⟨g, 0, none⟩) n n ∧ B ≤ g ∧ g < wr.heap.size ∧ sv.ownBlock ≠ some g ∧ RowAt wr g 0 n (zs i)
theorem LinAt.later {w wr wn : World} {B ob rb : Nat} {p : Int} {sv : Value} {R n : Nat} {us : Nat → Value} {zs : Nat → Nat → Int} (h : LinAt w wr B ob rb p sv R n us zs) (hb : Below wr.heap.size wr wn) : LinAt w wn B ob rb p sv R n us zs :=
  ⟨h.below.trans (hb.mono h.below.size), Nat.le_trans h.hB hb.size, h.lt, by rw [hb.cell (cell_lt h.c0)]; exact h.c0, by rw [hb.cell (cell_lt h.c1)]; exact h.c1, by rw [hb.frozen (cell_lt h.c1)]; exact h.fz, by rw [hb.cell (cell_lt h.r0)]; exact h.r0, by rw [hb.cell (cell_lt h.r1)]; exact h.r1, ⟨by rw [hb.frozen (cell_lt h.r0)]; exact h.rz.1, by rw [hb.frozen (cell_lt h.r1)]; exact h.rz.2⟩, own_past h.own hb, fun i hi => by
    obtain ⟨g, h1, h2, h3, h4, h5⟩ := h.rows i hi
    exact ⟨g, h1, h2, Nat.lt_of_lt_of_le h3 hb.size, h4, h5.later hb⟩⟩
theorem LinAt.push {w wr w3 : World} {B ob rb g cap : Nat} {p : Int} {sv : Value} {R n b : Nat} {us : Nat → Value} {zs : Nat → Nat → Int} {z : Nat → Int} (h : LinAt w wr B ob rb p sv R n us zs)
    (hg : wr.grownBy w3 sv.ownBlock) (hown : w3.ownsRow B 39 1 (.slice (some ⟨g, 0, none⟩) (R + 1) cap) (R + 1) (rowV us R ++ [.slice (some ⟨b, 0, none⟩) n n])) (hat : sv.ownBlock = some g ∨ g = wr.heap.size)
    (hb0 : B ≤ b) (hb1 : b < wr.heap.size) (hb2 : sv.ownBlock ≠ some b) (hrow : RowAt wr b 0 n z) (hz : zs R = z) :
    w3.cell? ⟨ob, 1, none⟩ = some sv ∧ w3.frozen? ⟨ob, 1, none⟩ = false ∧ LinAt w (w3.setCell ⟨ob, 1, none⟩ (.slice (some ⟨g, 0, none⟩) (R + 1) cap)) B ob rb p (.slice (some ⟨g, 0, none⟩) (R + 1) cap) (R + 1) n (fun i => if i = R then .slice (some ⟨b, 0, none⟩) n n else us i) zs := by
  have blk : ∀ q, q < B → w3.heap[q]? = wr.heap[q]? := fun q hq => hg.block q (Nat.lt_of_lt_of_le hq h.hB) (fun e => by have := (own_geR h.own e.symm).1; omega)
  have cel : ∀ q j, q < B → w3.cell? ⟨q, j, none⟩ = wr.cell? ⟨q, j, none⟩ := fun q j hq => World.cell?_of_block (a := ⟨q, j, none⟩) (blk q hq)
  have frz : ∀ q j, q < B → w3.frozen? ⟨q, j, none⟩ = wr.frozen? ⟨q, j, none⟩ := fun q j hq => World.frozen?_of_block (a := ⟨q, j, none⟩) (blk q hq)
  obtain ⟨l1, l2, l3, l4, l5⟩ := h.lt
  have k0 : w3.cell? ⟨ob, 0, none⟩ = some (.int .i64 p) := by rw [cel ob 0 l2]; exact h.c0
  have k1 : w3.cell? ⟨ob, 1, none⟩ = some sv := by rw [cel ob 1 l2]; exact h.c1
  have kf : w3.frozen? ⟨ob, 1, none⟩ = false := by rw [frz ob 1 l2]; exact h.fz
  have hbel : Below w.heap.size w w3 := h.below.grown hg h.below.size (fun q hq => by have := (own_geR h.own hq).1; omega)
  have off : ∀ j, (⟨ob, 1, none⟩ : Addr) ≠ ⟨rb, j, none⟩ := fun j e => l5 (congrArg Addr.block e).symm
  have far : ∀ q y, B ≤ q → q < wr.heap.size → sv.ownBlock ≠ some q → RowAt wr q 0 n y → RowAt (w3.setCell ⟨ob, 1, none⟩ (.slice (some ⟨g, 0, none⟩) (R + 1) cap)) q 0 n y ∧ (Value.slice (some ⟨g, 0, none⟩) (R + 1) cap).ownBlock ≠ some q := fun q y hq hq2 hne hr => by
    refine ⟨fun i hi => ?_, fun e => ?_⟩
    · rw [World.cell?_setCell_other _ _ _ _ (fun e => by have := congrArg Addr.block e; simp at this; omega), World.cell?_of_block (a := ⟨q, 0 + i, none⟩) (hg.block q hq2 (fun e => hne e.symm))]
      exact hr i hi
    · have e' : g = q := by simpa [Value.ownBlock] using e
      rcases hat with h1 | h1
      · exact hne (by rw [h1, e'])
      · omega
  refine ⟨k1, kf, ⟨hbel.setCell l1 _, by simpa using Nat.le_trans h.hB hg.size, h.lt, ?_, ?_, ?_, ?_, ?_, ⟨?_, ?_⟩, ?_, fun i hi => ?_⟩⟩
  · rw [World.cell?_setCell_other _ _ _ _ (by simp)]; exact k0
  · rw [World.cell?_setCell_same _ _ _ k1]
  · rw [World.frozen?_setCell]; exact kf
  · rw [World.cell?_setCell_other _ _ _ _ (off 0), cel rb 0 l4]; exact h.r0
  · rw [World.cell?_setCell_other _ _ _ _ (off 1), cel rb 1 l4]; exact h.r1
  · rw [World.frozen?_setCell, frz rb 0 l4]; exact h.rz.1
  · rw [World.frozen?_setCell, frz rb 1 l4]; exact h.rz.2
  · rw [← rowV_push]
    exact own_lowR hown l2
  · have hsz : ∀ q, q < wr.heap.size → q < (w3.setCell ⟨ob, 1, none⟩ (.slice (some ⟨g, 0, none⟩) (R + 1) cap)).heap.size := fun q hq => by simpa using Nat.lt_of_lt_of_le hq hg.size
    by_cases hi2 : i = R
    · rw [if_pos hi2, hi2, hz]
      have := far b z hb0 hb1 hb2 hrow
      exact ⟨b, rfl, hb0, hsz b hb1, this.2, this.1⟩
    · rw [if_neg hi2]
      obtain ⟨q, h1, h2, h3, h4, h5⟩ := h.rows i (by omega)
      have := far q (zs i) h2 h3 h4 h5
      exact ⟨q, h1, h2, hsz q h3, this.2, this.1⟩
/-- What is returned. -/
theorem LinAt.fin {w wr : World} {B ob rb : Nat} {p : Int} {sv : Value} {R n : Nat} {us : Nat → Value} {zs : Nat → Nat → Int} (h : LinAt w wr B ob rb p sv R n us zs) (hn : 0 < n) :
    TabAt ((wr.setCell ⟨rb, 0, none⟩ (.int .i64 p)).setCell ⟨rb, 1, none⟩ sv) sv R us (fun _ => n) zs ∧ Below w.heap.size w ((wr.setCell ⟨rb, 0, none⟩ (.int .i64 p)).setCell ⟨rb, 1, none⟩ sv) ∧
    (wr.setCell ⟨rb, 0, none⟩ (.int .i64 p)).cell? ⟨rb, 1, none⟩ = some (.slice none 0 0) ∧ ((wr.setCell ⟨rb, 0, none⟩ (.int .i64 p)).setCell ⟨rb, 1, none⟩ sv).cell? ⟨rb, 0, none⟩ = some (.int .i64 p) ∧ ((wr.setCell ⟨rb, 0, none⟩ (.int .i64 p)).setCell ⟨rb, 1, none⟩ sv).cell? ⟨rb, 1, none⟩ = some sv := by
  have h1 : (wr.setCell ⟨rb, 0, none⟩ (.int .i64 p)).cell? ⟨rb, 1, none⟩ = some (.slice none 0 0) := by rw [World.cell?_setCell_other _ _ _ _ (by simp)]; exact h.r1
  obtain ⟨l1, l2, l3, l4, l5⟩ := h.lt
  refine ⟨tabAt_of_row (own_lowR (own_lowR h.own l4) l4) (fun i hi => ?_), (h.below.setCell l3 _).setCell l3 _, h1, ?_, ?_⟩
  · obtain ⟨q, h1, h2, h3, h4, h5⟩ := h.rows i hi
    refine Or.inr ⟨q, 0, n, h1, hn, fun j hj => ?_⟩
    rw [World.cell?_setCell_other _ _ _ _ (fun e => by have := congrArg Addr.block e; simp at this; omega), World.cell?_setCell_other _ _ _ _ (fun e => by have := congrArg Addr.block e; simp at this; omega)]
    exact h5 j hj
  · rw [World.cell?_setCell_other _ _ _ _ (by simp), World.cell?_setCell_same _ _ _ h.r0]
  · rw [World.cell?_setCell_same _ _ _ h1]
/-- What the functions make of the things. -/
def linZ (p : Nat) (i x : Nat) : Int := ((linN p (i / p) (i % p) x : Nat) : Int)
theorem linZ_at {p a b : Nat} (hb : b < p) : linZ p (a * p + b) = fun x => ((linN p a b x : Nat) : Int) := by
  have hp : 0 < p := by omega
  funext x
  unfold linZ
  rw [show a * p + b = b + p * a by rw [Nat.mul_comm]; omega, Nat.add_mul_div_left _ _ hp, Nat.add_mul_mod_self_left, Nat.div_eq_of_lt hb, Nat.mod_eq_of_lt hb, Nat.zero_add]
set_option maxRecDepth 100000 in
set_option maxHeartbeats 8000000 in
theorem Linear_ok (p n : Nat) (w : World) (hp : p = 2 ∨ p = 3 ∨ p = 5 ∨ p = 7) (hn0 : 0 < n) (hn : n ≤ p * p) (hn16 : n ≤ 16) :
    Calls Tryd.prog 15 #[.int .i64 (p : Int), .int .i64 (n : Int)] w fun e w' => ∃ v, e = .returned (.tuple #[.agg #[.int .i64 (p : Int), v], .nilIface]) ∧ (∃ us, TabAt w' v (p * p) us (fun _ => n) (linZ p)) ∧ Below w.heap.size w w' := by
  obtain ⟨i0, hi, hz0, hz1, hz2⟩ := info_parts Tryd.infoInts
  have HINF : Hid (Tryd.prog.info? 39 = some i0 ∧ i0.zero = some (.slice none 0 0) ∧ i0.size = 1 ∧ i0.bytes = 24) := ⟨hi, hz0, hz1, hz2⟩
  have h27 : 2 ≤ p ∧ p ≤ 7 := by omega
  obtain ⟨P, hP⟩ : ∃ P : Int, P = (p : Int) := ⟨_, rfl⟩
  rw [← hP]
  have HLR0 : Hid (∀ a b : Nat, a < p → b < p → ∀ W : World, Calls Tryd.prog 32 #[.int .i64 P, .int .i64 (a : Int), .int .i64 (b : Int), .int .i64 (n : Int)] W fun e w' => ∃ g, e = .returned (.slice (some ⟨g, 0, none⟩) n n) ∧ W.heap.size ≤ g ∧ RowAt w' g 0 n (fun x => ((linN p a b x : Nat) : Int)) ∧ Below W.heap.size W w') := fun a b ha hb W => by rw [hP]; exact linearRow_any p a b n W h27.1 h27.2 ha hb hn16
  have HN0 := Hid.mk' hn0
  have HPP : Hid (∀ a b, a < p → b < p → a * p + b ≤ 1000) := fun a b ha hb => by
    have := Nat.mul_le_mul (show a ≤ 6 by omega) h27.2
    show _ ≤ _
    omega
  have HIN := Hid.mk' (fun (a b : Nat) (hb : b < p) => linZ_at (a := a) hb)
  have hn1 : ¬ (n : Int) < 1 := by omega
  obtain ⟨W3, hW3⟩ : ∃ W3, W3 = (w.alloc (.cells #[.int .i64 0, .slice none 0 0] 32)).alloc (.cells #[.int .i64 P, .slice none 0 0] 32) := ⟨_, rfl⟩
  have hR0 : LinAt w W3 (w.heap.size + 2) (w.heap.size + 1) w.heap.size (p : Int) (.slice none 0 0) 0 n (fun _ => .nilIface) (linZ p) := by
    rw [hW3, hP]
    refine ⟨((Below.refl _ _).alloc (Nat.le_refl _) _).alloc (by simp) _, by simp, ⟨by omega, by omega, by omega, by omega, by omega⟩, ?_, ?_, ?_, ?_, ?_, ⟨?_, ?_⟩, World.ownsRow_nil _ _ _ _, fun i hi => by omega⟩
    all_goals go_simp
  have HR0 := Hid.mk' hR0
  have hk : (P = 2 ∧ (n : Int) ≤ 4) ∨ (P = 3 ∧ (n : Int) ≤ 9) ∨ (P = 5 ∧ (n : Int) ≤ 16) ∨ (P = 7 ∧ (n : Int) ≤ 16) := by
    rcases hp with rfl | rfl | rfl | rfl
    · exact Or.inl ⟨hP, by omega⟩
    · exact Or.inr (Or.inl ⟨hP, by omega⟩)
    · exact Or.inr (Or.inr (Or.inl ⟨hP, by omega⟩))
    · exact Or.inr (Or.inr (Or.inr ⟨hP, by omega⟩))
  have HQ := Hid.mk' hP
  clear hi hz0 hz1 hz2 hR0 hn0 hn hp h27 hP
  rcases hk with ⟨rfl, hk⟩ | ⟨rfl, hk⟩ | ⟨rfl, hk⟩ | ⟨rfl, hk⟩
  · go_enter Tryd.func15, Tryd.ntmps15
    go_upto_region 6 with fail
    rw [← hW3]
    clear hW3 hk hn1
    generalize w.heap.size + 2 = B at *
    generalize w.heap.size + 1 = ob at *
    go_wp2_with fail
    go_loopw [40] (fun t wr => ∃ (k : Nat) (sv : Value) (us : Nat → Value), k ≤ p ∧ t = .int .i64 (k : Int) ∧ Hid (LinAt w wr B ob w.heap.size (p : Int) sv (k * p) n us (linZ p))) (fun t _ => p - (intOf t).toNat)
    case atStart => exact ⟨0, _, _, Nat.zero_le _, rfl, by show LinAt _ _ _ _ _ _ _ _ _ _ _; rw [Nat.zero_mul]; exact HR0.out⟩
    case round =>
      clear HR0
      obtain ⟨k, sv, us, hk, rfl, HR⟩ := hrel
      rcases Nat.lt_or_ge k p with h1 | h1
      · have hkI := (fun (x : Int) (hx : x = (p : Int)) => show (k : Int) < x by omega) _ HQ.out
        have HR2 := HR
        go_wp2_with fail
        go_loopw [44] (fun t wx => ∃ (j : Nat) (sv : Value) (us : Nat → Value), j ≤ p ∧ t = .int .i64 (j : Int) ∧ Hid (LinAt w wx B ob w.heap.size (p : Int) sv (k * p + j) n us (linZ p))) (fun t _ => p - (intOf t).toNat)
        case atStart => exact ⟨0, _, _, Nat.zero_le _, rfl, HR2.out⟩
        case round =>
          clear HR HR2
          obtain ⟨j, sv, us, hj, rfl, HR⟩ := hrel
          rcases Nat.lt_or_ge j p with h2 | h2
          · have hjI := (fun (x : Int) (hx : x = (p : Int)) => show (j : Int) < x by omega) _ HQ.out
            obtain ⟨R, hR⟩ : ∃ R, R = k * p + j := ⟨_, rfl⟩
            rw [← hR] at HR
            have HRQ := Hid.mk' hR
            have HRB : Hid (R ≤ 1000) := by show _ ≤ _; rw [hR]; exact HPP.out k j h1 h2
            have HZR : Hid (linZ p R = fun x => ((linN p k j x : Nat) : Int)) := by show _ = _; rw [hR]; exact HIN.out k j h2
            have HLR := Hid.mk' (HLR0.out k j h1 h2)
            obtain ⟨sa, sc, rfl⟩ := own_formR HR.out.own
            have HKS : Hid (∀ W, Below wr.heap.size wr W → W.cell? ⟨ob, 1, none⟩ = some (.slice sa R sc)) := fun W hb => (HR.out.later hb).c1
            have HRd := Hid.mk' (HR.out.later (Below.refl wr.heap.size wr).drew)
            have hcur : Below wr.heap.size wr wr.drew := (Below.refl _ _).drew
            clear HR hR
            go_wp2_with fail
            refine region_but_last (n := 10) (S := fun W => W.cell? ⟨ob, 1, none⟩ = some (.slice sa R sc)) (by kernel_rfl) (by kernel_rfl) (by kernel_rfl) (HKS.out _ hcur) (fun hHeld => ?_)
            have HKD := Hid.mk' (fun (W : World) (hb : Below wr.drew.heap.size wr.drew W) => HKS.out W (below_chain hcur hb))
            clear hcur
            generalize wr.drew = Wd at *
            refine wpAnyH_take (i := 0) (v := ?v0n2) rfl (by kernel_rfl) (by kernel_rfl) (by kernel_rfl) (fun _ _ _ h => h) (Or.inl ⟨by rfl, ?hy0n2⟩) (by assumption) ?rest0n2
            case hy0n2 => (intro w hSw; (try dsimp only at hSw); go_simp <;> (try with_reducible rfl))
            simp only [Act.put]
            refine wpAnyH_take (i := 1) (v := ?v1n2) rfl (by kernel_rfl) (by kernel_rfl) (by kernel_rfl) (fun _ _ _ h => h) (Or.inl ⟨by rfl, ?hy1n2⟩) (by assumption) ?rest1n2
            case hy1n2 => (intro w hSw; (try dsimp only at hSw); go_simp <;> (try with_reducible rfl))
            simp only [Act.put]
            refine wpAnyH_take (i := 2) (v := ?v2n2) rfl (by kernel_rfl) (by kernel_rfl) (by kernel_rfl) (fun _ _ _ h => h) (Or.inl ⟨by rfl, ?hy2n2⟩) (by assumption) ?rest2n2
            case hy2n2 => (intro w hSw; (try dsimp only at hSw); go_simp <;> (try with_reducible rfl))
            simp only [Act.put]
            refine wpAnyH_take (i := 3) (v := ?v3n2) rfl (by kernel_rfl) (by kernel_rfl) (by kernel_rfl) (fun _ _ _ h => h) (Or.inl ⟨by rfl, ?hy3n2⟩) (by assumption) ?rest3n2
            case hy3n2 => (intro w hSw; (try dsimp only at hSw); go_simp <;> (try with_reducible rfl))
            simp only [Act.put]
            refine wpAnyH_take (i := 4) (v := ?v4n2) rfl (by kernel_rfl) (by kernel_rfl) (by kernel_rfl) (fun _ _ _ h => h) (Or.inl ⟨by rfl, ?hy4n2⟩) (by assumption) ?rest4n2
            case hy4n2 => (intro w hSw; (try dsimp only at hSw); go_simp <;> (try with_reducible rfl))
            simp only [Act.put]
            refine wpAnyH_take (i := 5) (v := ?v5n2) rfl (by kernel_rfl) (by kernel_rfl) (by kernel_rfl) (fun _ _ _ h => h) (Or.inl ⟨by rfl, ?hy5n2⟩) (by assumption) ?rest5n2
            case hy5n2 => (intro w hSw; (try dsimp only at hSw); go_simp <;> (try with_reducible rfl))
            simp only [Act.put]
            refine wpAnyH_ready (rs := [6]) (by kernel_rfl) (by simp) ?_
            refine AllReadyH.cons rfl (fun K hK => ?_) AllReadyH.nil
            go_simp
            refine (HLR.out Wd).mono ?_
            rintro e we ⟨g, rfl, hge, hrow, hbe⟩
            have HRe := Hid.mk' (HRd.out.later hbe)
            have HSe := Hid.mk' (HKD.out _ hbe)
            have HGe := Hid.mk' hrow
            have HGB : Hid (B ≤ g) := Nat.le_trans HRd.out.hB hge
            have HGN : Hid (g < we.heap.size) := cell_lt (hrow 0 HN0.out)
            have HGO : Hid ((Value.slice sa R sc).ownBlock ≠ some g) := fun e => by have := (own_geR HRd.out.own e).2; omega
            go_wp2_with fail
            refine hK.out _ _ HSe.out (fun hHeld => ?_)
            clear hK K hbe hge hrow HRd HKD HKS
            refine wpAnyH_ready (rs := [7]) (by kernel_rfl) (by simp) ?_
            refine AllReadyH.cons rfl (fun K hK => ?_) AllReadyH.nil
            go_simp
            have hba : Below we.heap.size we (we.alloc (.cells #[.slice (some ⟨g, 0, none⟩) n n] 39)) := (Below.refl _ _).alloc (Nat.le_refl _) _
            have HRa := Hid.mk' (HRe.out.later hba)
            have HNW := Hid.mk' (one_new we (.slice (some ⟨g, 0, none⟩) n n) 39)
            have HSa : Hid ((we.alloc (.cells #[.slice (some ⟨g, 0, none⟩) n n] 39)).cell? ⟨ob, 1, none⟩ = some (.slice sa R sc)) := HRa.out.c1
            have HGa := Hid.mk' (HGe.out.later hba)
            have HGM : Hid (g < (we.alloc (.cells #[.slice (some ⟨g, 0, none⟩) n n] 39)).heap.size) := Nat.lt_of_lt_of_le HGN.out hba.size
            refine hK.out _ _ HSa.out (fun hHeld => ?_)
            clear hK K hba HRe HSe HGe HGN
            generalize we.alloc (.cells #[.slice (some ⟨g, 0, none⟩) n n] 39) = Wa at *
            generalize we.heap.size = nb at *
            have hsz := HRa.out.hB
            refine wpAnyH_ready (rs := [8]) (by kernel_rfl) (by simp) ?_
            refine AllReadyH.cons rfl (fun K hK => ?_) AllReadyH.nil
            refine step_append_lies _ rfl _ _ _ rfl B 39 i0 _ 1 24 Tryd.underlying22 HINF.out.1 HINF.out.2.1 HINF.out.2.2.1 HINF.out.2.2.2 rfl (by omega) (.slice sa R sc) R (rowV us R) (by rfl) HRa.out.own ⟨nb, 0, none⟩ 1 1 [.slice (some ⟨g, 0, none⟩) n n] rfl rfl HNW.out (by simp [Value.oneCell']) (by omega) (by have := HRB.out; unfold maxLen; omega) (by have := HRB.out; omega) hsz _ rfl ?_
            intro g' cap' w9 hown9 hgrow9 hat9 hlt9
            obtain ⟨p1, pf, hR9⟩ := HRa.out.push hgrow9 hown9 hat9 HGB.out HGM.out HGO.out HGa.out HZR.out
            have HR9 := Hid.mk' hR9
            refine hK.out _ _ p1 (fun hHeld => ?_)
            clear hK K hown9 hgrow9 hat9 hlt9 hR9 HSa HNW HRa HGa HGM HGO HGB
            simp only [Act.put, List.getElem_toArray, List.getElem_cons_succ, List.getElem_cons_zero, List.setIfInBounds_toArray, List.set_cons_succ, List.set_cons_zero]
            refine wpAnyH_take (i := 9) (v := ?v9n2) rfl (by kernel_rfl) (by kernel_rfl) (by kernel_rfl) (fun _ _ _ h => h) (Or.inl ⟨by rfl, ?hy9n2⟩) (by assumption) ?rest9n2
            case hy9n2 => (intro w hSw; (try dsimp only at hSw); go_simp <;> (try with_reducible rfl))
            simp only [Act.put]
            refine wpAnyH_done (by kernel_rfl) ?_ _
            refine ahead_last rfl (fun K hK => ?_)
            go_simp
            refine hK _ _ ?_
            clear hK K
            go_wp2_with fail
            exact ⟨⟨j + 1, _, _, h2, by go_num, by show LinAt _ _ _ _ _ _ _ _ _ _ _; rw [show k * p + (j + 1) = R + 1 by have := HRQ.out; omega]; exact HR9.out⟩, by simp [intOf]; omega⟩
          · obtain rfl : j = p := by omega
            have hjI := (fun (x : Int) (hx : x = (j : Int)) => show ¬ (j : Int) < x by omega) _ HQ.out
            go_wp2_with fail
            exact ⟨⟨k + 1, _, _, h1, by go_num, by show LinAt _ _ _ _ _ _ _ _ _ _ _; rw [Nat.succ_mul]; exact HR.out⟩, by simp [intOf]; omega⟩
      · obtain rfl : k = p := by omega
        have hkI := (fun (x : Int) (hx : x = (k : Int)) => show ¬ (k : Int) < x by omega) _ HQ.out
        obtain ⟨sa, sc, hse⟩ := own_formR HR.out.own
        subst hse
        have q0 := HR.out.c0
        have q1 := HR.out.c1
        have q2 := HR.out.r0
        have q4 := HR.out.rz.1
        have q5 := HR.out.rz.2
        obtain ⟨f1, f2, f3, f4, f5⟩ := HR.out.fin HN0.out
        rw [← HQ.out] at q0 f1 f2 f3 f4 f5
        have HF := Hid.mk' (And.intro f1 f2)
        have HF4 := Hid.mk' (And.intro f4 f5)
        clear f1 f2 f4 f5 HR
        go_wp2_with fail
        refine bodyPost_ret (v := .tuple #[.agg #[.int .i64 2, .slice sa (k * k) sc], .nilIface]) (by simp [results, Tryd.results15, go_sem, HF4.out.1, HF4.out.2]) rfl ⟨_, rfl, ⟨us, HF.out.1⟩, HF.out.2⟩
  · go_enter Tryd.func15, Tryd.ntmps15
    go_upto_region 6 with fail
    rw [← hW3]
    clear hW3 hk hn1
    generalize w.heap.size + 2 = B at *
    generalize w.heap.size + 1 = ob at *
    go_wp2_with fail
    go_loopw [40] (fun t wr => ∃ (k : Nat) (sv : Value) (us : Nat → Value), k ≤ p ∧ t = .int .i64 (k : Int) ∧ Hid (LinAt w wr B ob w.heap.size (p : Int) sv (k * p) n us (linZ p))) (fun t _ => p - (intOf t).toNat)
    case atStart => exact ⟨0, _, _, Nat.zero_le _, rfl, by show LinAt _ _ _ _ _ _ _ _ _ _ _; rw [Nat.zero_mul]; exact HR0.out⟩
    case round =>
      clear HR0
      obtain ⟨k, sv, us, hk, rfl, HR⟩ := hrel
      rcases Nat.lt_or_ge k p with h1 | h1
      · have hkI := (fun (x : Int) (hx : x = (p : Int)) => show (k : Int) < x by omega) _ HQ.out
        have HR2 := HR
        go_wp2_with fail
        go_loopw [44] (fun t wx => ∃ (j : Nat) (sv : Value) (us : Nat → Value), j ≤ p ∧ t = .int .i64 (j : Int) ∧ Hid (LinAt w wx B ob w.heap.size (p : Int) sv (k * p + j) n us (linZ p))) (fun t _ => p - (intOf t).toNat)
        case atStart => exact ⟨0, _, _, Nat.zero_le _, rfl, HR2.out⟩
        case round =>
          clear HR HR2
          obtain ⟨j, sv, us, hj, rfl, HR⟩ := hrel
          rcases Nat.lt_or_ge j p with h2 | h2
          · have hjI := (fun (x : Int) (hx : x = (p : Int)) => show (j : Int) < x by omega) _ HQ.out
            obtain ⟨R, hR⟩ : ∃ R, R = k * p + j := ⟨_, rfl⟩
            rw [← hR] at HR
            have HRQ := Hid.mk' hR
            have HRB : Hid (R ≤ 1000) := by show _ ≤ _; rw [hR]; exact HPP.out k j h1 h2
            have HZR : Hid (linZ p R = fun x => ((linN p k j x : Nat) : Int)) := by show _ = _; rw [hR]; exact HIN.out k j h2
            have HLR := Hid.mk' (HLR0.out k j h1 h2)
            obtain ⟨sa, sc, rfl⟩ := own_formR HR.out.own
            have HKS : Hid (∀ W, Below wr.heap.size wr W → W.cell? ⟨ob, 1, none⟩ = some (.slice sa R sc)) := fun W hb => (HR.out.later hb).c1
            have HRd := Hid.mk' (HR.out.later (Below.refl wr.heap.size wr).drew)
            have hcur : Below wr.heap.size wr wr.drew := (Below.refl _ _).drew
            clear HR hR
            go_wp2_with fail
            refine region_but_last (n := 10) (S := fun W => W.cell? ⟨ob, 1, none⟩ = some (.slice sa R sc)) (by kernel_rfl) (by kernel_rfl) (by kernel_rfl) (HKS.out _ hcur) (fun hHeld => ?_)
            have HKD := Hid.mk' (fun (W : World) (hb : Below wr.drew.heap.size wr.drew W) => HKS.out W (below_chain hcur hb))
            clear hcur
            generalize wr.drew = Wd at *
            refine wpAnyH_take (i := 0) (v := ?v0n3) rfl (by kernel_rfl) (by kernel_rfl) (by kernel_rfl) (fun _ _ _ h => h) (Or.inl ⟨by rfl, ?hy0n3⟩) (by assumption) ?rest0n3
            case hy0n3 => (intro w hSw; (try dsimp only at hSw); go_simp <;> (try with_reducible rfl))
            simp only [Act.put]
            refine wpAnyH_take (i := 1) (v := ?v1n3) rfl (by kernel_rfl) (by kernel_rfl) (by kernel_rfl) (fun _ _ _ h => h) (Or.inl ⟨by rfl, ?hy1n3⟩) (by assumption) ?rest1n3
            case hy1n3 => (intro w hSw; (try dsimp only at hSw); go_simp <;> (try with_reducible rfl))
            simp only [Act.put]
            refine wpAnyH_take (i := 2) (v := ?v2n3) rfl (by kernel_rfl) (by kernel_rfl) (by kernel_rfl) (fun _ _ _ h => h) (Or.inl ⟨by rfl, ?hy2n3⟩) (by assumption) ?rest2n3
            case hy2n3 => (intro w hSw; (try dsimp only at hSw); go_simp <;> (try with_reducible rfl))
            simp only [Act.put]
            refine wpAnyH_take (i := 3) (v := ?v3n3) rfl (by kernel_rfl) (by kernel_rfl) (by kernel_rfl) (fun _ _ _ h => h) (Or.inl ⟨by rfl, ?hy3n3⟩) (by assumption) ?rest3n3
            case hy3n3 => (intro w hSw; (try dsimp only at hSw); go_simp <;> (try with_reducible rfl))
            simp only [Act.put]
            refine wpAnyH_take (i := 4) (v := ?v4n3) rfl (by kernel_rfl) (by kernel_rfl) (by kernel_rfl) (fun _ _ _ h => h) (Or.inl ⟨by rfl, ?hy4n3⟩) (by assumption) ?rest4n3
            case hy4n3 => (intro w hSw; (try dsimp only at hSw); go_simp <;> (try with_reducible rfl))
            simp only [Act.put]
            refine wpAnyH_take (i := 5) (v := ?v5n3) rfl (by kernel_rfl) (by kernel_rfl) (by kernel_rfl) (fun _ _ _ h => h) (Or.inl ⟨by rfl, ?hy5n3⟩) (by assumption) ?rest5n3
            case hy5n3 => (intro w hSw; (try dsimp only at hSw); go_simp <;> (try with_reducible rfl))
            simp only [Act.put]
            refine wpAnyH_ready (rs := [6]) (by kernel_rfl) (by simp) ?_
            refine AllReadyH.cons rfl (fun K hK => ?_) AllReadyH.nil
            go_simp
            refine (HLR.out Wd).mono ?_
            rintro e we ⟨g, rfl, hge, hrow, hbe⟩
            have HRe := Hid.mk' (HRd.out.later hbe)
            have HSe := Hid.mk' (HKD.out _ hbe)
            have HGe := Hid.mk' hrow
            have HGB : Hid (B ≤ g) := Nat.le_trans HRd.out.hB hge
            have HGN : Hid (g < we.heap.size) := cell_lt (hrow 0 HN0.out)
            have HGO : Hid ((Value.slice sa R sc).ownBlock ≠ some g) := fun e => by have := (own_geR HRd.out.own e).2; omega
            go_wp2_with fail
            refine hK.out _ _ HSe.out (fun hHeld => ?_)
            clear hK K hbe hge hrow HRd HKD HKS
            refine wpAnyH_ready (rs := [7]) (by kernel_rfl) (by simp) ?_
            refine AllReadyH.cons rfl (fun K hK => ?_) AllReadyH.nil
            go_simp
            have hba : Below we.heap.size we (we.alloc (.cells #[.slice (some ⟨g, 0, none⟩) n n] 39)) := (Below.refl _ _).alloc (Nat.le_refl _) _
            have HRa := Hid.mk' (HRe.out.later hba)
            have HNW := Hid.mk' (one_new we (.slice (some ⟨g, 0, none⟩) n n) 39)
            have HSa : Hid ((we.alloc (.cells #[.slice (some ⟨g, 0, none⟩) n n] 39)).cell? ⟨ob, 1, none⟩ = some (.slice sa R sc)) := HRa.out.c1
            have HGa := Hid.mk' (HGe.out.later hba)
            have HGM : Hid (g < (we.alloc (.cells #[.slice (some ⟨g, 0, none⟩) n n] 39)).heap.size) := Nat.lt_of_lt_of_le HGN.out hba.size
            refine hK.out _ _ HSa.out (fun hHeld => ?_)
            clear hK K hba HRe HSe HGe HGN
            generalize we.alloc (.cells #[.slice (some ⟨g, 0, none⟩) n n] 39) = Wa at *
            generalize we.heap.size = nb at *
            have hsz := HRa.out.hB
            refine wpAnyH_ready (rs := [8]) (by kernel_rfl) (by simp) ?_
            refine AllReadyH.cons rfl (fun K hK => ?_) AllReadyH.nil
            refine step_append_lies _ rfl _ _ _ rfl B 39 i0 _ 1 24 Tryd.underlying22 HINF.out.1 HINF.out.2.1 HINF.out.2.2.1 HINF.out.2.2.2 rfl (by omega) (.slice sa R sc) R (rowV us R) (by rfl) HRa.out.own ⟨nb, 0, none⟩ 1 1 [.slice (some ⟨g, 0, none⟩) n n] rfl rfl HNW.out (by simp [Value.oneCell']) (by omega) (by have := HRB.out; unfold maxLen; omega) (by have := HRB.out; omega) hsz _ rfl ?_
            intro g' cap' w9 hown9 hgrow9 hat9 hlt9
            obtain ⟨p1, pf, hR9⟩ := HRa.out.push hgrow9 hown9 hat9 HGB.out HGM.out HGO.out HGa.out HZR.out
            have HR9 := Hid.mk' hR9
            refine hK.out _ _ p1 (fun hHeld => ?_)
            clear hK K hown9 hgrow9 hat9 hlt9 hR9 HSa HNW HRa HGa HGM HGO HGB
            simp only [Act.put, List.getElem_toArray, List.getElem_cons_succ, List.getElem_cons_zero, List.setIfInBounds_toArray, List.set_cons_succ, List.set_cons_zero]
            refine wpAnyH_take (i := 9) (v := ?v9n3) rfl (by kernel_rfl) (by kernel_rfl) (by kernel_rfl) (fun _ _ _ h => h) (Or.inl ⟨by rfl, ?hy9n3⟩) (by assumption) ?rest9n3
            case hy9n3 => (intro w hSw; (try dsimp only at hSw); go_simp <;> (try with_reducible rfl))
            simp only [Act.put]
            refine wpAnyH_done (by kernel_rfl) ?_ _
            refine ahead_last rfl (fun K hK => ?_)
            go_simp
            refine hK _ _ ?_
            clear hK K
            go_wp2_with fail
            exact ⟨⟨j + 1, _, _, h2, by go_num, by show LinAt _ _ _ _ _ _ _ _ _ _ _; rw [show k * p + (j + 1) = R + 1 by have := HRQ.out; omega]; exact HR9.out⟩, by simp [intOf]; omega⟩
          · obtain rfl : j = p := by omega
            have hjI := (fun (x : Int) (hx : x = (j : Int)) => show ¬ (j : Int) < x by omega) _ HQ.out
            go_wp2_with fail
            exact ⟨⟨k + 1, _, _, h1, by go_num, by show LinAt _ _ _ _ _ _ _ _ _ _ _; rw [Nat.succ_mul]; exact HR.out⟩, by simp [intOf]; omega⟩
      · obtain rfl : k = p := by omega
        have hkI := (fun (x : Int) (hx : x = (k : Int)) => show ¬ (k : Int) < x by omega) _ HQ.out
        obtain ⟨sa, sc, hse⟩ := own_formR HR.out.own
        subst hse
        have q0 := HR.out.c0
        have q1 := HR.out.c1
        have q2 := HR.out.r0
        have q4 := HR.out.rz.1
        have q5 := HR.out.rz.2
        obtain ⟨f1, f2, f3, f4, f5⟩ := HR.out.fin HN0.out
        rw [← HQ.out] at q0 f1 f2 f3 f4 f5
        have HF := Hid.mk' (And.intro f1 f2)
        have HF4 := Hid.mk' (And.intro f4 f5)
        clear f1 f2 f4 f5 HR
        go_wp2_with fail
        refine bodyPost_ret (v := .tuple #[.agg #[.int .i64 3, .slice sa (k * k) sc], .nilIface]) (by simp [results, Tryd.results15, go_sem, HF4.out.1, HF4.out.2]) rfl ⟨_, rfl, ⟨us, HF.out.1⟩, HF.out.2⟩
  · go_enter Tryd.func15, Tryd.ntmps15
    go_upto_region 6 with fail
    rw [← hW3]
    clear hW3 hk hn1
    generalize w.heap.size + 2 = B at *
    generalize w.heap.size + 1 = ob at *
    go_wp2_with fail
    go_loopw [40] (fun t wr => ∃ (k : Nat) (sv : Value) (us : Nat → Value), k ≤ p ∧ t = .int .i64 (k : Int) ∧ Hid (LinAt w wr B ob w.heap.size (p : Int) sv (k * p) n us (linZ p))) (fun t _ => p - (intOf t).toNat)
    case atStart => exact ⟨0, _, _, Nat.zero_le _, rfl, by show LinAt _ _ _ _ _ _ _ _ _ _ _; rw [Nat.zero_mul]; exact HR0.out⟩
    case round =>
      clear HR0
      obtain ⟨k, sv, us, hk, rfl, HR⟩ := hrel
      rcases Nat.lt_or_ge k p with h1 | h1
      · have hkI := (fun (x : Int) (hx : x = (p : Int)) => show (k : Int) < x by omega) _ HQ.out
        have HR2 := HR
        go_wp2_with fail
        go_loopw [44] (fun t wx => ∃ (j : Nat) (sv : Value) (us : Nat → Value), j ≤ p ∧ t = .int .i64 (j : Int) ∧ Hid (LinAt w wx B ob w.heap.size (p : Int) sv (k * p + j) n us (linZ p))) (fun t _ => p - (intOf t).toNat)
        case atStart => exact ⟨0, _, _, Nat.zero_le _, rfl, HR2.out⟩
        case round =>
          clear HR HR2
          obtain ⟨j, sv, us, hj, rfl, HR⟩ := hrel
          rcases Nat.lt_or_ge j p with h2 | h2
          · have hjI := (fun (x : Int) (hx : x = (p : Int)) => show (j : Int) < x by omega) _ HQ.out
            obtain ⟨R, hR⟩ : ∃ R, R = k * p + j := ⟨_, rfl⟩
            rw [← hR] at HR
            have HRQ := Hid.mk' hR
            have HRB : Hid (R ≤ 1000) := by show _ ≤ _; rw [hR]; exact HPP.out k j h1 h2
            have HZR : Hid (linZ p R = fun x => ((linN p k j x : Nat) : Int)) := by show _ = _; rw [hR]; exact HIN.out k j h2
            have HLR := Hid.mk' (HLR0.out k j h1 h2)
            obtain ⟨sa, sc, rfl⟩ := own_formR HR.out.own
            have HKS : Hid (∀ W, Below wr.heap.size wr W → W.cell? ⟨ob, 1, none⟩ = some (.slice sa R sc)) := fun W hb => (HR.out.later hb).c1
            have HRd := Hid.mk' (HR.out.later (Below.refl wr.heap.size wr).drew)
            have hcur : Below wr.heap.size wr wr.drew := (Below.refl _ _).drew
            clear HR hR
            go_wp2_with fail
            refine region_but_last (n := 10) (S := fun W => W.cell? ⟨ob, 1, none⟩ = some (.slice sa R sc)) (by kernel_rfl) (by kernel_rfl) (by kernel_rfl) (HKS.out _ hcur) (fun hHeld => ?_)
            have HKD := Hid.mk' (fun (W : World) (hb : Below wr.drew.heap.size wr.drew W) => HKS.out W (below_chain hcur hb))
            clear hcur
            generalize wr.drew = Wd at *
            refine wpAnyH_take (i := 0) (v := ?v0n5) rfl (by kernel_rfl) (by kernel_rfl) (by kernel_rfl) (fun _ _ _ h => h) (Or.inl ⟨by rfl, ?hy0n5⟩) (by assumption) ?rest0n5
            case hy0n5 => (intro w hSw; (try dsimp only at hSw); go_simp <;> (try with_reducible rfl))
            simp only [Act.put]
            refine wpAnyH_take (i := 1) (v := ?v1n5) rfl (by kernel_rfl) (by kernel_rfl) (by kernel_rfl) (fun _ _ _ h => h) (Or.inl ⟨by rfl, ?hy1n5⟩) (by assumption) ?rest1n5
            case hy1n5 => (intro w hSw; (try dsimp only at hSw); go_simp <;> (try with_reducible rfl))
            simp only [Act.put]
            refine wpAnyH_take (i := 2) (v := ?v2n5) rfl (by kernel_rfl) (by kernel_rfl) (by kernel_rfl) (fun _ _ _ h => h) (Or.inl ⟨by rfl, ?hy2n5⟩) (by assumption) ?rest2n5
            case hy2n5 => (intro w hSw; (try dsimp only at hSw); go_simp <;> (try with_reducible rfl))
            simp only [Act.put]
            refine wpAnyH_take (i := 3) (v := ?v3n5) rfl (by kernel_rfl) (by kernel_rfl) (by kernel_rfl) (fun _ _ _ h => h) (Or.inl ⟨by rfl, ?hy3n5⟩) (by assumption) ?rest3n5
            case hy3n5 => (intro w hSw; (try dsimp only at hSw); go_simp <;> (try with_reducible rfl))
            simp only [Act.put]
            refine wpAnyH_take (i := 4) (v := ?v4n5) rfl (by kernel_rfl) (by kernel_rfl) (by kernel_rfl) (fun _ _ _ h => h) (Or.inl ⟨by rfl, ?hy4n5⟩) (by assumption) ?rest4n5
            case hy4n5 => (intro w hSw; (try dsimp only at hSw); go_simp <;> (try with_reducible rfl))
            simp only [Act.put]
            refine wpAnyH_take (i := 5) (v := ?v5n5) rfl (by kernel_rfl) (by kernel_rfl) (by kernel_rfl) (fun _ _ _ h => h) (Or.inl ⟨by rfl, ?hy5n5⟩) (by assumption) ?rest5n5
            case hy5n5 => (intro w hSw; (try dsimp only at hSw); go_simp <;> (try with_reducible rfl))
            simp only [Act.put]
            refine wpAnyH_ready (rs := [6]) (by kernel_rfl) (by simp) ?_
            refine AllReadyH.cons rfl (fun K hK => ?_) AllReadyH.nil
            go_simp
            refine (HLR.out Wd).mono ?_
            rintro e we ⟨g, rfl, hge, hrow, hbe⟩
            have HRe := Hid.mk' (HRd.out.later hbe)
            have HSe := Hid.mk' (HKD.out _ hbe)
            have HGe := Hid.mk' hrow
            have HGB : Hid (B ≤ g) := Nat.le_trans HRd.out.hB hge
            have HGN : Hid (g < we.heap.size) := cell_lt (hrow 0 HN0.out)
            have HGO : Hid ((Value.slice sa R sc).ownBlock ≠ some g) := fun e => by have := (own_geR HRd.out.own e).2; omega
            go_wp2_with fail
            refine hK.out _ _ HSe.out (fun hHeld => ?_)
            clear hK K hbe hge hrow HRd HKD HKS
            refine wpAnyH_ready (rs := [7]) (by kernel_rfl) (by simp) ?_
            refine AllReadyH.cons rfl (fun K hK => ?_) AllReadyH.nil
            go_simp
            have hba : Below we.heap.size we (we.alloc (.cells #[.slice (some ⟨g, 0, none⟩) n n] 39)) := (Below.refl _ _).alloc (Nat.le_refl _) _
            have HRa := Hid.mk' (HRe.out.later hba)
            have HNW := Hid.mk' (one_new we (.slice (some ⟨g, 0, none⟩) n n) 39)
            have HSa : Hid ((we.alloc (.cells #[.slice (some ⟨g, 0, none⟩) n n] 39)).cell? ⟨ob, 1, none⟩ = some (.slice sa R sc)) := HRa.out.c1
            have HGa := Hid.mk' (HGe.out.later hba)
            have HGM : Hid (g < (we.alloc (.cells #[.slice (some ⟨g, 0, none⟩) n n] 39)).heap.size) := Nat.lt_of_lt_of_le HGN.out hba.size
            refine hK.out _ _ HSa.out (fun hHeld => ?_)
            clear hK K hba HRe HSe HGe HGN
            generalize we.alloc (.cells #[.slice (some ⟨g, 0, none⟩) n n] 39) = Wa at *
            generalize we.heap.size = nb at *
            have hsz := HRa.out.hB
            refine wpAnyH_ready (rs := [8]) (by kernel_rfl) (by simp) ?_
            refine AllReadyH.cons rfl (fun K hK => ?_) AllReadyH.nil
            refine step_append_lies _ rfl _ _ _ rfl B 39 i0 _ 1 24 Tryd.underlying22 HINF.out.1 HINF.out.2.1 HINF.out.2.2.1 HINF.out.2.2.2 rfl (by omega) (.slice sa R sc) R (rowV us R) (by rfl) HRa.out.own ⟨nb, 0, none⟩ 1 1 [.slice (some ⟨g, 0, none⟩) n n] rfl rfl HNW.out (by simp [Value.oneCell']) (by omega) (by have := HRB.out; unfold maxLen; omega) (by have := HRB.out; omega) hsz _ rfl ?_
            intro g' cap' w9 hown9 hgrow9 hat9 hlt9
            obtain ⟨p1, pf, hR9⟩ := HRa.out.push hgrow9 hown9 hat9 HGB.out HGM.out HGO.out HGa.out HZR.out
            have HR9 := Hid.mk' hR9
            refine hK.out _ _ p1 (fun hHeld => ?_)
            clear hK K hown9 hgrow9 hat9 hlt9 hR9 HSa HNW HRa HGa HGM HGO HGB
            simp only [Act.put, List.getElem_toArray, List.getElem_cons_succ, List.getElem_cons_zero, List.setIfInBounds_toArray, List.set_cons_succ, List.set_cons_zero]
            refine wpAnyH_take (i := 9) (v := ?v9n5) rfl (by kernel_rfl) (by kernel_rfl) (by kernel_rfl) (fun _ _ _ h => h) (Or.inl ⟨by rfl, ?hy9n5⟩) (by assumption) ?rest9n5
            case hy9n5 => (intro w hSw; (try dsimp only at hSw); go_simp <;> (try with_reducible rfl))
            simp only [Act.put]
            refine wpAnyH_done (by kernel_rfl) ?_ _
            refine ahead_last rfl (fun K hK => ?_)
            go_simp
            refine hK _ _ ?_
            clear hK K
            go_wp2_with fail
            exact ⟨⟨j + 1, _, _, h2, by go_num, by show LinAt _ _ _ _ _ _ _ _ _ _ _; rw [show k * p + (j + 1) = R + 1 by have := HRQ.out; omega]; exact HR9.out⟩, by simp [intOf]; omega⟩
          · obtain rfl : j = p := by omega
            have hjI := (fun (x : Int) (hx : x = (j : Int)) => show ¬ (j : Int) < x by omega) _ HQ.out
            go_wp2_with fail
            exact ⟨⟨k + 1, _, _, h1, by go_num, by show LinAt _ _ _ _ _ _ _ _ _ _ _; rw [Nat.succ_mul]; exact HR.out⟩, by simp [intOf]; omega⟩
      · obtain rfl : k = p := by omega
        have hkI := (fun (x : Int) (hx : x = (k : Int)) => show ¬ (k : Int) < x by omega) _ HQ.out
        obtain ⟨sa, sc, hse⟩ := own_formR HR.out.own
        subst hse
        have q0 := HR.out.c0
        have q1 := HR.out.c1
        have q2 := HR.out.r0
        have q4 := HR.out.rz.1
        have q5 := HR.out.rz.2
        obtain ⟨f1, f2, f3, f4, f5⟩ := HR.out.fin HN0.out
        rw [← HQ.out] at q0 f1 f2 f3 f4 f5
        have HF := Hid.mk' (And.intro f1 f2)
        have HF4 := Hid.mk' (And.intro f4 f5)
        clear f1 f2 f4 f5 HR
        go_wp2_with fail
        refine bodyPost_ret (v := .tuple #[.agg #[.int .i64 5, .slice sa (k * k) sc], .nilIface]) (by simp [results, Tryd.results15, go_sem, HF4.out.1, HF4.out.2]) rfl ⟨_, rfl, ⟨us, HF.out.1⟩, HF.out.2⟩
  · go_enter Tryd.func15, Tryd.ntmps15
    go_upto_region 6 with fail
    rw [← hW3]
    clear hW3 hk hn1
    generalize w.heap.size + 2 = B at *
    generalize w.heap.size + 1 = ob at *
    go_wp2_with fail
    go_loopw [40] (fun t wr => ∃ (k : Nat) (sv : Value) (us : Nat → Value), k ≤ p ∧ t = .int .i64 (k : Int) ∧ Hid (LinAt w wr B ob w.heap.size (p : Int) sv (k * p) n us (linZ p))) (fun t _ => p - (intOf t).toNat)
    case atStart => exact ⟨0, _, _, Nat.zero_le _, rfl, by show LinAt _ _ _ _ _ _ _ _ _ _ _; rw [Nat.zero_mul]; exact HR0.out⟩
    case round =>
      clear HR0
      obtain ⟨k, sv, us, hk, rfl, HR⟩ := hrel
      rcases Nat.lt_or_ge k p with h1 | h1
      · have hkI := (fun (x : Int) (hx : x = (p : Int)) => show (k : Int) < x by omega) _ HQ.out
        have HR2 := HR
        go_wp2_with fail
        go_loopw [44] (fun t wx => ∃ (j : Nat) (sv : Value) (us : Nat → Value), j ≤ p ∧ t = .int .i64 (j : Int) ∧ Hid (LinAt w wx B ob w.heap.size (p : Int) sv (k * p + j) n us (linZ p))) (fun t _ => p - (intOf t).toNat)
        case atStart => exact ⟨0, _, _, Nat.zero_le _, rfl, HR2.out⟩
        case round =>
          clear HR HR2
          obtain ⟨j, sv, us, hj, rfl, HR⟩ := hrel
          rcases Nat.lt_or_ge j p with h2 | h2
          · have hjI := (fun (x : Int) (hx : x = (p : Int)) => show (j : Int) < x by omega) _ HQ.out
            obtain ⟨R, hR⟩ : ∃ R, R = k * p + j := ⟨_, rfl⟩
            rw [← hR] at HR
            have HRQ := Hid.mk' hR
            have HRB : Hid (R ≤ 1000) := by show _ ≤ _; rw [hR]; exact HPP.out k j h1 h2
            have HZR : Hid (linZ p R = fun x => ((linN p k j x : Nat) : Int)) := by show _ = _; rw [hR]; exact HIN.out k j h2
            have HLR := Hid.mk' (HLR0.out k j h1 h2)
            obtain ⟨sa, sc, rfl⟩ := own_formR HR.out.own
            have HKS : Hid (∀ W, Below wr.heap.size wr W → W.cell? ⟨ob, 1, none⟩ = some (.slice sa R sc)) := fun W hb => (HR.out.later hb).c1
            have HRd := Hid.mk' (HR.out.later (Below.refl wr.heap.size wr).drew)
            have hcur : Below wr.heap.size wr wr.drew := (Below.refl _ _).drew
            clear HR hR
            go_wp2_with fail
            refine region_but_last (n := 10) (S := fun W => W.cell? ⟨ob, 1, none⟩ = some (.slice sa R sc)) (by kernel_rfl) (by kernel_rfl) (by kernel_rfl) (HKS.out _ hcur) (fun hHeld => ?_)
            have HKD := Hid.mk' (fun (W : World) (hb : Below wr.drew.heap.size wr.drew W) => HKS.out W (below_chain hcur hb))
            clear hcur
            generalize wr.drew = Wd at *
            refine wpAnyH_take (i := 0) (v := ?v0n7) rfl (by kernel_rfl) (by kernel_rfl) (by kernel_rfl) (fun _ _ _ h => h) (Or.inl ⟨by rfl, ?hy0n7⟩) (by assumption) ?rest0n7
            case hy0n7 => (intro w hSw; (try dsimp only at hSw); go_simp <;> (try with_reducible rfl))
            simp only [Act.put]
            refine wpAnyH_take (i := 1) (v := ?v1n7) rfl (by kernel_rfl) (by kernel_rfl) (by kernel_rfl) (fun _ _ _ h => h) (Or.inl ⟨by rfl, ?hy1n7⟩) (by assumption) ?rest1n7
            case hy1n7 => (intro w hSw; (try dsimp only at hSw); go_simp <;> (try with_reducible rfl))
            simp only [Act.put]
            refine wpAnyH_take (i := 2) (v := ?v2n7) rfl (by kernel_rfl) (by kernel_rfl) (by kernel_rfl) (fun _ _ _ h => h) (Or.inl ⟨by rfl, ?hy2n7⟩) (by assumption) ?rest2n7
            case hy2n7 => (intro w hSw; (try dsimp only at hSw); go_simp <;> (try with_reducible rfl))
            simp only [Act.put]
            refine wpAnyH_take (i := 3) (v := ?v3n7) rfl (by kernel_rfl) (by kernel_rfl) (by kernel_rfl) (fun _ _ _ h => h) (Or.inl ⟨by rfl, ?hy3n7⟩) (by assumption) ?rest3n7
            case hy3n7 => (intro w hSw; (try dsimp only at hSw); go_simp <;> (try with_reducible rfl))
            simp only [Act.put]
            refine wpAnyH_take (i := 4) (v := ?v4n7) rfl (by kernel_rfl) (by kernel_rfl) (by kernel_rfl) (fun _ _ _ h => h) (Or.inl ⟨by rfl, ?hy4n7⟩) (by assumption) ?rest4n7
            case hy4n7 => (intro w hSw; (try dsimp only at hSw); go_simp <;> (try with_reducible rfl))
            simp only [Act.put]
            refine wpAnyH_take (i := 5) (v := ?v5n7) rfl (by kernel_rfl) (by kernel_rfl) (by kernel_rfl) (fun _ _ _ h => h) (Or.inl ⟨by rfl, ?hy5n7⟩) (by assumption) ?rest5n7
            case hy5n7 => (intro w hSw; (try dsimp only at hSw); go_simp <;> (try with_reducible rfl))
            simp only [Act.put]
            refine wpAnyH_ready (rs := [6]) (by kernel_rfl) (by simp) ?_
            refine AllReadyH.cons rfl (fun K hK => ?_) AllReadyH.nil
            go_simp
            refine (HLR.out Wd).mono ?_
            rintro e we ⟨g, rfl, hge, hrow, hbe⟩
            have HRe := Hid.mk' (HRd.out.later hbe)
            have HSe := Hid.mk' (HKD.out _ hbe)
            have HGe := Hid.mk' hrow
            have HGB : Hid (B ≤ g) := Nat.le_trans HRd.out.hB hge
            have HGN : Hid (g < we.heap.size) := cell_lt (hrow 0 HN0.out)
            have HGO : Hid ((Value.slice sa R sc).ownBlock ≠ some g) := fun e => by have := (own_geR HRd.out.own e).2; omega
            go_wp2_with fail
            refine hK.out _ _ HSe.out (fun hHeld => ?_)
            clear hK K hbe hge hrow HRd HKD HKS
            refine wpAnyH_ready (rs := [7]) (by kernel_rfl) (by simp) ?_
            refine AllReadyH.cons rfl (fun K hK => ?_) AllReadyH.nil
            go_simp
            have hba : Below we.heap.size we (we.alloc (.cells #[.slice (some ⟨g, 0, none⟩) n n] 39)) := (Below.refl _ _).alloc (Nat.le_refl _) _
            have HRa := Hid.mk' (HRe.out.later hba)
            have HNW := Hid.mk' (one_new we (.slice (some ⟨g, 0, none⟩) n n) 39)
            have HSa : Hid ((we.alloc (.cells #[.slice (some ⟨g, 0, none⟩) n n] 39)).cell? ⟨ob, 1, none⟩ = some (.slice sa R sc)) := HRa.out.c1
            have HGa := Hid.mk' (HGe.out.later hba)
            have HGM : Hid (g < (we.alloc (.cells #[.slice (some ⟨g, 0, none⟩) n n] 39)).heap.size) := Nat.lt_of_lt_of_le HGN.out hba.size
            refine hK.out _ _ HSa.out (fun hHeld => ?_)
            clear hK K hba HRe HSe HGe HGN
            generalize we.alloc (.cells #[.slice (some ⟨g, 0, none⟩) n n] 39) = Wa at *
            generalize we.heap.size = nb at *
            have hsz := HRa.out.hB
            refine wpAnyH_ready (rs := [8]) (by kernel_rfl) (by simp) ?_
            refine AllReadyH.cons rfl (fun K hK => ?_) AllReadyH.nil
            refine step_append_lies _ rfl _ _ _ rfl B 39 i0 _ 1 24 Tryd.underlying22 HINF.out.1 HINF.out.2.1 HINF.out.2.2.1 HINF.out.2.2.2 rfl (by omega) (.slice sa R sc) R (rowV us R) (by rfl) HRa.out.own ⟨nb, 0, none⟩ 1 1 [.slice (some ⟨g, 0, none⟩) n n] rfl rfl HNW.out (by simp [Value.oneCell']) (by omega) (by have := HRB.out; unfold maxLen; omega) (by have := HRB.out; omega) hsz _ rfl ?_
            intro g' cap' w9 hown9 hgrow9 hat9 hlt9
            obtain ⟨p1, pf, hR9⟩ := HRa.out.push hgrow9 hown9 hat9 HGB.out HGM.out HGO.out HGa.out HZR.out
            have HR9 := Hid.mk' hR9
            refine hK.out _ _ p1 (fun hHeld => ?_)
            clear hK K hown9 hgrow9 hat9 hlt9 hR9 HSa HNW HRa HGa HGM HGO HGB
            simp only [Act.put, List.getElem_toArray, List.getElem_cons_succ, List.getElem_cons_zero, List.setIfInBounds_toArray, List.set_cons_succ, List.set_cons_zero]
            refine wpAnyH_take (i := 9) (v := ?v9n7) rfl (by kernel_rfl) (by kernel_rfl) (by kernel_rfl) (fun _ _ _ h => h) (Or.inl ⟨by rfl, ?hy9n7⟩) (by assumption) ?rest9n7
            case hy9n7 => (intro w hSw; (try dsimp only at hSw); go_simp <;> (try with_reducible rfl))
            simp only [Act.put]
            refine wpAnyH_done (by kernel_rfl) ?_ _
            refine ahead_last rfl (fun K hK => ?_)
            go_simp
            refine hK _ _ ?_
            clear hK K
            go_wp2_with fail
            exact ⟨⟨j + 1, _, _, h2, by go_num, by show LinAt _ _ _ _ _ _ _ _ _ _ _; rw [show k * p + (j + 1) = R + 1 by have := HRQ.out; omega]; exact HR9.out⟩, by simp [intOf]; omega⟩
          · obtain rfl : j = p := by omega
            have hjI := (fun (x : Int) (hx : x = (j : Int)) => show ¬ (j : Int) < x by omega) _ HQ.out
            go_wp2_with fail
            exact ⟨⟨k + 1, _, _, h1, by go_num, by show LinAt _ _ _ _ _ _ _ _ _ _ _; rw [Nat.succ_mul]; exact HR.out⟩, by simp [intOf]; omega⟩
      · obtain rfl : k = p := by omega
        have hkI := (fun (x : Int) (hx : x = (k : Int)) => show ¬ (k : Int) < x by omega) _ HQ.out
        obtain ⟨sa, sc, hse⟩ := own_formR HR.out.own
        subst hse
        have q0 := HR.out.c0
        have q1 := HR.out.c1
        have q2 := HR.out.r0
        have q4 := HR.out.rz.1
        have q5 := HR.out.rz.2
        obtain ⟨f1, f2, f3, f4, f5⟩ := HR.out.fin HN0.out
        rw [← HQ.out] at q0 f1 f2 f3 f4 f5
        have HF := Hid.mk' (And.intro f1 f2)
        have HF4 := Hid.mk' (And.intro f4 f5)
        clear f1 f2 f4 f5 HR
        go_wp2_with fail
        refine bodyPost_ret (v := .tuple #[.agg #[.int .i64 7, .slice sa (k * k) sc], .nilIface]) (by simp [results, Tryd.results15, go_sem, HF4.out.1, HF4.out.2]) rfl ⟨_, rfl, ⟨us, HF.out.1⟩, HF.out.2⟩
end Go.Proofs.YtiegobkbinojeaaDoor
