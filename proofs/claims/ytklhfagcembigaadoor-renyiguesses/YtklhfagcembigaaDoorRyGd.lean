/- The document's GuessesOf: the greatest first, over and over. -/
import Derived.Test.YtklhfagcembigaaDoorRyRow
import Derived.Test.YtklhfagcembigaaDoorIsRat
import Derived.Test.YtklhfagcembigaaDoorLastOp
namespace Go.Proofs.YtklhfagcembigaaDoor
open Go.RowKit

/-- Guesses so far. -/
def gueC (c : List Int) : Int := gueN (atF c) c.length
theorem atF_left {c : List Int} {x : Int} {i : Nat} (h : i < c.length) : atF (c ++ [x]) i = atF c i := by
  unfold atF
  rw [List.getD_eq_getElem?_getD, List.getD_eq_getElem?_getD, List.getElem?_append_left h]
theorem atF_right {c : List Int} {x : Int} : atF (c ++ [x]) c.length = x := by
  unfold atF
  rw [List.getD_eq_getElem?_getD, List.getElem?_append_right (Nat.le_refl _), Nat.sub_self]; rfl
theorem gueN_congr {f g : Nat → Int} : ∀ {n : Nat}, (∀ i, i < n → f i = g i) → gueN f n = gueN g n
  | 0, _ => rfl
  | n + 1, h => by
    show gueN f n + ((n : Int) + 1) * f n = gueN g n + ((n : Int) + 1) * g n
    rw [gueN_congr (fun i hi => h i (by omega)), h n (by omega)]
theorem gueC_push (c : List Int) (x : Int) : gueC (c ++ [x]) = gueC c + ((c.length : Int) + 1) * x := by
  unfold gueC
  rw [List.length_append, List.length_singleton]
  show gueN (atF (c ++ [x])) c.length + ((c.length : Int) + 1) * atF (c ++ [x]) c.length = _
  rw [atF_right, gueN_congr (fun i hi => atF_left hi)]
/-- What is chosen, and what is left. -/
structure Picks (z : Nat → Int) (n : Nat) (c L : List Int) : Prop where
  perm : (c ++ L).Perm (rowL z n)
  down : c.Pairwise (fun a b => b ≤ a)
  below : ∀ x, x ∈ c → ∀ y, y ∈ L → y ≤ x
theorem Picks.start (z : Nat → Int) (n : Nat) : Picks z n [] (rowL z n) := ⟨List.Perm.refl _, List.Pairwise.nil, fun x hx => by simp at hx⟩
theorem perm_pick (L : List Int) (k : Nat) (hk : k < L.length) : (L[k] :: L.eraseIdx k).Perm L := by
  induction L generalizing k with
  | nil => simp at hk
  | cons a l ih =>
    cases k with
    | zero => exact List.Perm.refl _
    | succ k =>
      have hk' : k < l.length := by simpa using hk
      have := ih k hk'
      show (l[k] :: a :: l.eraseIdx k).Perm (a :: l)
      exact (List.Perm.swap a l[k] _).trans (this.cons a)
theorem Picks.next {z : Nat → Int} {n : Nat} {c L : List Int} (h : Picks z n c L) {k : Nat} (hk : k < L.length) (hm : ∀ j, j < L.length → atF L j ≤ atF L k) : Picks z n (c ++ [atF L k]) (L.eraseIdx k) := by
  have e : atF L k = L[k] := by unfold atF; rw [List.getD_eq_getElem?_getD, List.getElem?_eq_getElem hk]; rfl
  have hp := perm_pick L k hk
  have hle : ∀ y, y ∈ L → y ≤ atF L k := fun y hy => by
    obtain ⟨j, hj, rfl⟩ := List.getElem_of_mem hy
    have := hm j hj
    unfold atF at this ⊢
    rw [List.getD_eq_getElem?_getD, List.getElem?_eq_getElem hj] at this
    exact this
  have hmem : atF L k ∈ L := by rw [e]; exact List.getElem_mem _
  refine ⟨?_, ?_, ?_⟩
  · rw [e, List.append_assoc]
    exact (List.Perm.append_left c hp).trans h.perm
  · rw [List.pairwise_append]
    exact ⟨h.down, by simp, fun a ha b hb => by rw [List.mem_singleton] at hb; rw [hb]; exact h.below a ha _ hmem⟩
  · intro x hx y hy
    have hy' : y ∈ L := hp.mem_iff.1 (List.mem_cons_of_mem _ hy)
    rcases List.mem_append.1 hx with h1 | h1
    · exact h.below x h1 y hy'
    · rw [List.mem_singleton] at h1; rw [h1]; exact hle y hy'
theorem Picks.fin {z : Nat → Int} {n : Nat} {c : List Int} (h : Picks z n c []) : c = dnL z n := dnL_only (by have := h.perm; rwa [List.append_nil] at this) h.down
theorem Picks.len {z : Nat → Int} {n : Nat} {c L : List Int} (h : Picks z n c L) : c.length + L.length = n := by
  have := h.perm.length_eq
  rw [List.length_append, rowL_length] at this
  exact this
theorem Picks.right {z : Nat → Int} {n : Nat} {c L : List Int} (h : Picks z n c L) (hz : ∀ i, i < n → 0 ≤ z i ∧ z i ≤ 4096) {x : Int} (hx : x ∈ c ++ L) : 0 ≤ x ∧ x ≤ 4096 := by
  have h1 := h.perm.mem_iff.1 hx
  unfold rowL at h1
  obtain ⟨i, hi, rfl⟩ := List.mem_map.1 h1
  exact hz i (List.mem_range.1 hi)
theorem gueC_part {c : List Int} (hc : c.length ≤ 16) (h : ∀ x, x ∈ c → 0 ≤ x ∧ x ≤ 4096) : 0 ≤ gueC c ∧ gueC c ≤ 1048576 := by
  have h1 := gue_part (f := atF c) (n := c.length) (k := c.length) hc (fun i hi => by
    have : atF c i ∈ c := by unfold atF; rw [List.getD_eq_getElem?_getD, List.getElem?_eq_getElem hi]; exact List.getElem_mem _
    exact h _ this) (Nat.le_refl _)
  unfold gueC
  omega

theorem RowAt.setR {W : World} {b o m : Nat} {f : Nat → Int} {p : Addr} {v y : Value} (h : RowAt W b o m f) (hc : W.cell? p = some v) (hv : ∀ x, v ≠ .int .i64 x) : RowAt (W.setCell p y) b o m f := fun i hi => by
  rw [World.cell?_setCell_other _ _ _ _ (fun e => ?_)]
  · exact h i hi
  · have := h i hi
    rw [← e, hc] at this
    exact hv _ (Option.some.inj this)
theorem RowAt.put3R {W : World} {B : Nat} {s : Bool} {x : Option Addr} {l c : Nat} {x' : Option Addr} {l' c' : Nat} {q : Int} {d : Nat} {b o m : Nat} {f : Nat → Int} (h : RowAt W b o m f) (hR : RBox W B s x l c x' l' c' q d) (y0 y1 y2 : Value) : RowAt (put3 W B y0 y1 y2) b o m f := by
  obtain ⟨⟨g0, g1⟩, _, _⟩ := put_three' y0 y1 y2 hR.c0 hR.c1 hR.c2
  unfold Go.Proofs.YtklhfagcembigaaDoor.put3
  exact ((h.setR hR.c0 (by simp)).setR g0 (by simp)).setR g1 (by simp)
set_option maxRecDepth 100000 in
set_option maxHeartbeats 8000000 in
theorem GuessesOf_any (v : Value) (n S : Nat) (z : Nat → Int) (w : World) (h : NumsAt w v n z) (hS : sumN z n = (S : Int)) (hw0 : weightsErr z n = 0) :
    Calls Tryd.prog 7 #[v] w fun e w' => ∃ r, e = .returned r ∧ LR w' r S (gueN (atF (dnL z n)) n) ∧ Below w.heap.size w w' := by
  obtain ⟨h16, hok⟩ := weightsErr_ok hw0
  have hn0 := hok.posN
  have hS0 : 0 < S := by have := hok.pos; omega
  have hS4 : S ≤ 4096 := by have := hok.le; omega
  have HNM : Hid (∀ W, Below w.heap.size w W → NumsAt W v n z) := fun W hb => h.later hb
  have HSU : Hid (∀ W, Below w.heap.size w W → Calls Tryd.prog 17 #[v] W fun e w' => e = .returned (.int .i64 (S : Int)) ∧ w' = W) := fun W hb => by
    rcases h.later hb with ⟨_, _, _, h1⟩ | ⟨b, o, cap, rfl, _, hr⟩
    · omega
    · have h9 := Sum_some b o cap n z W hr (fun k hk => by have := hok.part hk; omega) (fun i hi => by have := hok.lt hi; omega) (by omega)
      rw [hS] at h9
      exact h9
  have HLT := Hid.mk' (fun i (hi : i < n) => hok.lt hi)
  have HR0 : Hid (∀ W, Calls Tryd.prog 15 #[.int .i64 0, .int .i64 1] W fun e w' => ∃ r, e = .returned r ∧ LR w' r S 0 ∧ Below W.heap.size W w') := fun W => RatioOf_to 0 1 S 0 W (by decide) (by decide) (by decide) (by decide) hS0 (by simp)
  have HRO0 : Hid (∀ (y : Int) W, 0 ≤ y → y ≤ 1048576 → Calls Tryd.prog 15 #[.int .i64 y, .int .i64 (S : Int)] W fun e w' => ∃ r, e = .returned r ∧ LR w' r S y ∧ Below W.heap.size W w') := fun y W h1 h2 => RatioOf_to y S S y W (by omega) (by omega) hS0 (by omega) hS0 rfl
  have HPL0 : Hid (∀ (y1 y2 : Int) W u u', 0 ≤ y1 → y1 ≤ 1048576 → 0 ≤ y2 → y2 ≤ 1048576 → LR W u S y1 → LR W u' S y2 → Calls Tryd.prog 16 #[u, u'] W fun e w' => ∃ r, e = .returned r ∧ LR w' r S (y1 + y2) ∧ Below W.heap.size W w') := fun y1 y2 W u u' a1 a2 b1 b2 hu hu' => RPlus_to u u' S S S y1 y2 (y1 + y2) W hu hu' ⟨hS0, by omega, by omega⟩ ⟨hS0, by omega, by omega⟩ hS0 (by grind)
  obtain ⟨va, vc, hve⟩ := h.form
  obtain ⟨W0, hW0⟩ : ∃ W0, W0 = w.alloc (.cells #[.bool false, .slice none 0 0, .slice none 0 0] 33) := ⟨_, rfl⟩
  have hb0 : Below w.heap.size w W0 := by rw [hW0]; exact (Below.refl _ _).alloc (Nat.le_refl _) _
  have c0 : W0.cell? ⟨w.heap.size, 0, none⟩ = some (.bool false) := by rw [hW0]; simp
  have c1 : W0.cell? ⟨w.heap.size, 1, none⟩ = some (.slice none 0 0) := by rw [hW0]; simp
  have c2 : W0.cell? ⟨w.heap.size, 2, none⟩ = some (.slice none 0 0) := by rw [hW0]; simp
  have f0 : ∀ j, W0.frozen? ⟨w.heap.size, j, none⟩ = false := fun j => by rw [hW0]; simp
  have HC : Hid (∀ W, Below W0.heap.size W0 W → (W.cell? ⟨w.heap.size, 0, none⟩ = some (.bool false) ∧ W.cell? ⟨w.heap.size, 1, none⟩ = some (.slice none 0 0) ∧ W.cell? ⟨w.heap.size, 2, none⟩ = some (.slice none 0 0)) ∧ ∀ j, W.frozen? ⟨w.heap.size, j, none⟩ = false) := fun W hb => ⟨⟨by rw [hb.cell (cell_lt c0)]; exact c0, by rw [hb.cell (cell_lt c1)]; exact c1, by rw [hb.cell (cell_lt c2)]; exact c2⟩, fun j => by rw [hb.frozen (show w.heap.size < W0.heap.size from cell_lt c0)]; exact f0 j⟩
  have HEND : Hid (∀ W, Below W0.heap.size W0 W → Below w.heap.size w W) := fun W hb => hb0.trans (hb.mono hb0.size)
  have HN0 := Hid.mk' (h.later hb0)
  have HW0 := Hid.mk' hW0
  have HL0 : Hid (w.heap.size < W0.heap.size) := cell_lt c0
  clear h hok hw0 hS hb0 hW0 c0 c1 c2 f0
  subst hve
  go_enter Tryd.func7, Tryd.ntmps7
  go_upto_region 1 with fail
  rw [← HW0.out]
  go_wp2_with (at_builtin; go_must (refine wpList_append_ownR rfl _ _ rfl W0 W0.heap.size _ 0 [] _ n z rfl rfl (World.ownsRow_nil _ _ _ _) (Below.refl _ _) (Nat.le_refl _) HN0.out (by omega) ?_; intro v1 W2 ho1 hb1 hs1; have HO1 := Hid.mk' ho1; have HB1 := Hid.mk' hb1; clear ho1 hb1 hs1))
  refine (HR0.out _).mono ?_
  rintro e w3 ⟨r3, rfl, hr3, hb3⟩
  obtain ⟨s3, x3, l3, k3, y3, m3, q3, rfl⟩ := hr3.sl
  have HRS := Hid.mk' (RBox.fresh hr3)
  have hcur3 := below_chain HB1.out hb3
  have HBS : Hid (W0.heap.size ≤ w3.heap.size) := hcur3.size
  have HB3 := Hid.mk' (below_chain hcur3 (new_below w3 (.cells #[.bool s3, .slice x3 l3 k3, .slice y3 m3 q3] 33)))
  have HR3 : Hid (RowIsR (w3.alloc (.cells #[.bool s3, .slice x3 l3 k3, .slice y3 m3 q3] 33)) v1 (rowL z n)) := by
    have h9 := HO1.out
    rw [List.nil_append, Nat.zero_add, ← cellL_row] at h9
    exact ((rowIs_ownR h9 (by rw [rowL_length]) hn0).later hb3).later (new_below w3 _)
  have HG0 : Hid (gueC [] = 0) := rfl
  clear hr3 hb3 hcur3 HO1 HB1 HR0
  go_wp2_with fail
  generalize w3.alloc (.cells #[.bool s3, .slice x3 l3 k3, .slice y3 m3 q3] 33) = W3 at *
  generalize w3.heap.size = Bs at *
  have HBSw : Hid (w.heap.size ≤ Bs) := Nat.le_trans (Nat.le_of_lt HL0.out) HBS.out
  go_loopw [3, 5] (fun s t wr => ∃ (c L : List Int) (T : Int) (sS : Bool) (xS : Option Addr) (lS cS : Nat) (yS : Option Addr) (mS kS : Nat), t = .int .i64 T ∧ Hid (T = (c.length : Int) + 1) ∧ Hid (Picks z n c L) ∧ Hid (RowIsR wr s L) ∧ Hid (RBox wr Bs sS xS lS cS yS mS kS (lowN S (gueC c)) (lowD S (gueC c))) ∧ Hid (Below W0.heap.size W0 wr)) (fun _ t _ => n + 1 - (intOf t).toNat)
  case atStart => exact ⟨[], rowL z n, 1, s3, x3, l3, k3, y3, m3, q3, rfl, rfl, Picks.start z n, HR3.out, by show RBox _ _ _ _ _ _ _ _ _ _ _; rw [HG0.out]; exact HRS.out, HB3.out⟩
  case round =>
    clear HR3 HRS HB3
    obtain ⟨c, L, T, sS, xS, lS, cS, yS, mS, kS, rfl, HT, HPK, HRW, HSX, HB⟩ := hrel
    have HLEN := Hid.mk' HPK.out.len
    rcases HRW.out with ⟨hL, ad, cp, hv⟩ | ⟨b, cp, hv, h0, hcp, hrow⟩
    · subst hL
      subst hv
      have hcn : c = dnL z n := HPK.out.fin
      have HGE : Hid (gueC c = gueN (atF (dnL z n)) n) := by show _ = _; unfold gueC; rw [hcn, dnL_length]
      have hS9 := HSX.out
      rw [HGE.out] at hS9
      have q0 := hS9.c0
      have q1 := hS9.c1
      have q2 := hS9.c2
      obtain ⟨⟨d0, d1, d2⟩, df⟩ := HC.out wr HB.out
      have df0 := df 0
      have df1 := df 1
      have df2 := df 2
      obtain ⟨⟨g0, g1⟩, ⟨g2, g3⟩, g4⟩ := put_three' (.bool sS) (.slice xS lS cS) (.slice yS mS kS) d0 d1 d2
      have hX : RBox wr w.heap.size false none 0 0 none 0 0 0 0 := ⟨d0, d1, d2, ⟨_, _, rfl, big_none _, big_none _⟩, fun j _ => df j⟩
      have HP := Hid.mk' (RatioAt.put3 hX hS9.rat (.bool sS) (.slice xS lS cS) (.slice yS mS kS))
      have HBE : Hid (Below w.heap.size w (((wr.setCell ⟨w.heap.size, 0, none⟩ (.bool sS)).setCell ⟨w.heap.size, 1, none⟩ (.slice xS lS cS)).setCell ⟨w.heap.size, 2, none⟩ (.slice yS mS kS))) := (((HEND.out wr HB.out).setCell (Nat.le_refl _) _).setCell (Nat.le_refl _) _).setCell (Nat.le_refl _) _
      clear hS9 hX df hcn
      go_wp2_with fail
      unfold put3 at HP
      have G0 := Hid.mk' g2
      have G1 := Hid.mk' g3
      have G2 := Hid.mk' g4
      clear g0 g1 g2 g3 g4
      generalize ((wr.setCell ⟨w.heap.size, 0, none⟩ (.bool sS)).setCell ⟨w.heap.size, 1, none⟩ (.slice xS lS cS)).setCell ⟨w.heap.size, 2, none⟩ (.slice yS mS kS) = W9 at *
      exact bodyPost_ret (v := .agg #[.bool sS, .slice xS lS cS, .slice yS mS kS]) (by simp [results, Tryd.results7, go_sem, G0.out, G1.out, G2.out]) rfl ⟨_, rfl, HP.out, HBE.out⟩
    · subst hv
      have HROW : Hid (∀ W, Below wr.heap.size wr W → RowAt W b 0 L.length (atF L)) := fun W hb => hrow.later hb
      have h0I : (0 : Int) < (L.length : Int) := by omega
      have HCP := Hid.mk' hcp
      have HH0 := Hid.mk' h0
      have hl16 : L.length ≤ 16 := by have := HLEN.out; omega
      clear hrow HRW
      rename World => WO
      go_wp2_with fail
      go_loopw [6, 7] (fun s t wx => ∃ k bm : Nat, k ≤ L.length ∧ bm < L.length ∧ s = .int .i64 (bm : Int) ∧ t = .int .i64 (k : Int) ∧ Hid (∀ j, j < k → atF L j ≤ atF L bm) ∧ Hid (Below WO.heap.size WO wx)) (fun _ t _ => L.length - (intOf t).toNat)
      case atStart => exact ⟨0, 0, Nat.zero_le _, h0, rfl, rfl, fun j hj => by omega, Below.refl _ _⟩
      case round =>
        obtain ⟨k, bm, hk, hbm, rfl, rfl, HK, HX⟩ := hrel
        have hk0 : (0 : Int) ≤ (k : Int) := by omega
        have hb0 : (0 : Int) ≤ (bm : Int) := by omega
        have hbI : (bm : Int) < (L.length : Int) := by omega
        have hcb := HROW.out wr HX.out bm hbm
        rw [Nat.zero_add] at hcb
        rcases Nat.lt_or_ge k L.length with h2 | h2
        · have hkI : (k : Int) < (L.length : Int) := by omega
          have hck := HROW.out wr HX.out k h2
          rw [Nat.zero_add] at hck
          have HD : Hid (∀ q, Below WO.heap.size WO (wr.drewN q)) := fun q => below_drewR HX.out q
          by_cases hz : atF L bm < atF L k
          · have HN : Hid (∀ j, j < k + 1 → atF L j ≤ atF L k) := fun j hj => by
              rcases Nat.lt_or_ge j k with h3 | h3
              · have := HK.out j h3; omega
              · obtain rfl : j = k := by omega
                exact Int.le_refl _
            go_wp2_with fail
            go_quiet (fail)
            go_wp2_with fail
            exact ⟨⟨k + 1, k, h2, h2, rfl, by go_num, HN, Hid.mk' (HD.out _)⟩, by simp [intOf]; omega⟩
          · have HN : Hid (∀ j, j < k + 1 → atF L j ≤ atF L bm) := fun j hj => by
              rcases Nat.lt_or_ge j k with h3 | h3
              · exact HK.out j h3
              · obtain rfl : j = k := by omega
                omega
            go_wp2_with fail
            go_quiet (fail)
            go_wp2_with fail
            exact ⟨⟨k + 1, bm, h2, hbm, rfl, by go_num, HN, Hid.mk' (HD.out _)⟩, by simp [intOf]; omega⟩
        · obtain rfl : k = L.length := by omega
          have hkI : ¬ (L.length : Int) < (L.length : Int) := by omega
          have hxm : atF L bm ∈ c ++ L := List.mem_append_right _ (by unfold atF; rw [List.getD_eq_getElem?_getD, List.getElem?_eq_getElem hbm]; exact List.getElem_mem _)
          have hxr := HPK.out.right HLT.out hxm
          have hgc := gueC_part (c := c) (by have := HLEN.out; omega) (fun y hy => HPK.out.right HLT.out (List.mem_append_left _ hy))
          have hT16 : 1 ≤ T ∧ T ≤ 16 := by have := HLEN.out; have := HT.out; have := HH0.out; omega
          have HPN := Hid.mk' (HPK.out.next hbm (fun j hj => HK.out j hj))
          have HGN : Hid (gueC (c ++ [atF L bm]) = gueC c + T * atF L bm) := by show _ = _; rw [gueC_push, HT.out]
          have HTN : Hid (T + 1 = ((c ++ [atF L bm]).length : Int) + 1) := by show _ = _; rw [List.length_append, List.length_singleton, HT.out]; simp
          have hlt : c.length < n := by have := HLEN.out; have := HH0.out; omega
          have HBM : Hid (Below W0.heap.size W0 wr) := below_chain HB.out HX.out
          have HSXr := Hid.mk' (HSX.out.later HX.out)
          have HROWr := Hid.mk' (fun (W : World) (hb : Below wr.heap.size wr W) => HROW.out W (below_chain HX.out hb))
          have HCX := Hid.mk' (fun (W : World) (hb : Below wr.heap.size wr W) => by have h9 := HROW.out W (below_chain HX.out hb) bm hbm; rw [Nat.zero_add] at h9; exact h9)
          have HSU' := Hid.mk' (fun (W : World) (hb : Below wr.heap.size wr W) => HSU.out W (HEND.out W (below_chain HBM.out hb)))
          clear HK hxm HPK HROW HSX HX
          generalize hce : c ++ [atF L bm] = cn at *
          generalize atF L bm = x at *
          generalize hge : gueC c = gc at *
          have hy2 : 0 ≤ T * x ∧ T * x ≤ 65536 := ⟨Int.mul_nonneg (by omega) hxr.1, Int.mul_le_mul (c := 16) (d := 4096) (by omega) hxr.2 hxr.1 (by omega)⟩
          have hwy : IntKind.i64.wrap (T * x) = T * x := by rw [IntKind.wrap_i64]; generalize T * x = y at *; omega
          have HRO : Hid (∀ W, Calls Tryd.prog 15 #[.int .i64 (IntKind.i64.wrap (T * x)), .int .i64 (S : Int)] W fun e w' => ∃ r, e = .returned r ∧ LR w' r S (T * x) ∧ Below W.heap.size W w') := fun W => by rw [hwy]; exact HRO0.out (T * x) W hy2.1 (by omega)
          have HPL := Hid.mk' (fun W u u' => HPL0.out gc (T * x) W u u' hgc.1 hgc.2 hy2.1 (by omega))
          clear hwy hy2
          have HKS : Hid (∀ W, Below wr.heap.size wr W → (W.cell? ⟨Bs, 0, none⟩ = some (.bool sS) ∧ W.cell? ⟨Bs, 1, none⟩ = some (.slice xS lS cS) ∧ W.cell? ⟨Bs, 2, none⟩ = some (.slice yS mS kS)) ∧ W.cell? ⟨b, bm, none⟩ = some (.int .i64 x)) := fun W hb => ⟨⟨(HSXr.out.later hb).c0, (HSXr.out.later hb).c1, (HSXr.out.later hb).c2⟩, HCX.out W hb⟩
          have hcur : Below wr.heap.size wr wr.drew := (Below.refl _ _).drew
          clear hcb HCX HSU HRO0 HPL0
          go_upto_region 13 with fail
          refine region_but_last (n := 11) (S := (fun W => (W.cell? ⟨Bs, 0, none⟩ = some (.bool sS) ∧ W.cell? ⟨Bs, 1, none⟩ = some (.slice xS lS cS) ∧ W.cell? ⟨Bs, 2, none⟩ = some (.slice yS mS kS)) ∧ W.cell? ⟨b, bm, none⟩ = some (.int .i64 x))) (by kernel_rfl) (by kernel_rfl) (by kernel_rfl) (HKS.out _ hcur) (fun hHeld => ?_)
          refine wpAnyH_take (i := 0) (v := ?v0g) rfl (by kernel_rfl) (by kernel_rfl) (by kernel_rfl) (fun _ _ _ h => h) (Or.inl ⟨by rfl, ?hy0g⟩) (by assumption) ?rest0g
          case hy0g => (intro w hSw; (try dsimp only at hSw); go_simp <;> (try with_reducible rfl))
          simp only [Act.put]
          refine wpAnyH_take (i := 1) (v := ?v1g) rfl (by kernel_rfl) (by kernel_rfl) (by kernel_rfl) (fun _ _ _ h => h) (Or.inl ⟨by rfl, ?hy1g⟩) (by assumption) ?rest1g
          case hy1g => (intro w hSw; (try dsimp only at hSw); go_simp <;> (try with_reducible rfl))
          simp only [Act.put]
          refine wpAnyH_take (i := 2) (v := ?v2g) rfl (by kernel_rfl) (by kernel_rfl) (by kernel_rfl) (fun _ _ _ h => h) (Or.inl ⟨by rfl, ?hy2g⟩) (by assumption) ?rest2g
          case hy2g => (intro w hSw; (try dsimp only at hSw); go_simp <;> (try with_reducible rfl))
          simp only [Act.put]
          refine wpAnyH_take (i := 3) (v := ?v3g) rfl (by kernel_rfl) (by kernel_rfl) (by kernel_rfl) (fun _ _ _ h => h) (Or.inl ⟨by rfl, ?hy3g⟩) (by assumption) ?rest3g
          case hy3g => (intro w hSw; (try dsimp only at hSw); go_simp <;> (try with_reducible rfl))
          simp only [Act.put]
          refine wpAnyH_take (i := 4) (v := ?v4g) rfl (by kernel_rfl) (by kernel_rfl) (by kernel_rfl) (fun _ _ _ h => h) (Or.inl ⟨by rfl, ?hy4g⟩) (by assumption) ?rest4g
          case hy4g => (intro w hSw; (try dsimp only at hSw); go_simp <;> (try with_reducible rfl))
          simp only [Act.put]
          refine wpAnyH_take (i := 5) (v := ?v5g) rfl (by kernel_rfl) (by kernel_rfl) (by kernel_rfl) (fun _ _ _ h => h) (Or.inl ⟨by rfl, ?hy5g⟩) (by assumption) ?rest5g
          case hy5g => (intro w hSw; (try dsimp only at hSw); go_simp <;> (try with_reducible rfl))
          simp only [Act.put]
          refine wpAnyH_take (i := 6) (v := ?v6g) rfl (by kernel_rfl) (by kernel_rfl) (by kernel_rfl) (fun _ _ _ h => h) (Or.inl ⟨by rfl, ?hy6g⟩) (by assumption) ?rest6g
          case hy6g => (intro w hSw; (try dsimp only at hSw); go_simp <;> (try with_reducible rfl))
          simp only [Act.put]
          refine wpAnyH_take (i := 7) (v := ?v7g) rfl (by kernel_rfl) (by kernel_rfl) (by kernel_rfl) (fun _ _ _ h => h) (Or.inl ⟨by rfl, ?hy7g⟩) (by assumption) ?rest7g
          case hy7g => (intro w hSw; (try dsimp only at hSw); go_simp <;> (try with_reducible rfl))
          simp only [Act.put]
          refine wpAnyH_ready (rs := [8]) (by kernel_rfl) (by simp) ?_
          refine AllReadyH.cons rfl (fun K hK => ?_) AllReadyH.nil
          go_simp
          refine (HSU'.out _ hcur).mono ?_
          rintro e wa ⟨rfl, hwa⟩
          rw [hwa]
          clear hwa wa
          go_wp2_with fail
          refine hK.out _ _ ?_ (fun hHeld => ?_)
          · exact HKS.out _ hcur
          clear hK K
          refine wpAnyH_ready (rs := [9]) (by kernel_rfl) (by simp) ?_
          refine AllReadyH.cons rfl (fun K hK => ?_) AllReadyH.nil
          go_simp
          refine (HRO.out _).mono ?_
          rintro e wa ⟨ra, rfl, hra, hba⟩
          obtain ⟨sa, xa, la, ca, ya, ma, ka, rfl⟩ := hra.sl
          have hcur := below_chain hcur hba
          have HVa := Hid.mk' hra
          clear hra hba
          go_wp2_with fail
          refine hK.out _ _ ?_ (fun hHeld => ?_)
          · exact HKS.out _ hcur
          clear hK K
          refine wpAnyH_ready (rs := [10]) (by kernel_rfl) (by simp) ?_
          refine AllReadyH.cons rfl (fun K hK => ?_) AllReadyH.nil
          go_simp
          refine (HPL.out _ _ _ (HSXr.out.later hcur).rat HVa.out).mono ?_
          rintro e wb ⟨rb, rfl, hrb, hbb⟩
          obtain ⟨sb, xb, lb, cb, yb, mb, kb, rfl⟩ := hrb.sl
          have hcur := below_chain hcur hbb
          have hL9 := HSXr.out.later hcur
          have fz0 := hL9.fz 0 (by decide)
          have fz1 := hL9.fz 1 (by decide)
          have fz2 := hL9.fz 2 (by decide)
          have k0 := hL9.c0
          have k1 := hL9.c1
          have k2 := hL9.c2
          obtain ⟨⟨g0, g1⟩, ⟨g2, g3⟩, g4⟩ := put_three' (.bool sb) (.slice xb lb cb) (.slice yb mb kb) k0 k1 k2
          have HP := Hid.mk' (hL9.put hrb)
          have HRZ := Hid.mk' ((HROWr.out _ hcur).put3R hL9 (.bool sb) (.slice xb lb cb) (.slice yb mb kb))
          have HB9 : Hid (Below W0.heap.size W0 (((wb.setCell ⟨Bs, 0, none⟩ (.bool sb)).setCell ⟨Bs, 1, none⟩ (.slice xb lb cb)).setCell ⟨Bs, 2, none⟩ (.slice yb mb kb))) := (((below_chain HBM.out hcur).setCell HBS.out _).setCell HBS.out _).setCell HBS.out _
          have HLB := Hid.mk' hcur
          clear hL9 hrb hbb
          go_wp2_with fail
          refine hK.out _ _ ?_ (fun hHeld => ?_)
          · exact HKS.out _ hcur
          clear hK K
          refine wpAnyH_done (by kernel_rfl) ?_ _
          refine ahead_last rfl (fun K hK => ?_)
          go_simp
          refine hK _ _ ?_
          clear hK K
          unfold put3 at HP HRZ
          clear HKS HVa hHeld hcur k0 k1 k2 fz0 fz1 fz2 g0 g1 g2 g3 g4 HSXr HROWr HSU' HRO HPL
          generalize ((wb.setCell ⟨Bs, 0, none⟩ (.bool sb)).setCell ⟨Bs, 1, none⟩ (.slice xb lb cb)).setCell ⟨Bs, 2, none⟩ (.slice yb mb kb) = wz at *
          have HN1 := Hid.mk' (sub_headR (cp := cp) HRZ.out (Nat.le_of_lt hbm))
          by_cases hck : cp = bm + 1
          · subst hck
            have hlb : L.length = bm + 1 := by omega
            go_wp2_with (at_builtin; go_must (first
              | (refine wpList_append_ownR rfl _ _ rfl wz wz.heap.size v8 (0 + bm) _ _ (L.length - (bm + 1)) (fun j => atF L (bm + 1 + j)) rfl rfl HO1.out HBB1.out HSS1.out (by show NumsAt _ _ _ _; rw [hlb, Nat.sub_self]; exact Or.inl ⟨_, _, rfl, rfl⟩) (by omega) ?_; intro v9 W9 ho9 hb9 hs9; have HO9 := Hid.mk' ho9; have HBB9 := Hid.mk' hb9; clear ho9 hb9 hs9)
              | (refine wpList_append_ownR rfl _ _ rfl wz wz.heap.size _ 0 [] _ bm (atF L) rfl rfl (World.ownsRow_nil _ _ _ _) (Below.refl _ _) (Nat.le_refl _) HN1.out (by omega) ?_; intro v8 W8 ho8 hb8 hs8; have HO1 := Hid.mk' ho8; have HBB1 := Hid.mk' hb8; have HSS1 := Hid.mk' hs8; clear ho8 hb8 hs8)))
            exact ⟨⟨cn, L.eraseIdx bm, T + 1, sb, xb, lb, cb, yb, mb, kb, by go_num, HTN, HPN, row_cutR hbm rfl rfl HO9.out, by show RBox _ _ _ _ _ _ _ _ _ _ _; rw [HGN.out]; exact HP.out.later HBB9.out, below_chain HB9.out HBB9.out⟩, by simp [intOf]; have := HT.out; omega⟩
          · go_wp2_with (at_builtin; go_must (first
              | (refine wpList_append_ownR rfl _ _ rfl wz wz.heap.size v8 (0 + bm) _ _ (L.length - (bm + 1)) (fun j => atF L (bm + 1 + j)) rfl rfl HO1.out HBB1.out HSS1.out (sub_tailR (HRZ.out.later HBB1.out) hbm) (by omega) ?_; intro v9 W9 ho9 hb9 hs9; have HO9 := Hid.mk' ho9; have HBB9 := Hid.mk' hb9; clear ho9 hb9 hs9)
              | (refine wpList_append_ownR rfl _ _ rfl wz wz.heap.size _ 0 [] _ bm (atF L) rfl rfl (World.ownsRow_nil _ _ _ _) (Below.refl _ _) (Nat.le_refl _) HN1.out (by omega) ?_; intro v8 W8 ho8 hb8 hs8; have HO1 := Hid.mk' ho8; have HBB1 := Hid.mk' hb8; have HSS1 := Hid.mk' hs8; clear ho8 hb8 hs8)))
            exact ⟨⟨cn, L.eraseIdx bm, T + 1, sb, xb, lb, cb, yb, mb, kb, by go_num, HTN, HPN, row_cutR hbm rfl rfl HO9.out, by show RBox _ _ _ _ _ _ _ _ _ _ _; rw [HGN.out]; exact HP.out.later HBB9.out, below_chain HB9.out HBB9.out⟩, by simp [intOf]; have := HT.out; omega⟩
end Go.Proofs.YtklhfagcembigaaDoor
