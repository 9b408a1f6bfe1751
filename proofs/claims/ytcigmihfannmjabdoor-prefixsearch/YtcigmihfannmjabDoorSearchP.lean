/- prefix.Search, walked. -/
import Derived.Test.YtcigmihfannmjabDoorSearchC
import Derived.Deep.RegionHeld3
import Derived.WalkSpells
namespace Go.Proofs.YtcigmihfannmjabDoor
open Go.RowKit

def boxN (p : Value) (w : World) : Nat := match p with
  | .pointer (some q) => (match w.cell? q with
    | some (.int _ x) => x.toNat
    | _ => 0)
  | _ => 0
theorem boxN_at {w : World} {F k : Nat} (h : w.cell? ⟨F, 0, none⟩ = some (.int .i64 (k : Int))) : boxN (.pointer (some ⟨F, 0, none⟩)) w = k := by simp [boxN, h]
set_option maxRecDepth 100000 in
set_option maxHeartbeats 4000000 in
theorem Search_ok (b o cap b' o' cap' n : Nat) (ks gs : Nat → Int) (w : World) (hr : RowAt w b o n ks) (hr' : RowAt w b' o' (n + 1) gs) (hk : ∀ i, 0 ≤ ks i ∧ ks i ≤ 4096) (hg : ∀ i, 0 ≤ gs i ∧ gs i ≤ 4096) (hn0 : 0 < n) (hn : n ≤ 16) (hcap : n ≤ cap) (hcap' : n + 1 ≤ cap')
    (hch : Calls Tryd.prog 36 #[.slice (some ⟨b, o, none⟩) n cap, .slice (some ⟨b', o', none⟩) (n + 1) cap'] w fun e w' => e = .returned .nilIface ∧ w' = w) :
    Calls Tryd.prog 18 #[.slice (some ⟨b, o, none⟩) n cap, .slice (some ⟨b', o', none⟩) (n + 1) cap'] w fun e w' => e = .returned (.tuple #[.int .i64 (cst ks gs 0 n), .int .i64 (rootOf ks gs 0 (n - 1) : Nat), .nilIface]) ∧ Below w.heap.size w w' := by
  have HR := Hid.mk' (fun (W : World) (hb : Below w.heap.size w W) => hr.later hb)
  have HR' := Hid.mk' (fun (W : World) (hb : Below w.heap.size w W) => hr'.later hb)
  have HK := Hid.mk' hk
  have HG := Hid.mk' hg
  clear hr hr' hk hg
  have hnI : (n : Int) ≤ 16 := by omega
  have hn0I : (0 : Int) < (n : Int) := by omega
  have hcapI : (n : Int) ≤ (cap : Int) := by omega
  have hcapI' : (n : Int) + 1 ≤ (cap' : Int) := by omega
  have HC0 : Hid (Costs (w.alloc (.cells Tryd.zeroCells65 65)) w.heap.size (tabC ks gs n 1 0)) := by
    have := Costs.zero w
    have e : tabC ks gs n 1 0 = fun _ _ => 0 := funext fun a => funext fun b => tabC_start ks gs n a b
    show Costs _ _ _
    rw [e]; exact this
  have HB0 : Hid (Below w.heap.size w (w.alloc (.cells Tryd.zeroCells65 65))) := (Below.refl _ _).alloc (Nat.le_refl _) _
  go_enter Tryd.func18, Tryd.ntmps18
  go_wp2_with fail
  refine hch.mono ?_
  rintro e w1 ⟨rfl, hw1⟩
  rw [hw1]
  clear hw1 hch
  go_wp2_with fail
  go_loopw [5, 9] (fun ro sz wr => ∃ (s R : Nat), s ≤ n ∧ sz = .int .i64 ((s : Int) + 1) ∧ ro = .int .i64 (R : Int) ∧ Hid (Costs wr w.heap.size (tabC ks gs n (s + 1) 0)) ∧ Hid (Below w.heap.size w wr) ∧ Hid (s = n → R = rootOf ks gs 0 (n - 1))) (fun _ sz _ => ((n : Int) + 1 - intOf sz).toNat)
  case atStart => exact ⟨0, 0, by omega, rfl, rfl, HC0, HB0, fun h => by omega⟩
  case round =>
    clear HC0 HB0
    obtain ⟨s, R, hs, rfl, rfl, HC, HB, HRT⟩ := hrel
    rcases Nat.lt_or_ge s n with h1 | h1
    · have hsI : (s : Int) + 1 ≤ (n : Int) := by omega
      have hs0 : (0 : Int) ≤ (s : Int) := by omega
      clear HRT
      go_wp2_with fail
      go_loopw [5, 10] (fun ro p wx => ∃ (g R F : Nat), g + s ≤ n ∧ p = .pointer (some ⟨F, 0, none⟩) ∧ ro = .int .i64 (R : Int) ∧ wx.cell? ⟨F, 0, none⟩ = some (.int .i64 (g : Int)) ∧ wx.frozen? ⟨F, 0, none⟩ = false ∧ Hid (w.heap.size < F) ∧ Hid (Costs wx w.heap.size (tabC ks gs n (s + 1) g)) ∧ Hid (Below w.heap.size w wx) ∧ Hid (0 < g → R = (g - 1) + rootOf ks gs (g - 1) s)) (fun _ p wx => n - boxN p wx)
      case atStart =>
        refine ⟨0, R, _, by omega, rfl, rfl, ?_, ?_, ?_, ?_, ?_, fun h => by omega⟩
        · rw [World.cell?_alloc_at _ _ _ _ rfl]; rfl
        · exact World.frozen?_alloc_new wr _ _ _
        · have := cell_lt (HC.out.cells 0 0 (by omega) (by omega)); exact this
        · exact HC.out.later ((Below.refl _ _).alloc (Nat.le_refl _) _)
        · exact HB.out.alloc HB.out.size _
      case round =>
        clear HC HB
        obtain ⟨wx, rfl⟩ : ∃ wx, wx = wr := ⟨_, rfl⟩
        obtain ⟨g, R2, F, hg, rfl, rfl, hF, hFz, HFN, HC, HB, HRT⟩ := hrel
        have hg0 : (0 : Int) ≤ (g : Int) := by omega
        rcases Nat.lt_or_ge (g + s) n with h2 | h2
        · have hgI : (g : Int) + ((s : Int) + 1) ≤ (n : Int) := by omega
          have hF1 : ∀ X, (wx.alloc X).cell? ⟨F, 0, none⟩ = some (.int .i64 (g : Int)) := fun X => by rw [World.cell?_alloc_lt _ _ _ (cell_lt hF)]; exact hF
          obtain ⟨W1, hW1⟩ : ∃ W1, W1 = wx.alloc (.cells #[.int .i64 ((g : Int) + ((s : Int) + 1))] 3) := ⟨_, rfl⟩
          have hb1 : Below wx.heap.size wx W1 := by rw [hW1]; exact (Below.refl _ _).alloc (Nat.le_refl _) _
          obtain ⟨t, ht⟩ : ∃ t, t = g + (s + 1) := ⟨_, rfl⟩
          have htI : (g : Int) + ((s : Int) + 1) = (t : Int) := by omega
          have HX : Hid (∀ W, Below W1.heap.size W1 W → W.cell? ⟨F, 0, none⟩ = some (.int .i64 (g : Int)) ∧ W.frozen? ⟨F, 0, none⟩ = false ∧ W.cell? ⟨wx.heap.size, 0, none⟩ = some (.int .i64 (t : Int)) ∧ Costs W w.heap.size (tabC ks gs n (s + 1) g)) := fun W hb => by
            have hb2 := below_chain hb1 hb
            have y : W1.cell? ⟨wx.heap.size, 0, none⟩ = some (.int .i64 (t : Int)) := by rw [hW1, World.cell?_alloc_at _ _ _ _ rfl, htI]; rfl
            exact ⟨by rw [hb2.cell (cell_lt hF)]; exact hF, by rw [hb2.frozen (cell_lt hF)]; exact hFz, by rw [hb.cell (cell_lt y)]; exact y, HC.out.later hb2⟩
          have HCL : Hid (∀ W, Below W1.heap.size W1 W → ∀ (c : Nat) (r : Int), c ≤ s → r = (g : Int) + (c : Int) → Calls Tryd.prog 37 #[.int .i64 r, .pointer (some ⟨w.heap.size, 0, none⟩), .pointer (some ⟨F, 0, none⟩), .pointer (some ⟨wx.heap.size, 0, none⟩)] W fun e w' => e = .returned (.int .i64 (sides2 ks gs g s c)) ∧ Below W.heap.size W w') := fun W hb c r hc hr => by
            have hx := HX.out W hb
            have := below_any w.heap.size F wx.heap.size g (g + c) (g + (s + 1)) (tabC ks gs n (s + 1) g) W hx.2.2.2 hx.1 (by rw [hx.2.2.1, ht]) (by omega) (by omega) (by omega) (fun a b _ hb => tabC_bound HK.out HG.out n (s + 1) g a b hb)
            rw [tabC_sides ks gs n s g c (by omega) hc] at this
            rw [hr]
            simpa using this
          have HSB : Hid (∀ c, c ≤ s → 0 ≤ sides2 ks gs g s c ∧ sides2 ks gs g s c ≤ 20000000) := fun c hc => by
            rw [← tabC_sides ks gs n s g c (by omega) hc]
            have e1 := tabC_bound HK.out HG.out n (s + 1) g g (g + c) (by omega)
            have e2 := tabC_bound HK.out HG.out n (s + 1) g (g + c + 1) (g + (s + 1)) (by omega)
            omega
          have HB1 := Hid.mk' hb1
          have HBW := Hid.mk' (below_chain HB.out hb1)
          have HFL := Hid.mk' (cell_lt hF)
          have HBX := Hid.mk' (boxN_at hF)
          have HT := Hid.mk' ht
          have HTI := Hid.mk' htI
          clear HRT hb1 ht htI
          go_wp2_with fail
          rw [← hW1]
          have HW1 := Hid.mk' hW1
          clear hW1 hF hFz HC hF1
          go_loopw [5, 13] (fun ro r wy => ∃ (c : Nat), c ≤ s ∧ r = .int .i64 ((g : Int) + 1 + (c : Int)) ∧ ro = .int .i64 ((g : Int) + (argLeast (sides2 ks gs g s) c : Nat)) ∧ Hid (Below W1.heap.size W1 wy)) (fun _ r _ => ((g : Int) + (s : Int) + 1 - intOf r).toNat)
          case atStart => exact ⟨0, by omega, by simp, by simp [argLeast], Below.refl _ _⟩
          case round =>
            obtain ⟨c, hc, rfl, rfl, HBY⟩ := hrel
            have hc0 : (0 : Int) ≤ (c : Int) := by omega
            obtain ⟨y0, -, y1, -⟩ := HX.out _ HBY.out
            have hal := argLeast_le (sides2 ks gs g s) c
            rcases Nat.lt_or_ge c s with h3 | h3
            · have hcI : (g : Int) + 1 + (c : Int) < (t : Int) := by have := HT.out; omega
              have k1 := HCL.out _ HBY.out (c + 1) ((g : Int) + 1 + (c : Int)) (by omega) (by omega)
              have k2 := Hid.mk' (fun (W : World) (hb : Below wr.heap.size wr W) => HCL.out W (below_chain HBY.out hb) (argLeast (sides2 ks gs g s) c) _ (by omega) rfl)
              have HA : Hid (argLeast (sides2 ks gs g s) (c + 1) = if sides2 ks gs g s (c + 1) < sides2 ks gs g s (argLeast (sides2 ks gs g s) c) then c + 1 else argLeast (sides2 ks gs g s) c) := rfl
              have s1 := HSB.out (c + 1) (by omega)
              have s2 := HSB.out (argLeast (sides2 ks gs g s) c) (by omega)
              generalize sides2 ks gs g s (c + 1) = p at k1 HA s1
              generalize sides2 ks gs g s (argLeast (sides2 ks gs g s) c) = q at k2 HA s2
              go_wp2_with fail
              refine k1.mono ?_
              rintro e w5 ⟨rfl, hb5⟩
              have HB5 := Hid.mk' hb5
              clear hb5 k1
              go_wp2_with fail
              refine (k2.out w5 HB5.out).mono ?_
              rintro e w6 ⟨rfl, hb6⟩
              have HB6 := Hid.mk' (below_chain HB5.out hb6)
              clear hb6 k2
              by_cases hlt : p < q
              · go_wp2_with fail
                refine ⟨⟨c + 1, by omega, by go_num, ?_, below_chain HBY.out HB6.out⟩, by simp [intOf]; omega⟩
                rw [HA.out, if_pos hlt]
                exact congrArg _ (by omega)
              · have hge : q ≤ p := by omega
                go_wp2_with fail
                refine ⟨⟨c + 1, by omega, by go_num, ?_, below_chain HBY.out HB6.out⟩, by simp [intOf]; omega⟩
                rw [HA.out, if_neg (by omega)]
            · obtain rfl : s = c := by omega
              have hcI : (g : Int) + 1 + (s : Int) = (t : Int) := by have := HT.out; omega
              have htn : t ≤ n := by have := HT.out; omega
              have hgt : g ≤ t := by have := HT.out; omega
              have htnI : (t : Int) ≤ (n : Int) := by omega
              have hgtI : (g : Int) ≤ (t : Int) := by omega
              have HXR : Hid (∀ W, Below wr.heap.size wr W → (W.cell? ⟨F, 0, none⟩ = some (.int .i64 (g : Int)) ∧ W.cell? ⟨wx.heap.size, 0, none⟩ = some (.int .i64 (t : Int)))) := fun W hb => by
                have := HX.out W (below_chain HBY.out hb)
                exact ⟨this.1, this.2.2.1⟩
              have HXC := Hid.mk' (fun (W : World) (hb : Below wr.heap.size wr W) => (HX.out W (below_chain HBY.out hb)).2.2.2)
              have HXO : Hid (∀ W, Below wr.heap.size wr W → (∃ x, W.cell? ⟨w.heap.size, g * 17 + t, none⟩ = some (.int .i64 x)) ∧ W.frozen? ⟨w.heap.size, g * 17 + t, none⟩ = false) := fun W hb => ⟨⟨_, (HXC.out W hb).cells g t (by omega) (by omega)⟩, (HXC.out W hb).fz g t (by omega) (by omega)⟩
              have HCR := Hid.mk' (fun (W : World) (hb : Below wr.heap.size wr W) => HCL.out W (below_chain HBY.out hb) (argLeast (sides2 ks gs g s) s) _ hal rfl)
              have HBR := Hid.mk' (fun (W : World) (hb : Below wr.heap.size wr W) => below_chain HBW.out (below_chain HBY.out hb))
              have HS1 := Hid.mk' (HSB.out _ hal)
              have HCE : Hid (cst ks gs g (s + 1) = sides2 ks gs g s (argLeast (sides2 ks gs g s) s) + kSum ks g (s + 1) + kSum gs g (s + 1 + 1)) := by
                show _ = _
                rw [cst_succ, wSum, rootOf]; omega
              have HK1 := Hid.mk' (kSum_bound HK.out g (s + 1))
              have HK2 := Hid.mk' (kSum_bound HG.out g (s + 1 + 1))
              have HTK : Hid (∀ W, Below wr.heap.size wr W → Calls Tryd.prog 33 #[.slice (some ⟨b, o + g, none⟩) (t - g) (cap - g)] W fun e w' => e = .returned (.int .i64 (kSum ks g (s + 1))) ∧ w' = W) := fun W hb => by
                have e1 : t - g = s + 1 := by have := HT.out; omega
                rw [e1, ← sumN_kSum]
                refine Total_row b (o + g) (cap - g) (s + 1) (fun k => ks (g + k)) W (fun i hi => ?_) (fun k hk => ?_) (fun i _ => by have := HK.out (g + i); show 0 ≤ ks (g + i) ∧ ks (g + i) ≤ 1000000; omega) (by omega)
                · have := HR.out W (HBR.out W hb) (g + i) (by omega)
                  rwa [← Nat.add_assoc] at this
                · rw [sumN_kSum]
                  have := kSum_bound HK.out g k
                  omega
              have HTG : Hid (∀ W, Below wr.heap.size wr W → Calls Tryd.prog 33 #[.slice (some ⟨b', o' + g, none⟩) (t + 1 - g) (cap' - g)] W fun e w' => e = .returned (.int .i64 (kSum gs g (s + 1 + 1))) ∧ w' = W) := fun W hb => by
                have e1 : t + 1 - g = s + 1 + 1 := by have := HT.out; omega
                rw [e1, ← sumN_kSum]
                refine Total_row b' (o' + g) (cap' - g) (s + 1 + 1) (fun k => gs (g + k)) W (fun i hi => ?_) (fun k hk => ?_) (fun i _ => by have := HG.out (g + i); show 0 ≤ gs (g + i) ∧ gs (g + i) ≤ 1000000; omega) (by omega)
                · have := HR'.out W (HBR.out W hb) (g + i) (by omega)
                  rwa [← Nat.add_assoc] at this
                · rw [sumN_kSum]
                  have := kSum_bound HG.out g k
                  omega
              have HNB : Hid (∀ (W : World) (v : Value), Below wr.heap.size wr W → ((W.setCell ⟨w.heap.size, g * 17 + t, none⟩ v).cell? ⟨F, 0, none⟩ = some (.int .i64 (g : Int)) ∧ (W.setCell ⟨w.heap.size, g * 17 + t, none⟩ v).cell? ⟨wx.heap.size, 0, none⟩ = some (.int .i64 (t : Int)))) := fun W v hb => by
                have e1 := HFN.out
                have e2 := HFL.out
                have e3 : F < wx.heap.size := e2
                have := HXR.out W hb
                exact ⟨by rw [World.cell?_setCell_other _ _ _ _ (fun e => by have := congrArg Addr.block e; simp at this; omega)]; exact this.1, by rw [World.cell?_setCell_other _ _ _ _ (fun e => by have := congrArg Addr.block e; simp at this; omega)]; exact this.2⟩
              have HPUT := Hid.mk' (fun (W : World) (hb : Below wr.heap.size wr W) (x : Int) (hx : x = cst ks gs g (s + 1)) => (HXC.out W hb).put (g := tabC ks gs n (s + 1) (g + 1)) g t x (by omega) (by omega) (fun a b _ _ => by rw [tabC_put ks gs n (s + 1) g (by omega) a b, hx, HT.out]))
              obtain ⟨X, hX⟩ : ∃ X, X = sides2 ks gs g s (argLeast (sides2 ks gs g s) s) := ⟨_, rfl⟩
              obtain ⟨Y, hY⟩ : ∃ Y, Y = kSum ks g (s + 1) := ⟨_, rfl⟩
              obtain ⟨Z, hZ⟩ : ∃ Z, Z = kSum gs g (s + 1 + 1) := ⟨_, rfl⟩
              rw [← hX] at HCR HS1 HCE
              rw [← hY] at HTK HK1 HCE
              rw [← hZ] at HTG HK2 HCE
              clear hX hY hZ
              have x0 := HS1.out
              have y2 : 0 ≤ Y ∧ Y ≤ 100000 := by have := HK1.out; omega
              have z0 : 0 ≤ Z ∧ Z ≤ 100000 := by have := HK2.out; omega
              have HV : Hid (IntKind.i64.wrap (IntKind.i64.wrap (X + Y) + Z) = X + Y + Z) := by
                show _ = _
                rw [IntWalk.i64_in (X + Y) (by omega), IntWalk.i64_in _ (by omega)]
              have hcur0 : Below wr.heap.size wr wr := Below.refl _ _
              have hcur : Below wr.heap.size wr wr.drew := (Below.refl _ _).drew
              clear HCL HX HSB
              have htc : (t : Int) ≤ (cap : Int) := by omega
              have htc' : (t : Int) + 1 ≤ (cap' : Int) := by omega
              have hg17 : (g : Int) < 17 := by omega
              have ht17 : (t : Int) < 17 := by omega
              have hgt1 : (g : Int) ≤ (t : Int) + 1 := by omega
              have ht0 : (0 : Int) ≤ (t : Int) := by omega
              have hwt : IntKind.i64.wrap ((t : Int) + 1) = (t : Int) + 1 := IntWalk.i64_in _ (by omega)
              go_wp2_with fail
              go_region_held3 (fun W => W.cell? ⟨F, 0, none⟩ = some (.int .i64 (g : Int)) ∧ W.cell? ⟨wx.heap.size, 0, none⟩ = some (.int .i64 (t : Int)))
                (first | exact HXR.out _ hcur0 | exact HXR.out _ hcur | exact HXR.out _ hbw5 | exact HNB.out _ _ hbw5)
                (first
                  | (go_at_call_of 33 cap; refine (HTK.out _ hbw5).mono ?_; rintro e w6 ⟨rfl, hw6⟩; rw [hw6]; clear hw6)
                  | (go_at_call_of 33 cap'; refine (HTG.out _ hbw5).mono ?_; rintro e w7 ⟨rfl, hw7⟩; rw [hw7]; clear hw7)
                  | (go_at_call 37; refine (HCR.out _ hcur).mono ?_; rintro e w5 ⟨rfl, hb5⟩; have hbw5 := below_chain hcur hb5; obtain ⟨⟨x5, hx5⟩, hf5⟩ := HXO.out _ hbw5; clear hb5))
              rw [HV.out]
              obtain ⟨hF5, -⟩ := HNB.out w5 (.int .i64 (X + Y + Z)) hbw5
              have HP5 := Hid.mk' (HPUT.out w5 hbw5 (X + Y + Z) HCE.out.symm)
              have HB5 : Hid (Below w.heap.size w (w5.setCell ⟨w.heap.size, g * 17 + t, none⟩ (.int .i64 (X + Y + Z)))) := (HBR.out w5 hbw5).setCell (Nat.le_refl _) _
              have HL5 : Hid (w.heap.size < (w5.setCell ⟨w.heap.size, g * 17 + t, none⟩ (.int .i64 (X + Y + Z))).heap.size) := cell_lt (HP5.out.cells 0 0 (by omega) (by omega))
              generalize w5.setCell ⟨w.heap.size, g * 17 + t, none⟩ (.int .i64 (X + Y + Z)) = W5 at *
              go_wp2_with fail
              refine ⟨⟨g + 1, g + argLeast (sides2 ks gs g s) s, W5.heap.size, by omega, rfl, by go_num, ?_, ?_, HL5, ?_, ?_, ?_⟩, ?_⟩
              · rw [World.cell?_alloc_at _ _ _ _ rfl]; rfl
              · exact World.frozen?_alloc_new W5 _ _ _
              · exact HP5.out.later ((Below.refl _ _).alloc (Nat.le_refl _) _)
              · exact HB5.out.alloc HB5.out.size _
              · intro _
                rw [rootOf, show g + 1 - 1 = g by omega]
              · have e : (W5.alloc (.cells #[.int .i64 ((g : Int) + 1)] 3)).cell? ⟨W5.heap.size, 0, none⟩ = some (.int .i64 ((g + 1 : Nat) : Int)) := by rw [World.cell?_alloc_at _ _ _ _ rfl]; rfl
                rw [boxN_at e, HBX.out]
                omega
        · have hgI : ¬ ((g : Int) + ((s : Int) + 1) ≤ (n : Int)) := by omega
          go_wp2_with fail
          refine ⟨⟨s + 1, R2, by omega, rfl, rfl, ?_, HB, fun h => ?_⟩, by simp [intOf]; omega⟩
          · have e : tabC ks gs n (s + 1 + 1) 0 = tabC ks gs n (s + 1) g := funext fun a => funext fun b => tabC_next ks gs n (s + 1) g (by omega) a b
            rw [e]; exact HC
          · have h4 := HRT.out (by omega)
            obtain rfl : g = 1 := by omega
            rw [h4, show n - 1 = s by omega]; simp
    · obtain rfl : n = s := by omega
      have y0 := HC.out.cells 0 n (by omega) (by omega)
      rw [tabC_last, Nat.zero_mul, Nat.zero_add] at y0
      have HRR := Hid.mk' (HRT.out rfl)
      clear HRT HC
      go_wp2_with fail
      go_ret3
      exact ⟨by rw [← HRR.out]; rfl, HB.out⟩
end Go.Proofs.YtcigmihfannmjabDoor
