/- machine.swapped: each 0 becomes 1, and the other way round. -/
import Derived.Test.YtdfcipdknfebpaaDoorMacP
import Derived.Laws.IdiomStrings
namespace Go.Proofs.YtdfcipdknfebpaaDoor
open Go.RowKit

/-- Bytes in memory, none frozen. -/
def BysAt (W : World) (b : Nat) (l : List UInt8) : Prop := ∀ j c, l[j]? = some c → W.cell? ⟨b, j, none⟩ = some (.int .u8 ((c.toNat : Nat) : Int)) ∧ W.frozen? ⟨b, j, none⟩ = false
theorem BysAt.set {W : World} {b : Nat} {l : List UInt8} (h : BysAt W b l) (k : Nat) (c : UInt8) (hk : k < l.length) : BysAt (W.setCell ⟨b, k, none⟩ (.int .u8 ((c.toNat : Nat) : Int))) b (l.set k c) := by
  intro j d hj
  rw [World.frozen?_setCell]
  by_cases e : j = k
  · subst e
    rw [List.getElem?_set_self hk] at hj
    obtain rfl := Option.some.inj hj
    obtain ⟨c0, h0⟩ : ∃ c0, l[j]? = some c0 := ⟨_, List.getElem?_eq_getElem hk⟩
    exact ⟨World.cell?_setCell_same _ _ _ (h j c0 h0).1, (h j c0 h0).2⟩
  · rw [List.getElem?_set_ne (fun e2 => e e2.symm)] at hj
    refine ⟨?_, (h j d hj).2⟩
    rw [World.cell?_setCell_other _ _ _ _ (fun e2 => e (by have := congrArg Addr.off e2; dsimp only at this; omega))]
    exact (h j d hj).1
theorem bys_new (w : World) (s : List UInt8) : BysAt (Lib.bytesWorld w 5 (bt s)) w.heap.size s := by
  intro j c hj
  have hl := (List.getElem?_eq_some_iff.1 hj).1
  refine ⟨?_, ?_⟩
  · rw [Lib.bytesWorld_cell _ _ _ _ (by rw [bt_size]; exact hl), bt_list]
    simp [List.getD, hj]
  · simp only [World.frozen?, Lib.bytesWorld_at_new]
    have h2 : s.length ≤ (Lib.bytesCells w 5 (bt s)).size := by
      unfold Lib.bytesCells
      rw [Array.size_append, Array.size_map]
      have : (bt s).data.size = s.length := bt_size s
      omega
    simp
    omega
theorem bys_below (w : World) (s : ByteArray) : Below w.heap.size w (Lib.bytesWorld w 5 s) :=
  ⟨rfl, rfl, rfl, by rw [Lib.bytesWorld_size]; omega, fun k hk => Lib.bytesWorld_at_old _ _ _ _ hk⟩
theorem bys_text {W : World} {b n cap : Nat} {l : List UInt8} (h : BysAt W b l) (hn : l.length = n) : (convert 58 9 (.slice (some ⟨b, 0, none⟩) n cap)).run Tryd.prog W = .ok (.string (bt l)) W := by
  subst hn
  exact run_convert_bytes_back (P := Tryd.prog) W 58 9 5 ⟨b, 0, none⟩ cap l Tryd.underlying58 Tryd.underlying5 Tryd.underlying9 (fun j hj => by
    have := (h j l[j] (List.getElem?_eq_getElem hj)).1
    rw [Addr.add_lit, Nat.zero_add]; exact this)
theorem bys_made (w : World) (s : List UInt8) : (convert 9 58 (.string (bt s))).run Tryd.prog w = .ok (.slice (some ⟨w.heap.size, 0, none⟩) s.length (grownCap w s.length 0 5)) (Lib.bytesWorld w 5 (bt s)) := by
  have := Lib.run_convert_string_bytes (P := Tryd.prog) w 9 58 5 (bt s) Tryd.underlying9 Tryd.underlying58 Tryd.underlying5
  rw [bt_size] at this
  exact this

set_option maxRecDepth 100000 in
set_option maxHeartbeats 1000000 in
theorem part4_any (s : List UInt8) (w : World) (hs : s.length ≤ 1000000) (hb : bitL s = true) : Calls Tryd.prog 44 #[.string (bt s)] w fun e w' => e = .returned (.string (bt (mD 4 s))) ∧ Below w.heap.size w w' := by
  have hconv := bys_made w s
  obtain ⟨W1, hW1⟩ : ∃ W1, W1 = Lib.bytesWorld w 5 (bt s) := ⟨_, rfl⟩
  have HB1 : Hid (Below w.heap.size w W1) := by rw [hW1]; exact bys_below w _
  have HA1 : Hid (BysAt W1 w.heap.size s) := by rw [hW1]; exact bys_new w s
  rw [← hW1] at hconv
  have HBK : Hid (∀ W l, BysAt W w.heap.size l → l.length = s.length → (convert 58 9 (.slice (some ⟨w.heap.size, 0, none⟩) s.length (grownCap w s.length 0 5))).run Tryd.prog W = .ok (.string (bt l)) W) := fun W l h1 h2 => bys_text h1 h2
  clear hW1
  generalize grownCap w s.length 0 5 = cap at *
  have HS : Hid (∀ c ∈ s, c = 48 ∨ c = 49) := mem_bit.1 hb
  clear hb
  obtain ⟨n, hn⟩ : ∃ n, n = s.length := ⟨_, rfl⟩
  rw [← hn] at hconv HBK hs
  have HN := Hid.mk' hn
  clear hn
  generalize bt s = B at *
  have hnI : (n : Int) ≤ 1000000 := by omega
  go_enter Tryd.func44, Tryd.ntmps44
  go_wp2_with fail
  clear hconv
  go_loopw [9] (fun t wr => ∃ (k : Nat) (l : List UInt8), k ≤ n ∧ t = .int .i64 (k : Int) ∧ Hid (l.length = n) ∧ Hid (∀ j, j < k → l[j]? = (s[j]?).map (fun c => 97 - c)) ∧ Hid (∀ j, k ≤ j → l[j]? = s[j]?) ∧ Hid (BysAt wr w.heap.size l) ∧ Hid (Below w.heap.size w wr)) (fun t _ => n - (intOf t).toNat)
  case atStart => exact ⟨0, s, Nat.zero_le _, rfl, HN.out.symm, fun j h => by omega, fun j _ => rfl, HA1, HB1⟩
  case round =>
    obtain ⟨k, l, hk, rfl, HL, H1, H2, HA, HB⟩ := hrel
    have hk0 : (0 : Int) ≤ (k : Int) := by omega
    rcases Nat.lt_or_ge k n with h1 | h1
    · have hkI : (k : Int) < (n : Int) := by omega
      obtain ⟨c, hc⟩ : ∃ c, s[k]? = some c := ⟨_, List.getElem?_eq_getElem (by have := HN.out; omega)⟩
      have hcl : l[k]? = some c := (H2.out k (Nat.le_refl _)).trans hc
      obtain ⟨x0, x1⟩ := HA.out k c hcl
      have hstep : ∀ d : UInt8, d = 97 - c → ∃ l2 : List UInt8, l2.length = n ∧ (∀ j, j < k + 1 → l2[j]? = (s[j]?).map (fun c => 97 - c)) ∧ (∀ j, k + 1 ≤ j → l2[j]? = s[j]?) ∧ BysAt (wr.setCell ⟨w.heap.size, k, none⟩ (.int .u8 ((d.toNat : Nat) : Int))) w.heap.size l2 := by
        intro d hd
        have hlk : k < l.length := by have := HL.out; omega
        refine ⟨l.set k d, by rw [List.length_set]; exact HL.out, fun j hj => ?_, fun j hj => ?_, HA.out.set k d hlk⟩
        · by_cases e : j = k
          · subst e; rw [List.getElem?_set_self hlk, hc, hd]; rfl
          · rw [List.getElem?_set_ne (fun e2 => e e2.symm)]; exact H1.out j (by omega)
        · rw [List.getElem?_set_ne (by omega)]; exact H2.out j (by omega)
      have HB2 : Hid (∀ v, Below w.heap.size w (wr.setCell ⟨w.heap.size, k, none⟩ v)) := fun v => HB.out.setCell (p := ⟨w.heap.size, k, none⟩) (Nat.le_refl _) v
      have hcc := HS.out c (List.mem_of_getElem? hc)
      clear hc hcl
      rcases hcc with rfl | rfl
      · obtain ⟨l2, q1, q2, q3, q4⟩ := hstep 49 rfl
        have Q1 := Hid.mk' q1
        have Q2 := Hid.mk' q2
        have Q3 := Hid.mk' q3
        have Q4 : Hid (BysAt (wr.setCell ⟨w.heap.size, k, none⟩ (.int .u8 49)) w.heap.size l2) := q4
        have x0' : wr.cell? ⟨w.heap.size, k, none⟩ = some (.int .u8 48) := x0
        clear q1 q2 q3 q4 hstep x0
        go_wp2_with fail
        go_roundw
        case rel => exact ⟨k + 1, l2, by omega, by simp, Q1, Q2, Q3, Q4, HB2.out _⟩
        case measure => simp [intOf]; omega
      · obtain ⟨l2, q1, q2, q3, q4⟩ := hstep 48 rfl
        have Q1 := Hid.mk' q1
        have Q2 := Hid.mk' q2
        have Q3 := Hid.mk' q3
        have Q4 : Hid (BysAt (wr.setCell ⟨w.heap.size, k, none⟩ (.int .u8 48)) w.heap.size l2) := q4
        have x0' : wr.cell? ⟨w.heap.size, k, none⟩ = some (.int .u8 49) := x0
        clear q1 q2 q3 q4 hstep x0
        go_wp2_with fail
        go_roundw
        case rel => exact ⟨k + 1, l2, by omega, by simp, Q1, Q2, Q3, Q4, HB2.out _⟩
        case measure => simp [intOf]; omega
    · obtain rfl : k = n := by omega
      have hbk := HBK.out wr l HA.out HL.out
      have HE : Hid (l = mD 4 s) := by
        show l = _
        rw [mD4]
        refine List.ext_getElem? fun j => ?_
        rw [List.getElem?_map]
        rcases Nat.lt_or_ge j k with h | h
        · exact H1.out j h
        · rw [List.getElem?_eq_none (by rw [HL.out]; exact h), List.getElem?_eq_none (by rw [← HN.out]; exact h)]; rfl
      go_wp2_with fail
      go_ret
      exact ⟨ret_str (by rw [HE.out]), HB.out⟩
end Go.Proofs.YtdfcipdknfebpaaDoor
