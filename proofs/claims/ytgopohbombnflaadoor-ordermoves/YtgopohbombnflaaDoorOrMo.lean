/- The law's movesOf. -/
import Derived.Test.YtgopohbombnflaaDoorOrAp
import Derived.Deep.AppendLies
namespace Go.Proofs.YtgopohbombnflaaDoor
open Go.RowKit

theorem Tryd.infoMov : (Tryd.prog.info? 37).map (fun i => (i.zero, i.size, i.bytes)) = some (some (.agg #[.int .i64 0, .int .i64 0, .int .i64 0]), 3, 24) := by kernel_rfl
theorem three_new (w : World) (x0 x1 x2 : Value) (t : TypeId) (j : Nat) (u : Value) (h : [x0, x1, x2][j]? = some u) : (w.alloc (.cells #[x0, x1, x2] t)).cell? ((⟨w.heap.size, 0, none⟩ : Addr).add j) = some u := by
  rw [add_plain, World.cell?_alloc_at _ _ _ _ rfl, Nat.zero_add]
  rcases j with _ | _ | _ | j
  · simpa using h
  · simpa using h
  · simpa using h
  · simp at h
theorem mv_push {B : Nat} {w0 wr w3 : World} {v : Value} {e : TypeId} {size n : Nat} {xs : List Value} (hB : Below B w0 wr) (hle : B ≤ wr.heap.size) (hR : wr.ownsRow B e size v n xs) (hg : wr.grownBy w3 v.ownBlock) : Below B w0 w3 :=
  hB.trans ((Below.refl _ _).grown hg hle (fun k e => (hR.lt k e).1))
/-- The cells of moves. -/
def mvC (c : MvI) : List Value := [.int .i64 c.f, .int .i64 c.t, .int .i64 c.s]
def mvsC : List MvI → List Value
  | [] => []
  | c :: r => mvC c ++ mvsC r
theorem mvsC_append : ∀ a b, mvsC (a ++ b) = mvsC a ++ mvsC b
  | [], b => rfl
  | c :: a, b => by simp [mvsC, mvsC_append a b]
theorem mvsC_snoc (a : List MvI) (c : MvI) : mvsC (a ++ [c]) = mvsC a ++ [.int .i64 c.f, .int .i64 c.t, .int .i64 c.s] := by
  rw [mvsC_append]; rfl
theorem mvsC_at : ∀ (l : List MvI) (i : Nat) (c : MvI), l[i]? = some c → (mvsC l)[i * 3]? = some (.int .i64 c.f) ∧ (mvsC l)[i * 3 + 1]? = some (.int .i64 c.t) ∧ (mvsC l)[i * 3 + 2]? = some (.int .i64 c.s)
  | [], i, c, h => by simp at h
  | d :: r, 0, c, h => by
    obtain rfl : d = c := by simpa using h
    exact ⟨rfl, rfl, rfl⟩
  | d :: r, i + 1, c, h => by
    obtain ⟨h0, h1, h2⟩ := mvsC_at r i c (by simpa using h)
    have e : ∀ k, (mvsC (d :: r))[(i + 1) * 3 + k]? = (mvsC r)[i * 3 + k]? := fun k => by
      show (mvC d ++ mvsC r)[(i + 1) * 3 + k]? = _
      rw [List.getElem?_append_right (by show 3 ≤ _; omega)]
      congr 1
      show (i + 1) * 3 + k - 3 = _
      omega
    exact ⟨by have := e 0; simp only [Nat.add_zero] at this; rw [this]; exact h0, by rw [e 1]; exact h1, by rw [e 2]; exact h2⟩
theorem mvAt_row {w : World} {base : Nat} {t : TypeId} {v : Value} {l : List MvI} (h : w.ownsRow base t 3 v l.length (mvsC l)) : MvAt w v l := by
  rcases h.2 with ⟨rfl, hn⟩ | ⟨g, cap, cur, rfl, _⟩
  · obtain rfl : l = [] := List.eq_nil_of_length_eq_zero hn
    exact ⟨_, _, rfl, fun i c hc => by simp at hc⟩
  · refine ⟨_, _, rfl, fun i c hc => ⟨g, 0, rfl, ?_⟩⟩
    have hi : i < l.length := by
      rcases Nat.lt_or_ge i l.length with h' | h'
      · exact h'
      · rw [List.getElem?_eq_none h'] at hc; cases hc
    obtain ⟨h0, h1, h2⟩ := mvsC_at l i c hc
    have e : ∀ j, j < l.length * 3 → w.cell? ⟨g, j, none⟩ = (mvsC l)[j]? := fun j hj => h.cellAt j hj
    rw [Nat.zero_add]
    refine ⟨?_, ?_, ?_⟩
    · rw [e _ (by omega)]; exact h0
    · rw [e _ (by omega)]; exact h1
    · rw [e _ (by omega)]; exact h2

set_option maxRecDepth 100000 in
set_option maxHeartbeats 4000000 in
theorem movesOf_any (v : Value) (l : List MvI) (w : World) (h : MvAt w v l) (hn : l.length ≤ 100000) :
    Calls Tryd.prog 19 #[v] w fun e w' => ∃ v', e = .returned v' ∧ MvAt w' v' l ∧ Below w.heap.size w w' := by
  obtain ⟨ad, cap, rfl⟩ := h.form
  have HL := Hid.mk' (fun (W : World) (hb : Below w.heap.size w W) => h.later hb)
  obtain ⟨i, hi, hi2⟩ := Option.map_eq_some_iff.1 Tryd.infoMov
  obtain ⟨hz, hsz, hby⟩ : i.zero = some (.agg #[.int .i64 0, .int .i64 0, .int .i64 0]) ∧ i.size = 3 ∧ i.bytes = 24 := by simpa using hi2
  have HINF := Hid.mk' (And.intro hi (And.intro hz (And.intro hsz hby)))
  clear hi hi2 hz hsz hby h
  go_enter Tryd.func19, Tryd.ntmps19
  go_wp2_with fail
  go_loopw [3, 4] (fun s t wr => ∃ k : Nat, k ≤ l.length ∧ t = .int .i64 (k : Int) ∧ Hid (wr.ownsRow w.heap.size 37 3 s k (mvsC (l.take k))) ∧ Hid (Below w.heap.size w wr)) (fun _ t _ => l.length - (intOf t).toNat)
  case atStart => exact ⟨0, Nat.zero_le _, rfl, World.ownsRow_nil _ _ _ _, Below.refl _ _⟩
  case round =>
    obtain ⟨k, hk, rfl, HO, HB⟩ := hrel
    have hle := HB.out.size
    rcases Nat.lt_or_ge k l.length with h5 | h5
    · obtain ⟨c, hc⟩ : ∃ c, l[k]? = some c := ⟨_, List.getElem?_eq_getElem h5⟩
      obtain ⟨b, o, rfl, x0, x1, x2⟩ := (HL.out wr HB.out).at hc
      have HTK : Hid (l.take (k + 1) = l.take k ++ [c]) := by
        show _ = _
        obtain ⟨hi, rfl⟩ := List.getElem?_eq_some_iff.1 hc
        exact List.take_succ_eq_append_getElem hi
      have HKK : Hid (∀ W, Below w.heap.size w W → W.cell? ⟨b, o + k * 3, none⟩ = some (.int .i64 c.f) ∧ W.cell? ⟨b, o + k * 3 + 1, none⟩ = some (.int .i64 c.t) ∧ W.cell? ⟨b, o + k * 3 + 2, none⟩ = some (.int .i64 c.s)) := fun W hb => by
        obtain ⟨b', o', e, y⟩ := (HL.out W hb).at hc
        obtain ⟨rfl, rfl⟩ : b = b' ∧ o = o' := by simpa using e
        exact y
      have hkI : (k : Int) < (l.length : Int) := by omega
      have hk0 : (0 : Int) ≤ (k : Int) := by omega
      have HRR := Hid.mk' (HO.out.alloc (.cells #[.int .i64 c.f, .int .i64 c.t, .int .i64 c.s] 37))
      have HBB : Hid (Below w.heap.size w (wr.alloc (.cells #[.int .i64 c.f, .int .i64 c.t, .int .i64 c.s] 37))) := HB.out.alloc hle _
      have HPU : Hid (∀ w3, World.grownBy (wr.alloc (.cells #[.int .i64 c.f, .int .i64 c.t, .int .i64 c.s] 37)).drew w3 u3.ownBlock → Below w.heap.size w w3) := fun w3 hg => mv_push HBB.out.drew (by show w.heap.size ≤ (wr.alloc (.cells #[.int .i64 c.f, .int .i64 c.t, .int .i64 c.s] 37)).heap.size; simp; omega) (HRR.out.drew) hg
      go_wp2_with fail
      go_region_held3 (fun W => W.cell? ⟨b, o + k * 3, none⟩ = some (.int .i64 c.f) ∧ W.cell? ⟨b, o + k * 3 + 1, none⟩ = some (.int .i64 c.t) ∧ W.cell? ⟨b, o + k * 3 + 2, none⟩ = some (.int .i64 c.s))
        (first | exact HKK.out _ (HPU.out _ (by assumption)) | go_keep)
        ((refine step_append_lies _ (by rfl) _ _ _ (by rfl) w.heap.size 37 i _ 3 24 Tryd.underlying32 HINF.out.1 HINF.out.2.1 HINF.out.2.2.1 HINF.out.2.2.2 rfl (by omega) u3 k (mvsC (l.take k)) (by rfl) HRR.out ⟨wr.heap.size, 0, none⟩ 1 1 [.int .i64 c.f, .int .i64 c.t, .int .i64 c.s] (by rfl) rfl (three_new wr _ _ _ _) (by simp [Value.oneCell']) (by omega) (by unfold maxLen; omega) (by omega) (by simp; omega) _ rfl ?_; intro g' cap' w3 hown3 hgrow3 hat3 hlt3))
      have HW3 := Hid.mk' hown3
      have HB3 := Hid.mk' (HPU.out _ hgrow3)
      clear hown3 hgrow3 hat3
      go_wp2_with fail
      exact ⟨⟨k + 1, h5, by go_num, by show World.ownsRow _ _ _ _ _ _ _; rw [HTK.out, mvsC_snoc]; exact HW3.out, HB3.out⟩, by simp [intOf]; omega⟩
    · obtain rfl : k = l.length := by omega
      have hkI : ¬ (l.length : Int) < (l.length : Int) := by omega
      rw [List.take_length] at HO
      have HV := Hid.mk' (mvAt_row HO.out)
      go_wp2_with fail
      go_ret
      exact ⟨_, rfl, HV.out, HB.out⟩
end Go.Proofs.YtgopohbombnflaaDoor
