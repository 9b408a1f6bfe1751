/- A card's parameter that is a slice of the document's moves, opened. -/
import Derived.Test.YtgopohbombnflaaDoorOrAp
import Derived.Test.YtgopohbombnflaaDoorOpenInts
import Derived.Deep.Slices
import Derived.ChangeSame
import Derived.ChangeArms
namespace Go.Proofs.YtgopohbombnflaaDoor
open Go.ChangeShapes Go.WideShapes Go.ChangeAt Go.RowKit Go.Joins Go.Deep

theorem Tryd.cellsMvd : Tryd.prog.cellsOf 38 = 3 := by kernel_rfl
theorem Tryd.cellsI1 : Tryd.prog.cellsOf 3 = 1 := by kernel_rfl
theorem list_of {α : Type} (n : Nat) (p : Nat → α → Prop) (h : ∀ i, i < n → ∃ c, p i c) : ∃ l : List α, l.length = n ∧ ∀ (i : Nat) (c : α), l[i]? = some c → p i c := by
  induction n with
  | zero => exact ⟨[], rfl, fun i c hc => by simp at hc⟩
  | succ n ih =>
    obtain ⟨l, hl, hp⟩ := ih (fun i hi => h i (by omega))
    obtain ⟨c, hc⟩ := h n (by omega)
    refine ⟨l ++ [c], by simp [hl], fun i d hd => ?_⟩
    rcases Nat.lt_or_ge i l.length with h' | h'
    · rw [List.getElem?_append_left h'] at hd
      exact hp i d hd
    · rw [List.getElem?_append_right h'] at hd
      rcases Nat.eq_or_lt_of_le h' with e | e
      · rw [← e, Nat.sub_self] at hd
        obtain rfl : c = d := by simpa using hd
        rw [← e, hl]; exact hc
      · rw [List.getElem?_eq_none (by simp; omega)] at hd; cases hd
set_option maxRecDepth 100000 in
theorem open_moves {H : Type} {enc : TypeId × Value → H} {W : World} {base : Nat} {v : Value} {d : DataW H} {p : List MemPlace} (hv : Value.okWide Tryd.prog W .any base 35 v)
    (h : DataW.Trod enc Tryd.prog W 0 (fun _ => true) true 35 v d p) :
    ∃ (ad : Option Addr) (cap : Nat) (l : List MvI), v = .slice ad l.length cap ∧ MvAt W (.slice ad l.length cap) l ∧ l.length ≤ maxLen := by
  obtain ⟨ad, n, cap, rfl⟩ := okWide_slice Tryd.underlying35 hv
  obtain ⟨fuel, hf⟩ := h
  rcases open_slice Tryd.underlying35 hf with ⟨hc, _⟩ | ⟨a, len, cap', m, k, D, Pl, hc, _, hl, hm, hmm, _, hx⟩
  · simp [Value.cells] at hc
    obtain ⟨rfl, rfl, rfl⟩ := hc
    exact ⟨none, 0, [], rfl, ⟨_, _, rfl, fun i c hc => by simp at hc⟩, Nat.zero_le _⟩
  · simp [Value.cells] at hc
    obtain ⟨rfl, rfl, rfl⟩ := hc
    simp only [if_true] at hmm
    subst hmm
    have each : ∀ i, i < n → ∃ c : MvI, W.cell? (a.add (i * 3)) = some (.int .i64 c.f) ∧ W.cell? (a.add (i * 3 + 1)) = some (.int .i64 c.t) ∧ W.cell? (a.add (i * 3 + 2)) = some (.int .i64 c.s) := by
      intro i hi
      obtain ⟨cs', h1, h2⟩ := hx i (by omega)
      rw [Tryd.cellsMvd] at h1
      obtain ⟨_, hlen, hcell⟩ := World.cells?_some h1
      obtain ⟨xs, k', _, _, _, hxl, hg⟩ := DataW.trod_struct Tryd.underlying38 h2
      match xs, hxl, cs', hlen with
      | [y0, y1, y2], _, [v0, v1, v2], _ =>
        have g0 := hg 0 _ rfl
        have g1 := hg 1 _ rfl
        have g2 := hg 2 _ rfl
        simp [Tryd.cellsI1] at g0 g1 g2
        have e0 := hcell 0 (by omega)
        have e1 := hcell 1 (by omega)
        have e2 := hcell 2 (by omega)
        rw [Go.Deep.add_add] at e0 e1 e2
        obtain ⟨n0, r0, _, _⟩ := DataW.trod_int Tryd.underlying3 g0
        obtain ⟨n1, r1, _, _⟩ := DataW.trod_int Tryd.underlying3 g1
        obtain ⟨n2, r2, _, _⟩ := DataW.trod_int Tryd.underlying3 g2
        simp only [List.cons.injEq, and_true] at r0 r1 r2
        subst r0 r1 r2
        exact ⟨⟨n0, n1, n2⟩, by simpa using e0, by simpa using e1, by simpa using e2⟩
    obtain ⟨l, hll, hlp⟩ := list_of n _ each
    subst hll
    obtain ⟨b, o, spot⟩ := a
    refine ⟨_, _, l, rfl, ⟨_, _, rfl, fun i c hc => ?_⟩, by omega⟩
    obtain ⟨h0, h1, h2⟩ := hlp i c hc
    have hspot : spot = none := by
      have hi : 0 < l.length := by
        rcases Nat.eq_zero_or_pos l.length with h' | h'
        · rw [List.eq_nil_of_length_eq_zero h'] at hc; simp at hc
        · exact h'
      have := (hlp 0 _ (List.getElem?_eq_getElem hi)).1
      simpa [Addr.add] using World.cell?_spot this
    subst hspot
    rw [Go.Proofs.YtgopohbombnflaaDoor.add_plain] at h0 h1 h2
    exact ⟨b, o, rfl, h0, by rw [Nat.add_assoc]; exact h1, by rw [Nat.add_assoc]; exact h2⟩
end Go.Proofs.YtgopohbombnflaaDoor
