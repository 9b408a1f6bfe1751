/- The document's PartsOf and RunOf. -/
import Derived.Test.YtdfcipdknfebpaaDoorMacD
import Derived.Test.YtdfcipdknfebpaaDoorMacS
import Derived.Test.YtdfcipdknfebpaaDoorWordsD
namespace Go.Proofs.YtdfcipdknfebpaaDoor
open Go.RowKit

theorem word2 {d : UInt8} (hd : d = 48 ∨ d = 49) : ∃ k : Fin 6, [48, d] = mW k := by
  rcases hd with rfl | rfl
  · exact ⟨0, rfl⟩
  · exact ⟨1, rfl⟩
theorem word3 {d e : UInt8} (hd : d = 48 ∨ d = 49) (he : e = 48 ∨ e = 49) : ∃ k : Fin 6, [49, d, e] = mW k := by
  rcases hd with rfl | rfl <;> rcases he with rfl | rfl
  · exact ⟨2, rfl⟩
  · exact ⟨3, rfl⟩
  · exact ⟨4, rfl⟩
  · exact ⟨5, rfl⟩
/-- How long a part is, by its first byte. -/
def lenB (c : UInt8) : Nat := if c = 49 then 3 else 2
theorem lenB_word : ∀ k : Fin 6, (mW k).length = lenB ((mW k).headD 0) := by decide
theorem bit_drop {p : List UInt8} (h : bitL p = true) (a : Nat) : bitL (p.drop a) = true := by rw [mem_bit] at h ⊢; exact fun c hc => h c (List.mem_of_mem_drop hc)
/-- The part at a place of a text of 0 and 1 is a word. -/
theorem word_at {p : List UInt8} {a : Nat} {c : UInt8} (hb : bitL p = true) (hc : p[a]? = some c) (hl : a + lenB c ≤ p.length) : ∃ k : Fin 6, (p.drop a).take (lenB c) = mW k := by
  have h1 := mem_bit.1 (bit_drop hb a)
  obtain ⟨r, hr⟩ : ∃ r, p.drop a = c :: r := by
    obtain ⟨h2, h3⟩ := List.getElem?_eq_some_iff.1 hc
    exact ⟨p.drop (a + 1), by rw [List.drop_eq_getElem_cons h2, h3]⟩
  have hrl : (c :: r).length = p.length - a := by rw [← hr, List.length_drop]
  rw [hr] at h1 ⊢
  rcases h1 c (List.mem_cons_self ..) with rfl | rfl
  · have e : lenB 48 = 2 := rfl
    rw [e] at hl ⊢
    cases r with
    | nil => simp at hrl; omega
    | cons d r => obtain ⟨k, hk⟩ := word2 (h1 d (by simp)); exact ⟨k, by rw [← hk]; rfl⟩
  · have e : lenB 49 = 3 := rfl
    rw [e] at hl ⊢
    match r, hrl, h1 with
    | [], hrl, _ => simp at hrl; omega
    | [d], hrl, _ => simp at hrl; omega
    | d :: e :: r, _, h1 => obtain ⟨k, hk⟩ := word3 (h1 d (by simp)) (h1 e (by simp)); exact ⟨k, by rw [← hk]; rfl⟩
theorem no_word {p : List UInt8} {a : Nat} {c : UInt8} {ks : Pg} (hk : p.take a = fla ks) (hc : p[a]? = some c) (hl : p.length < a + lenB c) (q : Pg) : p ≠ fla q := by
  intro e
  have ha : p = fla ks ++ p.drop a := by rw [← hk, List.take_append_drop]
  obtain ⟨q', _, h2⟩ := fla_pre ks q (p.drop a) (by rw [← e]; exact ha)
  obtain ⟨h3, h4⟩ := List.getElem?_eq_some_iff.1 hc
  rw [List.drop_eq_getElem_cons h3, h4] at h2
  cases q' with
  | nil => simp [fla] at h2
  | cons k t =>
    rw [fla_cons] at h2
    have h5 := lenB_word k
    have h6 : (mW k).headD 0 = c := by
      have := mW_pos k
      cases hw : mW k with
      | nil => rw [hw] at this; simp at this
      | cons x y => rw [hw] at h2; simp at h2; simp [h2.1]
    rw [h6] at h5
    have h7 := congrArg List.length h2
    rw [List.length_append, List.length_cons, List.length_drop] at h7
    omega
theorem take_more (p : List UInt8) (a m : Nat) : p.take (a + m) = p.take a ++ (p.drop a).take m := List.take_add
def strC (L : List (List UInt8)) : List Value := L.map fun l => .string (bt l)
theorem one_newS (w : World) (x : Value) (t : TypeId) (j : Nat) (u : Value) (h : [x][j]? = some u) : (w.alloc (.cells #[x] t)).cell? ((⟨w.heap.size, 0, none⟩ : Addr).add j) = some u := by
  rw [Addr.add_lit, World.cell?_alloc_at _ _ _ _ rfl, Nat.zero_add]
  rcases j with _ | j
  · simpa using h
  · simp at h
theorem Tryd.infoS : (Tryd.prog.info? 9).map (fun i => (i.zero, i.size, i.bytes)) = some (some (.string ⟨#[]⟩), 1, 16) := by kernel_rfl
set_option maxRecDepth 100000 in
set_option maxHeartbeats 4000000 in
theorem PartsOf_any (p : List UInt8) (w : World) (hp : p.length ≤ 40) :
    Calls Tryd.prog 18 #[.string (bt p)] w fun e w' => ∃ d b, e = .returned (.tuple #[d, .bool b]) ∧ Below w.heap.size w w' ∧ (bitL p = true → (b = true ∧ ∃ ks, p = fla ks ∧ w'.ownsRow w.heap.size 9 1 d ks.length (strC (ks.map mW))) ∨ (b = false ∧ ∀ ks, p ≠ fla ks)) := by
  obtain ⟨i0, hi, hz0, hz1, hz2⟩ := info_parts Tryd.infoS
  have HINF : Hid (Tryd.prog.info? 9 = some i0 ∧ i0.zero = some (.string ⟨#[]⟩) ∧ i0.size = 1 ∧ i0.bytes = 16) := ⟨hi, hz0, hz1, hz2⟩
  clear hi hz0 hz1 hz2
  have hz := bt_size p
  have HA : Hid (∀ k c, p[k]? = some c → ∀ hk : k < (bt p).size, ((bt p)[k]'hk) = c) := fun k c h hk => bt_at h hk
  have HCUT : Hid (∀ a m, (bt p).extract a (a + m) = bt ((p.drop a).take m)) := fun a m => by rw [bt_cut, List.drop_take, show a + m - a = m by omega]
  generalize bt p = B at *
  obtain ⟨n, hn⟩ : ∃ n, n = p.length := ⟨_, rfl⟩
  rw [← hn] at hz hp
  have HN := Hid.mk' hn
  clear hn
  have hnI : (n : Int) ≤ 40 := by omega
  go_enter Tryd.func18, Tryd.ntmps18
  go_wp2_with fail
  go_loopw [4, 5] (fun d t wr => ∃ (a : Nat) (L : List (List UInt8)), a ≤ n ∧ t = .int .i64 (a : Int) ∧ L.length ≤ a ∧ Hid (wr.ownsRow w.heap.size 9 1 d L.length (strC L)) ∧ Hid (bitL p = true → ∃ ks : Pg, L = ks.map mW ∧ p.take a = fla ks) ∧ Hid (Below w.heap.size w wr)) (fun _ t _ => n - (intOf t).toNat)
  case atStart => exact ⟨0, [], Nat.zero_le _, rfl, Nat.le_refl _, ⟨rfl, Or.inl ⟨rfl, rfl⟩⟩, fun _ => ⟨[], rfl, by simp [fla]⟩, Below.refl _ _⟩
  case round =>
    obtain ⟨a, L, ha, rfl, hL, HO, HK, HB⟩ := hrel
    have ha0 : (0 : Int) ≤ (a : Int) := by omega
    rcases Nat.lt_or_ge a n with h1 | h1
    · have haI : (a : Int) < (n : Int) := by omega
      obtain ⟨c, hc⟩ : ∃ c, p[a]? = some c := ⟨_, List.getElem?_eq_getElem (by have := HN.out; omega)⟩
      have haB : a < B.size := by omega
      have hat := HA.out a c hc haB
      by_cases h49 : c = 49
      · subst h49
        have hlb : lenB 49 = 3 := rfl
        rcases Nat.lt_or_ge n (a + 3) with h3 | h3
        · have h3I : (n : Int) < (a : Int) + 3 := by omega
          have HNO : Hid (bitL p = true → ∀ ks, p ≠ fla ks) := fun hb q => by
            obtain ⟨ks, _, hk⟩ := HK.out hb
            exact no_word hk hc (by rw [hlb, ← HN.out]; exact h3) q
          clear hc
          go_wp2_with fail
          go_ret2
          exact ⟨_, _, rfl, HB.out, fun hb => Or.inr ⟨rfl, HNO.out hb⟩⟩
        · have h3I : ¬ (n : Int) < (a : Int) + 3 := by omega
          have hcut := HCUT.out a 3
          have h3t : ((a : Int) + 3).toNat = a + 3 := by omega
          have HK2 : Hid (bitL p = true → ∃ ks : Pg, L ++ [(p.drop a).take 3] = ks.map mW ∧ p.take (a + 3) = fla ks) := fun hb => by
            obtain ⟨ks, h5, h6⟩ := HK.out hb
            obtain ⟨k, h7⟩ := word_at hb hc (by rw [hlb, ← HN.out]; exact h3)
            rw [hlb] at h7
            exact ⟨ks ++ [k], by rw [h5, h7]; simp, by rw [take_more, h6, h7, fla_snoc]⟩
          generalize hpc : (p.drop a).take 3 = pc at *
          have HS : Hid (strC (L ++ [pc]) = strC L ++ [.string (bt pc)]) := by show _ = _; simp [strC]
          generalize bt pc = PC at *
          clear hc
          go_wp2_with (at_builtin; go_must (refine wpList_append_lies _ rfl _ _ _ rfl w.heap.size 9 i0 _ 1 16 Tryd.underlying48 HINF.out.1 HINF.out.2.1 HINF.out.2.2.1 HINF.out.2.2.2 rfl (by omega) u4 _ _ rfl (HO.out.alloc _) ⟨wr.heap.size, 0, none⟩ 1 1 [.string PC] rfl rfl (one_newS _ _ _) (by simp [Value.oneCell']) (by omega) (by unfold maxLen; omega) (by omega) (by have := HB.out.size; simp; omega) _ rfl ?_; intro g' cap' w3 hown3 hgrow3 hat3 hlt3; have HO3 := Hid.mk' hown3; have HG3 := Hid.mk' hgrow3; clear hown3 hgrow3 hat3))
          go_roundw
          case rel => exact ⟨a + 3, L ++ [pc], by omega, by simp, by rw [List.length_append]; simp; omega, by rw [HS.out, List.length_append]; exact HO3, HK2, below_pushM HB.out HB.out.size HO.out HG3.out⟩
          case measure => simp [intOf]; omega
      · have hlb : lenB c = 2 := if_neg h49
        have hcI : ¬ ((c.toNat : Nat) : Int) = 49 := fun e => h49 (by have : c.toNat = 49 := by omega
                                                                      exact UInt8.toNat_inj.1 this)
        have hcB : (((c.toNat : Nat) : Int) == 49) = false := by simpa using hcI
        rcases Nat.lt_or_ge n (a + 2) with h3 | h3
        · have h3I : (n : Int) < (a : Int) + 2 := by omega
          have HNO : Hid (bitL p = true → ∀ ks, p ≠ fla ks) := fun hb q => by
            obtain ⟨ks, _, hk⟩ := HK.out hb
            exact no_word hk hc (by rw [hlb, ← HN.out]; exact h3) q
          clear hc
          go_wp2_with fail
          go_ret2
          exact ⟨_, _, rfl, HB.out, fun hb => Or.inr ⟨rfl, HNO.out hb⟩⟩
        · have h3I : ¬ (n : Int) < (a : Int) + 2 := by omega
          have hcut := HCUT.out a 2
          have h3t : ((a : Int) + 2).toNat = a + 2 := by omega
          have HK2 : Hid (bitL p = true → ∃ ks : Pg, L ++ [(p.drop a).take 2] = ks.map mW ∧ p.take (a + 2) = fla ks) := fun hb => by
            obtain ⟨ks, h5, h6⟩ := HK.out hb
            obtain ⟨k, h7⟩ := word_at hb hc (by rw [hlb, ← HN.out]; exact h3)
            rw [hlb] at h7
            exact ⟨ks ++ [k], by rw [h5, h7]; simp, by rw [take_more, h6, h7, fla_snoc]⟩
          generalize hpc : (p.drop a).take 2 = pc at *
          have HS : Hid (strC (L ++ [pc]) = strC L ++ [.string (bt pc)]) := by show _ = _; simp [strC]
          generalize bt pc = PC at *
          clear hc
          go_wp2_with (at_builtin; go_must (refine wpList_append_lies _ rfl _ _ _ rfl w.heap.size 9 i0 _ 1 16 Tryd.underlying48 HINF.out.1 HINF.out.2.1 HINF.out.2.2.1 HINF.out.2.2.2 rfl (by omega) u4 _ _ rfl (HO.out.alloc _) ⟨wr.heap.size, 0, none⟩ 1 1 [.string PC] rfl rfl (one_newS _ _ _) (by simp [Value.oneCell']) (by omega) (by unfold maxLen; omega) (by omega) (by have := HB.out.size; simp; omega) _ rfl ?_; intro g' cap' w3 hown3 hgrow3 hat3 hlt3; have HO3 := Hid.mk' hown3; have HG3 := Hid.mk' hgrow3; clear hown3 hgrow3 hat3))
          go_roundw
          case rel => exact ⟨a + 2, L ++ [pc], by omega, by simp, by rw [List.length_append]; simp; omega, by rw [HS.out, List.length_append]; exact HO3, HK2, below_pushM HB.out HB.out.size HO.out HG3.out⟩
          case measure => simp [intOf]; omega
    · obtain rfl : a = n := by omega
      have HE : Hid (p.take a = p) := by show _ = _; rw [HN.out, List.take_length]
      go_wp2_with fail
      go_ret2
      refine ⟨_, _, rfl, HB.out, fun hb => Or.inl ⟨rfl, ?_⟩⟩
      obtain ⟨ks, rfl, h6⟩ := HK.out hb
      exact ⟨ks, by rw [← h6, HE.out], by have := HO.out; rwa [List.length_map] at this⟩
end Go.Proofs.YtdfcipdknfebpaaDoor
