/-
  Reversed triangles join all valid tours of up to 5 players with equal scores (mathematics). Conditions: the tours are valid.
-/
import Derived.Test.YtgdejippddcekaaDoor7A
import Derived.Test.YtgdejippddcekaaDoor7B
import Derived.Test.YtgdejippddcekaaDoor6I
import Derived.Test.YtgdejippddcekaaDoorWf
namespace Go.Proofs.YtgdejippddcekaaDoor
open Go.ChangeShapes Go.WideShapes Go.ChangeAt Go.RowKit
set_option linter.unusedVariables false

namespace Cn
/-- Valid tours, as lists of numbers. -/
structure Va (m : Nat) (ws : List Nat) : Prop where
  len : ws.length = m
  lt : ∀ i, i < m → ws.getD i 0 < 2 ^ m
  self : ∀ i, i < m → bt ws i i = false
  two : ∀ i j, j < i → i < m → bt ws i j ≠ bt ws j i
theorem getD_take (ws : List Nat) (k j : Nat) (h : j < k) : (ws.take k).getD j 0 = ws.getD j 0 := by
  rw [List.getD_eq_getElem?_getD, List.getD_eq_getElem?_getD, List.getElem?_take_of_lt h]
theorem Va.take {m : Nat} {ws : List Nat} (h : Va m ws) (k : Nat) (hk : k ≤ m) : ws.take k ∈ E m k := by
  induction k with
  | zero => simp [E]
  | succ k ih =>
    have hkl : k < ws.length := by have := h.len; omega
    rw [List.take_succ_eq_append_getElem hkl]
    unfold E
    refine List.mem_flatMap.2 ⟨ws.take k, ih (by omega), ?_⟩
    unfold ext
    have hg : ws[k] = ws.getD k 0 := by rw [List.getD_eq_getElem?_getD, List.getElem?_eq_getElem hkl]; rfl
    refine List.mem_map.2 ⟨ws[k], List.mem_filter.2 ⟨List.mem_range.2 (by rw [hg]; exact h.lt k (by omega)), ?_⟩, rfl⟩
    rw [Bool.and_eq_true]
    refine ⟨by rw [hg]; have := h.self k (by omega); unfold bt at this; rw [this]; rfl, ?_⟩
    rw [List.all_eq_true]
    intro j hj
    have hjk := List.mem_range.1 hj
    have := h.two k j hjk (by omega)
    unfold bt at this
    rw [hg, getD_take ws k j hjk]
    simpa using this
theorem Va.mem {m : Nat} {ws : List Nat} (h : Va m ws) : ws ∈ E m m := by
  have := h.take m (Nat.le_refl _)
  rwa [List.take_of_length_le (by have := h.len; omega)] at this
def okAll (m : Nat) : Bool := (E m m).all fun ws => (nb ws).all fun y => sco y == sco ws && (nb y).any fun z => z == ws
theorem ok5 : ∀ m, m ≤ 5 → okAll m = true := by decide +kernel
theorem one4 : ∀ m, m ≤ 4 → one m = true := by decide +kernel
theorem oneA (m : Nat) (h : m ≤ 5) : one m = true := by
  rcases Nat.lt_or_ge m 5 with h1 | h1
  · exact one4 m (by omega)
  · obtain rfl : m = 5 := by omega
    exact one5
theorem nb_sco {m : Nat} (h5 : m ≤ 5) {ws y : List Nat} (h : Va m ws) (hy : y ∈ nb ws) : sco y = sco ws ∧ ws ∈ nb y := by
  have h1 := List.all_eq_true.1 (List.all_eq_true.1 (ok5 m h5) ws h.mem) y hy
  rw [Bool.and_eq_true, List.any_eq_true] at h1
  obtain ⟨z, hz, e⟩ := h1.2
  exact ⟨by simpa using h1.1, by rw [← show z = ws by simpa using e]; exact hz⟩
section
variable {m : Nat} (h5 : m ≤ 5) (hV : ∀ x, Va m x → ∀ y ∈ nb x, Va m y) (S : List Nat → Prop) (hS : ∀ x, Va m x → S x → ∀ y ∈ nb x, S y)
include h5 hV hS
theorem stepS {x y : List Nat} (hx : Va m x) (hy : y ∈ nb x) : S y ↔ S x :=
  ⟨fun h => hS y (hV x hx y hy) h x (nb_sco h5 hx hy).2, fun h => hS x hx h y hy⟩
theorem descend (k : Nat) : ∀ x, key x ≤ k → Va m x → ∃ z, z ∈ mins m ∧ Va m z ∧ sco z = sco x ∧ (S z ↔ S x) := by
  induction k with
  | zero =>
    intro x hk hx
    refine ⟨x, List.mem_filter.2 ⟨hx.mem, ?_⟩, hx, rfl, Iff.rfl⟩
    have : low x = false := by
      unfold low
      rw [List.any_eq_false]
      intro y hy
      have e1 : (decide (key y < key x)) = false := by rw [decide_eq_false_iff_not]; omega
      rw [e1, Bool.false_or]
      simp only [Bool.not_eq_true, List.any_eq_false, decide_eq_true_eq]
      intro z hz
      omega
    rw [this]; rfl
  | succ k ih =>
    intro x hk hx
    by_cases hl : low x = true
    · unfold low at hl
      obtain ⟨y, hy, h1⟩ := List.any_eq_true.1 hl
      rw [Bool.or_eq_true] at h1
      rcases h1 with h1 | h1
      · have h2 : key y < key x := by simpa using h1
        obtain ⟨z, hz, hvz, e, i⟩ := ih y (by omega) (hV x hx y hy)
        exact ⟨z, hz, hvz, e.trans (nb_sco h5 hx hy).1, i.trans (stepS h5 hV S hS hx hy)⟩
      · obtain ⟨w, hw, h2⟩ := List.any_eq_true.1 h1
        have h3 : key w < key x := by simpa using h2
        have hvy := hV x hx y hy
        obtain ⟨z, hz, hvz, e, i⟩ := ih w (by omega) (hV y hvy w hw)
        exact ⟨z, hz, hvz, (e.trans (nb_sco h5 hvy hw).1).trans (nb_sco h5 hx hy).1, (i.trans (stepS h5 hV S hS hvy hw)).trans (stepS h5 hV S hS hx hy)⟩
    · exact ⟨x, List.mem_filter.2 ⟨hx.mem, by simp [hl]⟩, hx, rfl, Iff.rfl⟩
theorem joined {x y : List Nat} (hx : Va m x) (hy : Va m y) (hs : sco x = sco y) : S x ↔ S y := by
  obtain ⟨p, hp, vp, ep, ip⟩ := descend h5 hV S hS (key x) x (Nat.le_refl _) hx
  obtain ⟨q, hq, vq, eq, iq⟩ := descend h5 hV S hS (key y) y (Nat.le_refl _) hy
  have h1 := List.all_eq_true.1 (List.all_eq_true.1 (oneA m h5) p hp) q hq
  rw [Bool.or_eq_true, Bool.or_eq_true] at h1
  rcases h1 with h1 | h1 | h1
  · have : sco p ≠ sco q := by simpa using h1
    exact absurd (by rw [ep, eq, hs]) this
  · have : p = q := by simpa using h1
    rw [← ip, ← iq, this]
  · unfold near3 at h1
    obtain ⟨a, ha, h1⟩ := List.any_eq_true.1 h1
    obtain ⟨b, hb, h1⟩ := List.any_eq_true.1 h1
    obtain ⟨c, hc, h1⟩ := List.any_eq_true.1 h1
    have va := hV p vp a ha
    have vb := hV a va b hb
    have vc := hV b vb c hc
    have e1 := stepS h5 hV S hS vp ha
    have e2 := stepS h5 hV S hS va hb
    have e3 := stepS h5 hV S hS vb hc
    rw [Bool.or_eq_true] at h1
    rcases h1 with h1 | h1
    · have : c = q := by simpa using h1
      rw [← ip, ← iq, ← this, e3, e2, e1]
    · obtain ⟨d, hd, h1⟩ := List.any_eq_true.1 h1
      have : d = q := by simpa using h1
      have e4 := stepS h5 hV S hS vc hd
      rw [← ip, ← iq, ← this, e4, e3, e2, e1]
end
end Cn

/-! The same of tours as the program holds them. -/
/-- The tours that a reversed triangle leads to, in the triangles' order. -/
def rvT (l r : List Int) : List Int := revL l (r.getD 0 0).toNat (r.getD 1 0).toNat (r.getD 2 0).toNat
def nbL (l : List Int) : List (List Int) := (triL l).map (rvT l)
def ofW (ws : List Nat) : List Int := ws.map Int.ofNat
theorem ofW_inj {x y : List Nat} (h : ofW x = ofW y) : x = y := by
  have := congrArg (List.map Int.toNat) h
  unfold ofW at this
  rwa [map_toNat, map_toNat] at this
theorem bt_ofW (ws : List Nat) (a b : Nat) : bt (ofW ws) a b = Cn.bt ws a b := by
  unfold bt Cn.bt ofW
  rw [map_ofNat_getD, bi_nat]
theorem ofW_len (ws : List Nat) : (ofW ws).length = ws.length := by simp [ofW]
theorem Ok.va {m : Nat} {l : List Int} (h : Ok (m : Int) l) : ∃ ws, l = ofW ws ∧ Cn.Va m ws := by
  obtain ⟨ws, hl, hlt⟩ := h.nats
  have hm : l.length = m := by have := h.2.2.1; omega
  have hwl : ws.length = m := by rw [← hm, hl]; simp
  refine ⟨ws, hl, hwl, fun i hi => ?_, fun i hi => ?_, fun i j hji hi => ?_⟩
  · rw [List.getD_eq_getElem?_getD, List.getElem?_eq_getElem (by omega)]
    have := (hlt _ (List.getElem_mem (show i < ws.length by omega))).1
    rw [hm] at this; exact this
  · rw [← bt_ofW, ← show l = ofW ws from hl]; exact h.self (by omega)
  · rw [← bt_ofW, ← bt_ofW, ← show l = ofW ws from hl]
    exact (h.2.2.2 i (by omega)).2.2 j hji
theorem Cn.Va.ok {m : Nat} {ws : List Nat} (h1 : 1 ≤ m) (h8 : m ≤ 8) (h : Cn.Va m ws) : Ok (m : Int) (ofW ws) := by
  refine ⟨by omega, by omega, by rw [ofW_len, h.len], fun a ha => ?_⟩
  rw [ofW_len, h.len] at ha
  refine ⟨?_, ?_, fun b hb => ?_⟩
  · unfold inSet ofW
    rw [map_ofNat_getD, List.length_map, h.len]
    have := h.lt a ha
    simp only [Bool.and_eq_true, decide_eq_true_iff]
    omega
  · exact (bt_ofW ws a a).trans (h.self a ha)
  · have e := h.two a b hb ha
    rw [← bt_ofW, ← bt_ofW] at e
    exact e
theorem rv_ofW (ws : List Nat) (x y z : Nat) : revL (ofW ws) x y z = ofW (Cn.rv ws (x, y, z)) := by
  unfold revL flipL ofW
  rw [map_toNat, map_toNat, map_toNat]
  rfl
theorem tr_ofW {m : Nat} {ws : List Nat} (h1 : 1 ≤ m) (h8 : m ≤ 8) (h : Cn.Va m ws) : triL (ofW ws) = (Cn.tr ws).map fun r => t3 r.1 r.2.1 r.2.2 := by
  have ok := h.ok h1 h8
  rw [← triN_all ok]
  unfold triN gamesL gamesTo Cn.tr
  rw [List.take_of_length_le (by simp), List.flatMap_assoc, List.map_flatMap]
  rw [show (List.range ws.length) = List.range (ofW ws).length by rw [ofW_len]]
  rw [← fin_range (ofW ws).length (fun a => List.map (fun r : Nat × Nat × Nat => t3 r.1 r.2.1 r.2.2) ((List.range (ofW ws).length).flatMap fun b => if (decide (a < b) && Cn.bt ws a b) = true then ((List.range (ofW ws).length).filter fun c => decide (a < c) && (Cn.bt ws b c && Cn.bt ws c a)).map fun c => (a, b, c) else []))]
  apply flatMap_congr2
  intro a _
  unfold rowG losers
  rw [List.flatMap_map, flatMap_filter, List.map_flatMap, ← fin_range (ofW ws).length (fun b => List.map (fun r : Nat × Nat × Nat => t3 r.1 r.2.1 r.2.2) (if (decide (a.val < b) && Cn.bt ws a.val b) = true then ((List.range (ofW ws).length).filter fun c => decide (a.val < c) && (Cn.bt ws b c && Cn.bt ws c a.val)).map fun c => (a.val, b, c) else []))]
  apply flatMap_congr2
  intro b _
  have he := triG_eq ok a.val b.val b.isLt
  simp only at he ⊢
  rw [he]
  unfold triC
  by_cases hab : a.val < b.val
  · by_cases hb : Cn.bt ws a.val b.val = true
    · rw [if_pos hab, if_pos (by rw [hb]; simp [hab]), List.map_map]
      congr 1
      apply List.filter_congr
      intro c hc
      unfold trB
      rw [bt_ofW, bt_ofW, bt_ofW, hb]
      by_cases hcb : c = b.val
      · subst hcb
        have := h.self b.val (by rw [← h.len, ← ofW_len]; exact b.isLt)
        rw [this]; simp
      · have e1 : (c == b.val) = false := by simpa using hcb
        rw [e1]; simp
    · rw [if_pos hab, if_neg (by simp [hb])]
      rw [List.map_nil, List.map_eq_nil_iff, List.filter_eq_nil_iff]
      intro c _
      unfold trB
      rw [bt_ofW, bt_ofW, bt_ofW]
      simp [hb]
  · rw [if_neg hab, if_neg (by simp [hab])]; rfl
end Go.Proofs.YtgdejippddcekaaDoor
