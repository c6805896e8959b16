/-
  The laws' own functions on slices of slices: equal, marked, held. Conditions: at most 4096 rows of at most 4096 numbers.
-/
import Derived.Test.YtmeojedfokahmaaWa
namespace Go.Proofs.Ytmeojedfokahmaa
open Go.ChangeShapes Go.WideShapes Go.ChangeAt Go.RowKit
set_option linter.unusedVariables false

def sumLs (Ls : List (List Int)) : Nat := (Ls.map List.length).sum
theorem sumLs_succ (Ls : List (List Int)) (i : Nat) (h : i < Ls.length) : sumLs (Ls.take (i + 1)) = sumLs (Ls.take i) + (Ls.getD i []).length := by
  unfold sumLs
  rw [List.take_succ_eq_append_getElem h, List.map_append, List.sum_append, List.getD_eq_getElem?_getD, List.getElem?_eq_getElem h]
  simp
theorem sumLs_le (Ls : List (List Int)) (i : Nat) : sumLs (Ls.take i) ≤ sumLs Ls := by
  conv => rhs; rw [← List.take_append_drop i Ls]
  unfold sumLs
  rw [List.map_append, List.sum_append]
  omega
/-- The rows of which the first i are marked, from k on. -/
def mkSS (k : Nat) (Ls : List (List Int)) (i : Nat) : List (List Int) := (List.range Ls.length).map fun j => if j < i then marks (k + sumLs (Ls.take j)) (Ls.getD j []).length else Ls.getD j []
theorem mkSS_len (k : Nat) (Ls : List (List Int)) (i : Nat) : (mkSS k Ls i).length = Ls.length := by simp [mkSS]
theorem mkSS_at (k : Nat) (Ls : List (List Int)) (i j : Nat) (h : j < Ls.length) : (mkSS k Ls i).getD j [] = if j < i then marks (k + sumLs (Ls.take j)) (Ls.getD j []).length else Ls.getD j [] := by
  unfold mkSS
  rw [List.getD_eq_getElem?_getD, List.getElem?_map, List.getElem?_range h]
  rfl
theorem mkSS_rowlen (k : Nat) (Ls : List (List Int)) (i j : Nat) (h : j < Ls.length) : ((mkSS k Ls i).getD j []).length = (Ls.getD j []).length := by
  rw [mkSS_at k Ls i j h]; split <;> simp [marks_len]
theorem mkSS_zero (k : Nat) (Ls : List (List Int)) : mkSS k Ls 0 = Ls := by
  apply List.ext_getElem (mkSS_len _ _ _)
  intro j h1 h2
  have := mkSS_at k Ls 0 j h2
  rw [if_neg (by omega), List.getD_eq_getElem?_getD, List.getD_eq_getElem?_getD, List.getElem?_eq_getElem h1, List.getElem?_eq_getElem h2] at this
  exact this
theorem mkSS_set (k : Nat) (Ls : List (List Int)) (i : Nat) (h : i < Ls.length) : (mkSS k Ls i).set i (marks (k + sumLs (Ls.take i)) (Ls.getD i []).length) = mkSS k Ls (i + 1) := by
  apply List.ext_getElem (by rw [List.length_set, mkSS_len, mkSS_len])
  intro j h1 h2
  rw [mkSS_len] at h2
  rw [List.getElem_set]
  have a1 := mkSS_at k Ls i j h2
  have a2 := mkSS_at k Ls (i + 1) j h2
  rw [List.getD_eq_getElem?_getD, List.getElem?_eq_getElem (by rw [mkSS_len]; exact h2)] at a1 a2
  simp only [Option.getD_some] at a1 a2
  rw [a2]
  by_cases e : i = j
  · subst e; rw [if_pos rfl, if_pos (by omega)]
  · rw [if_neg e, a1]
    by_cases hj : j < i
    · rw [if_pos hj, if_pos (by omega)]
    · rw [if_neg hj, if_neg (by omega)]
theorem svs_congr {gs : List (Nat × Nat)} {Ls Ms : List (List Int)} (hl : Ls.length = Ms.length) (h : ∀ j, j < Ls.length → (Ls.getD j []).length = (Ms.getD j []).length) : svs gs Ls = svs gs Ms := by
  unfold svs
  apply List.ext_getElem (by simp [hl])
  intro i h1 h2
  rw [List.length_zipWith] at h1
  rw [List.getElem_zipWith, List.getElem_zipWith]
  have := h i (by omega)
  rw [List.getD_eq_getElem?_getD, List.getD_eq_getElem?_getD, List.getElem?_eq_getElem (by omega), List.getElem?_eq_getElem (by omega)] at this
  unfold sv
  simp only [Option.getD_some] at this
  rw [this]
theorem OwnSS.markRow {W W' : World} {B : Nat} {a : Option Addr} {c : Nat} {gs : List (Nat × Nat)} {Ls : List (List Int)} (h : OwnSS W B a c gs Ls) (i : Nat) (hi : i < Ls.length) {X : List Int} (hX : X.length = (Ls.getD i []).length)
    (ho : W'.ownsRow B 3 1 (sv (gs.getD i (0, 0)) (Ls.getD i [])) (Ls.getD i []).length (X.map iv)) (hg : W.grownBy W' (some (gs.getD i (0, 0)).1)) : OwnSS W' B a c gs (Ls.set i X) := by
  have hlen : (Ls.set i X).length = Ls.length := List.length_set
  have gd : ∀ j, j < Ls.length → (Ls.set i X).getD j [] = if i = j then X else Ls.getD j [] := fun j hj => by
    rw [List.getD_eq_getElem?_getD, List.getElem?_set, List.getD_eq_getElem?_getD]
    split
    · rfl
    · rfl
  have hsv : svs gs (Ls.set i X) = svs gs Ls := svs_congr hlen (fun j hj => by
    rw [hlen] at hj
    rw [gd j hj]
    split
    · rename_i e; rw [← e]; exact hX
    · rfl)
  refine ⟨by rw [hlen]; exact h.len, ?_, fun j hj => ?_, fun j k hj hk hjk => h.nd j k (by rw [hlen] at hj; exact hj) (by rw [hlen] at hk; exact hk) hjk⟩
  · rw [hlen, hsv]
    exact own_grE h.out hg (fun k hk e => h.apart i hi (by rw [hk]; exact e.symm))
  · rw [hlen] at hj
    rw [gd j hj]
    by_cases e : i = j
    · subst e
      rw [if_pos rfl]
      unfold sv at ho ⊢
      rw [hX]; exact ho
    · rw [if_neg e]
      exact own_grE (h.inn j hj) hg (fun k hk e2 => h.nd j i hj hi (fun e3 => e e3.symm) (by
        have e4 : (gs.getD j (0, 0)).1 = k := by simpa [blk] using hk
        have e5 : (gs.getD i (0, 0)).1 = k := by simpa using e2
        rw [e4, e5]))

set_option maxHeartbeats 400000 in
theorem eqSS (a b : Option Addr) (ca cb B B' : Nat) (gs gs' : List (Nat × Nat)) (Ls : List (List Int)) (w : World) (h1 : OwnSS w B a ca gs Ls) (h2 : OwnSS w B' b cb gs' Ls) (hl : Ls.length ≤ 4096) (hr : ∀ i, i < Ls.length → (Ls.getD i []).length ≤ 4096) :
    Calls Try.prog 59 #[.slice a Ls.length ca, .slice b Ls.length cb] w fun e w' => e = .returned (.bool true) ∧ Below w.heap.size w w' := by
  go_enter Try.func59, Try.ntmps59
  go_wp2
  go_loopw [5] (fun i wr => ∃ k : Nat, k ≤ Ls.length ∧ i = .int .i64 k ∧ Hid (Below w.heap.size w wr)) (fun i _ => Ls.length - (intOf i).toNat)
  case atStart => exact ⟨0, Nat.zero_le _, rfl, Below.refl _ _⟩
  case round =>
    obtain ⟨k, hk, rfl, hb⟩ := hrel
    by_cases hlt : k < Ls.length
    · obtain ⟨ga, rfl, _⟩ := h1.base (by omega)
      obtain ⟨gb, rfl, _⟩ := h2.base (by omega)
      have k1 := h1.below hb.out
      have k2 := h2.below hb.out
      have c1 := k1.cell k hlt
      have c2 := k2.cell k hlt
      have r1 := k1.row k hlt
      have r2 := k2.row k hlt
      have hn := hr k hlt
      obtain ⟨L, hL⟩ : ∃ L, L = Ls.getD k [] := ⟨_, rfl⟩
      obtain ⟨p1, hp1⟩ : ∃ p, p = gs.getD k (0, 0) := ⟨_, rfl⟩
      obtain ⟨p2, hp2⟩ : ∃ p, p = gs'.getD k (0, 0) := ⟨_, rfl⟩
      rw [← hL, ← hp1] at c1 r1
      rw [← hL, ← hp2] at c2 r2
      rw [← hL] at hn
      have hq1 := fun d os => cell_regrown c1 d os
      have hq2 := fun d os => cell_regrown c2 d os
      have hLm : L.length ≤ maxLen := by unfold maxLen; omega
      have cE : ∀ d os, Calls Try.prog 47 #[.slice (some ⟨p1.1, 0, none⟩) L.length p1.2, .slice (some ⟨p2.1, 0, none⟩) L.length p2.2] (Go.Sort.grow (redrawn wr d) os) fun e w'' => e = .returned (.bool true) ∧ ∃ p : Regrown, w'' = Go.Sort.grow (redrawn wr p.d) p.os :=
        fun d os => Calls.regrown_of ((eqInt_same _ _ _ _ L _ hLm (r1.below (below_regrown wr d os) (Nat.le_refl _)) (r2.below (below_regrown wr d os) (Nat.le_refl _))).mono fun e w' ⟨he, hw⟩ => ⟨he, hw⟩)
      have hib : (k : Int) < (Ls.length : Int) := by omega
      clear hL hp1 hp2 r1 r2 k1 k2 hn hLm h1 h2 hr
      go_wp2
      refine wp_region_quiet_below (by kernel_rfl) (by kernel_rfl) ?_
      repeat (go_big_quiet_step (exact cE _ _))
      refine wpQuiet_nil ?_
      intro wq hw'
      have hbq : Below wr.heap.size wr wq := by obtain ⟨⟨dq, osq⟩, hw''⟩ := hw'; rw [hw'']; exact below_regrown wr dq osq
      have hb2 := Lib.hid (hb.out.trans (hbq.mono hb.out.size))
      clear hw' cE hq1 hq2 hbq hb
      go_wp2
      go_roundw
      case rel => exact ⟨k + 1, by omega, by go_num, hb2.out⟩
      case measure => simp [intOf]; omega
    · obtain rfl : k = Ls.length := by omega
      have hib : ¬ (Ls.length : Int) < (Ls.length : Int) := by omega
      go_wp2
      go_ret
      exact ⟨rfl, hb.out⟩

set_option maxHeartbeats 400000 in
theorem markSS1 (a : Option Addr) (c B k0 : Nat) (gs : List (Nat × Nat)) (Ls : List (List Int)) (w : World) (h : OwnSS w B a c gs Ls) (hl : Ls.length ≤ 4096) (hr : ∀ i, i < Ls.length → (Ls.getD i []).length ≤ 4096) (hs : k0 + sumLs Ls ≤ 1000000) :
    Calls Try.prog 60 #[.slice a Ls.length c, .int .i64 k0] w fun e w' => e = .returned (.int .i64 ((k0 + sumLs Ls : Nat) : Int)) ∧ OwnSS w' B a c gs (mkSS k0 Ls Ls.length) ∧ Below B w w' := by
  have h0 : Hid (OwnSS w B a c gs (mkSS k0 Ls 0)) := by rw [mkSS_zero]; exact h
  clear h
  go_enter Try.func60, Try.ntmps60
  go_wp2
  go_loopw [1, 5] (fun kk i wr => ∃ k : Nat, k ≤ Ls.length ∧ i = .int .i64 k ∧ kk = .int .i64 ((k0 + sumLs (Ls.take k) : Nat) : Int) ∧ Hid (OwnSS wr B a c gs (mkSS k0 Ls k)) ∧ Hid (Below B w wr)) (fun _ i _ => Ls.length - (intOf i).toNat)
  case atStart => exact ⟨0, Nat.zero_le _, rfl, by simp [sumLs], h0.out, Below.refl _ _⟩
  case round =>
    clear h0
    obtain ⟨k, hk, rfl, rfl, ho, hb⟩ := hrel
    have hsk := sumLs_le Ls k
    by_cases hlt : k < Ls.length
    · have hlm := mkSS_len k0 Ls k
      obtain ⟨g, rfl, _⟩ := ho.out.base (by omega)
      have hc := ho.out.cell k (by omega)
      have hrow := ho.out.inn k (by omega)
      have hrl := mkSS_rowlen k0 Ls k k hlt
      have hn := hr k hlt
      have hss := sumLs_succ Ls k hlt
      obtain ⟨q, hq⟩ : ∃ q : Nat, q = k0 + sumLs (Ls.take k) := ⟨_, rfl⟩
      have hset := mkSS_set k0 Ls k hlt
      rw [← hq] at hset
      have hcl := hb.out.size
      rw [hrl] at hc hrow
      obtain ⟨L, hL⟩ : ∃ L, L = (mkSS k0 Ls k).getD k [] := ⟨_, rfl⟩
      obtain ⟨p, hp⟩ : ∃ p, p = gs.getD k (0, 0) := ⟨_, rfl⟩
      obtain ⟨n, hnn⟩ : ∃ n, n = (Ls.getD k []).length := ⟨_, rfl⟩
      rw [← hnn, ← hp] at hc
      have hrow2 : wr.ownsRow B 3 1 (.slice (some ⟨p.1, 0, none⟩) n p.2) n (L.map iv) := by
        unfold sv at hrow
        rw [hrl, ← hnn, ← hp, ← hL] at hrow
        exact hrow
      rw [← hnn] at hn hss hset
      have HM := Lib.hid (markInt B n q _ _ wr (by omega) (by omega) hrow2)
      have hnext : Hid (∀ W' : World, W'.ownsRow B 3 1 (.slice (some ⟨p.1, 0, none⟩) n p.2) n ((marks q n).map iv) → wr.grownBy W' (Value.slice (some ⟨p.1, 0, none⟩) n p.2).ownBlock → OwnSS W' B (some ⟨g, 0, none⟩) c gs (mkSS k0 Ls (k + 1))) := by
        intro W' h1 h2
        rw [← hset]
        refine ho.out.markRow k (by omega) (by rw [marks_len, hrl, ← hnn]) ?_ (by rw [← hp]; exact h2)
        unfold sv
        rw [hrl, ← hnn, ← hp]
        exact h1
      have hnx : Hid (k0 + sumLs (Ls.take (k + 1)) = q + n) := by show _ = _; omega
      have hkb : (k : Int) < (Ls.length : Int) := by omega
      have hqb : q + n ≤ 1000000 := by have := sumLs_le Ls (k + 1); omega
      rw [← hq]
      clear hq hset hL hp hnn hrow hrow2 hss hsk hrl hlm hr hs
      go_wp2_with fail
      refine HM.out.mono ?_
      rintro e w1 ⟨rfl, ho1, hb1, hg1⟩
      have O2 := Lib.hid (hnext.out w1 ho1 hg1)
      have B2 := Lib.hid (hb.out.trans hb1)
      clear ho1 hb1 hg1 hc
      go_wp2
      go_roundw
      case rel => exact ⟨k + 1, by omega, by go_num, by rw [hnx.out, Int.natCast_add], O2.out, B2.out⟩
      case measure => simp [intOf]; omega
    · obtain rfl : k = Ls.length := by omega
      have hib : ¬ (Ls.length : Int) < (Ls.length : Int) := by omega
      have HT : Hid (sumLs (Ls.take Ls.length) = sumLs Ls) := by rw [List.take_length]; exact rfl
      go_wp2
      go_ret
      exact ⟨rfl, ho.out, hb.out⟩

set_option maxHeartbeats 400000 in
theorem heldSS1 (a : Option Addr) (c B k0 : Nat) (gs : List (Nat × Nat)) (Ls : List (List Int)) (w : World) (h : OwnSS w B a c gs (mkSS k0 Ls Ls.length)) (hl : Ls.length ≤ 4096) (hr : ∀ i, i < Ls.length → (Ls.getD i []).length ≤ 4096) (hs : k0 + sumLs Ls ≤ 1000000) :
    Calls Try.prog 61 #[.slice a Ls.length c, .int .i64 k0] w fun e w' => e = .returned (.int .i64 ((k0 + sumLs Ls : Nat) : Int)) ∧ Below w.heap.size w w' := by
  have h0 := Lib.hid h
  clear h
  go_enter Try.func61, Try.ntmps61
  go_wp2
  go_loopw [1, 5] (fun kk i wr => ∃ k : Nat, k ≤ Ls.length ∧ i = .int .i64 k ∧ kk = .int .i64 ((k0 + sumLs (Ls.take k) : Nat) : Int) ∧ Hid (Below w.heap.size w wr)) (fun _ i _ => Ls.length - (intOf i).toNat)
  case atStart => exact ⟨0, Nat.zero_le _, rfl, by simp [sumLs], Below.refl _ _⟩
  case round =>
    obtain ⟨k, hk, rfl, rfl, hb⟩ := hrel
    have hsk := sumLs_le Ls k
    by_cases hlt : k < Ls.length
    · have hlm := mkSS_len k0 Ls Ls.length
      have ho := h0.out.below hb.out
      obtain ⟨g, rfl, _⟩ := ho.base (by omega)
      have hc := ho.cell k (by omega)
      have hrow := ho.inn k (by omega)
      have hrl := mkSS_rowlen k0 Ls Ls.length k hlt
      have hat := mkSS_at k0 Ls Ls.length k hlt
      rw [if_pos hlt] at hat
      have hn := hr k hlt
      have hss := sumLs_succ Ls k hlt
      obtain ⟨q, hq⟩ : ∃ q : Nat, q = k0 + sumLs (Ls.take k) := ⟨_, rfl⟩
      obtain ⟨p, hp⟩ : ∃ p, p = gs.getD k (0, 0) := ⟨_, rfl⟩
      obtain ⟨n, hnn⟩ : ∃ n, n = (Ls.getD k []).length := ⟨_, rfl⟩
      rw [hrl, ← hnn, ← hp] at hc
      have hrow2 : wr.ownsRow B 3 1 (.slice (some ⟨p.1, 0, none⟩) n p.2) n ((marks q n).map iv) := by
        unfold sv at hrow
        rw [hrl, hat, ← hnn, ← hp, ← hq] at hrow
        exact hrow
      rw [← hnn] at hn hss
      have HM := Lib.hid (heldInt B n q _ wr (by omega) (by omega) hrow2)
      have hnx : Hid (k0 + sumLs (Ls.take (k + 1)) = q + n) := by show _ = _; omega
      have hkb : (k : Int) < (Ls.length : Int) := by omega
      have hqb : q + n ≤ 1000000 := by have := sumLs_le Ls (k + 1); omega
      have hneg : ¬ ((q + n : Nat) : Int) < 0 := by omega
      rw [← hq]
      clear hq hp hnn hrow hrow2 hss hsk hrl hat hlm hr hs ho
      go_wp2_with fail
      refine HM.out.mono ?_
      rintro e w1 ⟨rfl, hb1⟩
      have B2 := Lib.hid (hb.out.trans (hb1.mono hb.out.size))
      clear hb1 hc
      go_wp2
      go_roundw
      case rel => exact ⟨k + 1, by omega, by go_num, by rw [hnx.out, Int.natCast_add], B2.out⟩
      case measure => simp [intOf]; omega
    · obtain rfl : k = Ls.length := by omega
      have hib : ¬ (Ls.length : Int) < (Ls.length : Int) := by omega
      have HT : Hid (sumLs (Ls.take Ls.length) = sumLs Ls) := by rw [List.take_length]; exact rfl
      go_wp2
      go_ret
      exact ⟨rfl, hb.out⟩
/-- What a call returns that makes a slice of slices. -/
def RetSS (w : World) (R : List (List Int)) (e : Ending) (w' : World) : Prop := (∃ a0 c0 gs, e = .returned (.slice a0 R.length c0) ∧ OwnSS w' w.heap.size a0 c0 gs R) ∧ Below w.heap.size w w'
end Go.Proofs.Ytmeojedfokahmaa
