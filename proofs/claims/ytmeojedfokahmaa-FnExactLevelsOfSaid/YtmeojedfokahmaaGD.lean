/-
  'copyOf', the question of 'LevelsOf', an append to a row of rows beside a box. No conditions but the bounds that Go gives a slice.
-/
import Derived.Test.YtmeojedfokahmaaGC
import Derived.Test.YtmeojedfokahmaaGf
import Derived.Test.YtmeojedfokahmaaWa
namespace Go.Proofs.Ytmeojedfokahmaa
open Go.ChangeShapes Go.WideShapes Go.ChangeAt Go.RowKit Go.Sort
set_option linter.unusedVariables false

set_option maxRecDepth 100000 in
set_option maxHeartbeats 1000000 in
theorem copyOf_any (ba oa e c : Nat) (L : List Int) (w : World) (hL : L.length = e) (he : e ≤ 40) (hcell : ∀ j, j < e → w.cell? ⟨ba, oa + j, none⟩ = some (iv (L.getD j 0))) (had : ba < w.heap.size) :
    Calls Try.prog 96 #[.slice (some ⟨ba, oa, none⟩) e c] w fun ex w' => (∃ g, ex = .returned (.slice (some ⟨g, 0, none⟩) e e) ∧ w.heap.size ≤ g ∧ w'.ownsRow w.heap.size 3 1 (.slice (some ⟨g, 0, none⟩) e e) e (L.map iv)) ∧ Below w.heap.size w w' := by
  obtain ⟨i0, hi, hz0, hz1, hz2⟩ := info_parts infoInt
  have hsz1 : (Try.prog.info? 3).map (·.size) = some 1 := by kernel_rfl
  go_enter Try.func96, Try.ntmps96
  go_wp2_with (refine wpList_make_full _ rfl _ _ 23 rfl w.heap.size 3 i0 (.int .i64 0) 1 Try.underlying23 hi hz0 hz1 .i64 .i64 _ _ e rfl rfl rfl rfl ?c1 ?c2 ?c3 ?_)
  case c1 => rw [hz2]; omega
  case c2 => unfold maxLen; omega
  case c3 => exact Nat.le_refl _
  intro w2 hown hg
  have hb2 : Below w.heap.size w w2 := (Below.refl _ w).grown hg (Nat.le_refl _) (fun k hk => by cases hk)
  have hrow : w2.heap[w.heap.size]? = some (.cells (List.replicate e (Value.int .i64 0)).toArray 3 (0, 0)) := by
    rcases hown.2 with ⟨hn, _⟩ | ⟨g2, c2, cur, hev, _, hh, _, _, hcs, ht⟩
    · cases hn
    · simp only [Value.slice.injEq, Option.some.injEq, Addr.mk.injEq, and_true, true_and] at hev
      obtain ⟨rfl, rfl⟩ := hev
      rw [hh]
      have : cur = (List.replicate e (Value.int .i64 0)).toArray := by
        apply Array.toList_inj.1
        rw [Nat.mul_one, List.take_of_length_le (by rw [Array.length_toList, hcs]; omega)] at ht
        rw [ht, toList_madeCells_one]
      rw [this]
  have hc2 : ∀ j v, (L.map iv)[j]? = some v → w2.cell? ((⟨ba, oa, none⟩ : Addr).add j) = some v := fun j v hj => by
    have hjl : j < L.length := by have := (List.getElem?_eq_some_iff.1 hj).1; simpa using this
    have h1 := hcell j (by omega)
    rw [List.getElem?_map, List.getElem?_eq_getElem hjl] at hj
    rw [List.getD_eq_getElem?_getD, List.getElem?_eq_getElem hjl] at h1
    rw [Addr.add_lit, hb2.cell (p := ⟨ba, oa + j, none⟩) had, h1, ← hj]; rfl
  obtain ⟨g, hgv⟩ : ∃ g, g = w.heap.size := ⟨_, rfl⟩
  rw [← hgv] at hrow ⊢
  have HR := Lib.hid hrow
  have HB := Lib.hid hb2
  have HG := Lib.hid hgv
  have HC := Lib.hid hc2
  have hml : (L.map iv).length = e := by rw [List.length_map]; exact hL
  have HML := Lib.hid hml
  clear hown hg hrow hb2 hgv hcell hc2 hml
  go_wp2_with (refine wpList_copy_splice rfl _ _ _ _ rfl 3 Try.underlying23 hsz1 (some ⟨g, 0, none⟩) (some ⟨ba, oa, none⟩) e e e c rfl rfl g 0 (List.replicate e (Value.int .i64 0)) 3 HR.out (L.map iv) (by rw [HML.out]; exact (Nat.min_self e).symm) ?k1 (by rw [HML.out, List.length_replicate]; exact Nat.le_of_eq (Nat.zero_add e)) (by intro v hv; obtain ⟨x, _, rfl⟩ := List.mem_map.1 hv; rfl) w.heap.size w HB.out (by rw [HG.out]; exact Nat.le_refl _) ?_)
  case k1 =>
    intro _ j x hj
    have h := HC.out j (iv x) (by rw [List.getElem?_map, hj]; rfl)
    rw [Addr.add_lit] at h
    exact h
  intro w3 hrow3 hb3
  have hsp : splice (List.replicate e (Value.int .i64 0)) 0 (L.map iv) = L.map iv := by
    unfold splice
    rw [HML.out, Nat.zero_add, List.drop_eq_nil_of_le (by simp)]
    simp
  have H3 : Hid (w3.heap[g]? = some (.cells (L.map iv).toArray 3 (0, 0))) := by rw [← hsp]; exact hrow3
  have B3 := Lib.hid hb3
  clear hrow3 hb3 hsp
  go_wp2
  go_ret
  exact ⟨⟨g, rfl, by rw [HG.out]; exact Nat.le_refl _, ⟨by rw [HML.out]; simp, .inr ⟨g, e, _, rfl, by rw [HG.out]; exact Nat.le_refl _, H3.out, Nat.le_refl _, by unfold maxLen; omega, by rw [List.size_toArray, HML.out]; simp, by rw [List.take_of_length_le (by rw [HML.out]; simp)]⟩⟩⟩, B3.out⟩

set_option maxRecDepth 100000 in
set_option maxHeartbeats 1000000 in
/-- The question of 'LevelsOf': whether an index bears the element of the first one. -/
theorem level1_any (p q i n cap r c g off : Nat) (a : Option Addr) (l : List Int) (L : List Nat) (W : World) (hp : W.cell? ⟨p, 0, none⟩ = some (.slice a n cap)) (hq : W.cell? ⟨q, 0, none⟩ = some (.slice (some ⟨g, off, none⟩) r c)) (hn : l.length = n) (hrow : IntRow W a l) (hi : i < r)
    (hL : L.length = r) (hLn : ∀ j, j < r → L.getD j 0 < n) (hcell : ∀ j, j < r → W.cell? ⟨g, off + j, none⟩ = some (.int .i64 ((L.getD j 0 : Nat) : Int))) :
    Calls Try.prog 95 #[.int .i64 (i : Int), .pointer (some ⟨p, 0, none⟩), .pointer (some ⟨q, 0, none⟩)] W fun e W' => e = .returned (.bool (eqK l (L.getD 0 0) (L.getD i 0))) ∧ Below W.heap.size W W' := by
  subst hn
  obtain ⟨b, o2, rfl, hb, hc⟩ := row_at hrow (hLn i hi)
  have f1 := hcell i hi
  have f2 := hcell 0 (by omega)
  rw [Nat.add_zero] at f2
  have l1 := hLn i hi
  have l2 := hLn 0 (by omega)
  obtain ⟨x, hx⟩ : ∃ x, x = L.getD i 0 := ⟨_, rfl⟩
  obtain ⟨y, hy⟩ : ∃ y, y = L.getD 0 0 := ⟨_, rfl⟩
  rw [← hx] at f1 l1
  rw [← hy] at f2 l2
  have f3 := hc x l1
  have f4 := hc y l2
  have he : eqK l (L.getD 0 0) (L.getD i 0) = decide (l.getD x 0 = l.getD y 0) := by rw [hx, hy]; rfl
  rw [he]
  generalize l.getD x 0 = u at f3 ⊢
  generalize l.getD y 0 = v at f4 ⊢
  have hii : (i : Int) < (r : Int) := by omega
  have h0i : (0 : Int) < (r : Int) := by omega
  have l1i : (x : Int) < (l.length : Int) := by omega
  have l2i : (y : Int) < (l.length : Int) := by omega
  clear hc hrow hcell hLn hx hy he hL
  go_enter Try.func95, Try.ntmps95
  go_wp2
  go_region
  all_goals
    go_wp2
    go_ret
    refine ⟨?_, (Below.refl _ _).drew⟩
    first | rfl | (congr 2; rw [Bool.eq_iff_iff]; simp)
end Go.Proofs.Ytmeojedfokahmaa
