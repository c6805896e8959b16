/-
  The model's list of all triangles. Condition: the tour is valid.
-/
import Derived.Test.YteegbkbphfmooaaWb
import Derived.Test.YteegbkbphfmooaaD
namespace Go.Proofs.Yteegbkbphfmooaa
open Go.ChangeShapes Go.WideShapes Go.ChangeAt Go.RowKit
set_option linter.unusedVariables false

def t3 (a b c : Nat) : List Int := [(a : Int), (b : Int), (c : Int)]
def trB (l : List Int) (a b c : Nat) : Bool := !(c == b) && (bt l a b && (bt l b c && bt l c a))
def triC (l : List Int) (a b c : Nat) : List (List Int) := ((List.range c).filter fun x => decide (a < x) && trB l a b x).map fun x => t3 a b x
def triB (l : List Int) (a b : Nat) : List (List Int) := (List.range b).flatMap fun y => if a < y then triC l a y l.length else []
def triA (l : List Int) (a : Nat) : List (List Int) := (List.range a).flatMap fun x => triB l x l.length
/-- All triangles, in order. -/
def triL (l : List Int) : List (List Int) := triA l l.length
theorem triC_start (l : List Int) (a b : Nat) : triC l a b (a + 1) = [] := by
  unfold triC
  rw [List.map_eq_nil_iff, List.filter_eq_nil_iff]
  intro x hx
  have := List.mem_range.1 hx
  simp; omega
theorem triC_yes (l : List Int) (a b c : Nat) (ha : a < c) (h : trB l a b c = true) : triC l a b (c + 1) = triC l a b c ++ [t3 a b c] := by
  unfold triC
  rw [List.range_succ, List.filter_append, List.map_append]
  simp [ha, h]
theorem triC_no (l : List Int) (a b c : Nat) (h : trB l a b c = false) : triC l a b (c + 1) = triC l a b c := by
  unfold triC
  rw [List.range_succ, List.filter_append, List.map_append]
  simp [h]
theorem triB_start (l : List Int) (a : Nat) : triB l a (a + 1) = [] := by
  unfold triB
  rw [List.flatMap_eq_nil_iff]
  intro x hx
  have := List.mem_range.1 hx
  rw [if_neg (by omega)]
theorem triB_succ (l : List Int) (a b : Nat) (h : a < b) : triB l a (b + 1) = triB l a b ++ triC l a b l.length := by
  unfold triB
  rw [List.range_succ, List.flatMap_append]
  simp [h]
theorem triA_succ (l : List Int) (a : Nat) : triA l (a + 1) = triA l a ++ triB l a l.length := by
  unfold triA
  rw [List.range_succ, List.flatMap_append]
  simp
theorem triC_len (l : List Int) (a b c : Nat) : (triC l a b c).length ≤ c := by
  unfold triC
  rw [List.length_map]
  exact Nat.le_trans (List.length_filter_le _ _) (by simp)
theorem triB_len (l : List Int) (a b : Nat) : (triB l a b).length ≤ b * l.length := by
  induction b with
  | zero => simp [triB]
  | succ b ih =>
    unfold triB at ih ⊢
    rw [List.range_succ, List.flatMap_append, List.length_append, Nat.succ_mul]
    have : (List.flatMap (fun y => if a < y then triC l a y l.length else []) [b]).length ≤ l.length := by
      simp only [List.flatMap_cons, List.flatMap_nil, List.append_nil]
      split
      · exact triC_len _ _ _ _
      · simp
    omega
theorem triA_len (l : List Int) (a : Nat) : (triA l a).length ≤ a * (l.length * l.length) := by
  induction a with
  | zero => simp [triA]
  | succ a ih =>
    rw [triA_succ, List.length_append, Nat.succ_mul]
    have := triB_len l a l.length
    omega
theorem mul3 (n : Nat) (h : n ≤ 8) : n * (n * n) ≤ 512 := by
  have : ∀ n : Fin 9, n.val * (n.val * n.val) ≤ 512 := by decide
  exact this ⟨n, by omega⟩
theorem mul2 (n m : Nat) (h : n ≤ 8) (hm : m ≤ 8) : m * n ≤ 64 := by
  have : ∀ n m : Fin 9, m.val * n.val ≤ 64 := by decide
  exact this ⟨n, by omega⟩ ⟨m, by omega⟩
theorem triL_len (l : List Int) (h : l.length ≤ 8) : (triL l).length ≤ 512 := Nat.le_trans (triA_len l l.length) (mul3 _ h)
theorem tri_room (l : List Int) (a b c : Nat) (h : l.length ≤ 8) (ha : a ≤ 8) (hb : b ≤ 8) (hc : c ≤ 8) : (triA l a ++ triB l a b ++ triC l a b c).length ≤ 584 := by
  have h1 := triA_len l a
  have h2 := triB_len l a b
  have h3 := triC_len l a b c
  have h4 := mul2 l.length l.length h h
  have h5 : a * (l.length * l.length) ≤ 8 * 64 := Nat.mul_le_mul ha h4
  have h6 := mul2 l.length b h hb
  rw [List.length_append, List.length_append]
  omega
/-- Each row has three numbers. -/
theorem triC_row {l : List Int} {a b c : Nat} {r : List Int} (h : r ∈ triC l a b c) : r.length = 3 := by
  unfold triC at h
  obtain ⟨x, _, rfl⟩ := List.mem_map.1 h
  rfl
theorem triB_row {l : List Int} {a b : Nat} {r : List Int} (h : r ∈ triB l a b) : r.length = 3 := by
  unfold triB at h
  obtain ⟨y, _, hy⟩ := List.mem_flatMap.1 h
  split at hy
  · exact triC_row hy
  · cases hy
theorem triL_row {l : List Int} {r : List Int} (h : r ∈ triL l) : r.length = 3 := by
  unfold triL triA at h
  obtain ⟨y, _, hy⟩ := List.mem_flatMap.1 h
  exact triB_row hy

theorem own_someE4 {e : TypeId} {w : World} {B n : Nat} {v : Value} {xs : List Value} (h : w.ownsRow B e 1 v (n + 1) xs) : ∃ g cap, v = .slice (some ⟨g, 0, none⟩) (n + 1) cap ∧ B ≤ g ∧ g < w.heap.size ∧ n + 1 ≤ cap := by
  have h0 := h
  rcases h.2 with ⟨_, hx⟩ | ⟨g, cap, cur, rfl, hb, hg, hnc, _⟩
  · omega
  · exact ⟨g, cap, rfl, hb, (h0.lt g rfl).2, hnc⟩
/-- What the loops hold of the memory. -/
structure La (w W : World) (n : Int) (a : Option Addr) (cap : Nat) (l : List Int) (ao : Option Addr) (co : Nat) (gs : List (Nat × Nat)) (Ls : List (List Int)) : Prop where
  hb : Below w.heap.size w W
  xt : Box W w.heap.size 25 (.int .i64 n) (.slice a l.length cap)
  hr : IntRow W a l
  ss : OwnSS W (w.heap.size + 1) ao co gs Ls
theorem La.below {w W W' : World} {n : Int} {a : Option Addr} {cap : Nat} {l : List Int} {ao : Option Addr} {co : Nat} {gs : List (Nat × Nat)} {Ls : List (List Int)} (h : La w W n a cap l ao co gs Ls) (hb : Below W.heap.size W W') : La w W' n a cap l ao co gs Ls :=
  ⟨h.hb.trans (hb.mono h.hb.size), h.xt.below hb h.xt.lt, h.hr.below hb (Nat.le_refl _), h.ss.below hb⟩
/-- A further row of three. -/
theorem La.push {w W W3 : World} {n : Int} {a : Option Addr} {cap : Nat} {l : List Int} {ao : Option Addr} {co : Nat} {gs : List (Nat × Nat)} {Ls : List (List Int)} (h : La w W n a cap l ao co gs Ls) (hrw : IntRow w a l) (x y z : Int) {g3 c3 : Nat}
    (hg : ((W.alloc (.cells #[.int .i64 x, .int .i64 y, .int .i64 z] 3)).alloc (.cells #[.slice (some ⟨W.heap.size, 0, none⟩) 3 3] 23)).grownBy W3 (blk ao))
    (ho : W3.ownsRow (w.heap.size + 1) 23 1 (.slice (some ⟨g3, 0, none⟩) (Ls.length + 1) c3) (Ls.length + 1) (svs gs Ls ++ [.slice (some ⟨W.heap.size, 0, none⟩) 3 3])) :
    La w W3 n a cap l (some ⟨g3, 0, none⟩) c3 (gs ++ [(W.heap.size, 3)]) (Ls ++ [[x, y, z]]) := by
  have hs := h.hb.size
  have hxl := h.xt.lt
  have g1 : W.grownBy ((W.alloc (.cells #[.int .i64 x, .int .i64 y, .int .i64 z] 3)).alloc (.cells #[.slice (some ⟨W.heap.size, 0, none⟩) 3 3] 23)) none :=
    (World.grownBy_alloc W _ none).trans (World.grownBy_alloc _ _ _)
  have hrow : ((W.alloc (.cells #[.int .i64 x, .int .i64 y, .int .i64 z] 3)).alloc (.cells #[.slice (some ⟨W.heap.size, 0, none⟩) 3 3] 23)).ownsRow (w.heap.size + 1) 3 1 (.slice (some ⟨W.heap.size, 0, none⟩) [x, y, z].length 3) [x, y, z].length ([x, y, z].map iv) :=
    (World.ownsRow_lit (base := w.heap.size + 1) (e := 3) (size := 1) W #[.int .i64 x, .int .i64 y, .int .i64 z] 3 hxl (by unfold maxLen; omega) rfl).alloc _
  have hb1 : Below w.heap.size w ((W.alloc (.cells #[.int .i64 x, .int .i64 y, .int .i64 z] 3)).alloc (.cells #[.slice (some ⟨W.heap.size, 0, none⟩) 3 3] 23)) := by
    have hA := h.hb.alloc hs (.cells #[.int .i64 x, .int .i64 y, .int .i64 z] 3)
    exact hA.alloc hA.size _
  have hne : ∀ k, blk ao = some k → w.heap.size + 1 ≤ k := fun k hk => (h.ss.blkO hk).1
  have hb3 : Below w.heap.size w W3 := hb1.grown hg hb1.size (fun k e => by have := hne k e; omega)
  refine ⟨hb3, ?_, hrw.below hb3 (Nat.le_refl _), h.ss.push g1 hrow (Nat.le_refl _) hg ho⟩
  exact (h.xt.grown g1 (by simp)).grown hg (fun e => by have := hne _ e; omega)

end Go.Proofs.Yteegbkbphfmooaa
