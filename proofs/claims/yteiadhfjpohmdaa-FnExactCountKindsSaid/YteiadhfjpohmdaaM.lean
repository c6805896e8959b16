/-
  'TurnTour' of the program: every game the other way round. No conditions but the bounds that Go gives a slice.
-/
import Derived.Test.YteiadhfjpohmdaaL
import Derived.Test.YteiadhfjpohmdaaI
namespace Go.Proofs.Yteiadhfjpohmdaa
open Go.ChangeShapes Go.WideShapes Go.ChangeAt Go.RowKit Go.Shelf
attribute [local go_sem] Oper.semAt_some
set_option linter.unusedVariables false

set_option maxHeartbeats 400000 in
theorem addWin_g (B g m cap i j : Nat) (ys : List Nat) (w : World) (hm : m ≤ 64) (hi : i < m) (hj : j ≤ 8) (hy : ∀ y ∈ ys, y < 256) (hB : B ≤ w.heap.size)
    (hown : w.ownsRow B 3 1 (.slice (some ⟨g, 0, none⟩) m cap) m (ys.map nv)) :
    Calls Try.prog 82 #[.agg #[.int .i64 m, .slice (some ⟨g, 0, none⟩) m cap], .int .i64 i, .int .i64 j] w fun e w' => (∃ v, e = .returned v) ∧ w'.ownsRow B 3 1 (.slice (some ⟨g, 0, none⟩) m cap) m ((ys.set i (ys.getD i 0 ||| 2 ^ j)).map nv) ∧ Below B w w' ∧ w.grownBy w' (some g) := by
  have hlen : ys.length = m := by simpa using hown.1
  have hgB := (hown.lt g rfl).1
  have hgl := (hown.lt g rfl).2
  have hown1 := hown.alloc (.cells #[.int .i64 m, .slice (some ⟨g, 0, none⟩) m cap] 27)
  obtain ⟨y, hyy⟩ : ∃ y, y = ys.getD i 0 := ⟨_, rfl⟩
  have hy256 : y < 256 := by rw [hyy, List.getD_eq_getElem?_getD, List.getElem?_eq_getElem (by omega)]; exact hy _ (List.getElem_mem _)
  have hc := hown1.cellAt i (by omega)
  rw [List.getElem?_map, show ys[i]? = some y by rw [hyy, List.getD_eq_getElem?_getD, List.getElem?_eq_getElem (by omega)]; rfl] at hc
  have hc' : (w.alloc (.cells #[.int .i64 (m : Int), .slice (some ⟨g, 0, none⟩) m cap] 27)).cell? ⟨g, i, none⟩ = some (.int .i64 (y : Int)) := hc
  have hf := hown1.frozenAt i
  have hp8 := pow_le j hj
  have hor : bits .or .i64 (y : Int) (wrap64 (2 ^ j)) = ((y ||| 2 ^ j : Nat) : Int) := by rw [wrapPow j hj]; exact i64_or _ _ (by omega) (by omega)
  have hst := (hown.stored i (nv (y ||| 2 ^ j))).1
  have hgr0 := (hown.stored i (nv (y ||| 2 ^ j))).2
  rw [show ((ys.map nv).set i (nv (y ||| 2 ^ j))) = (ys.set i (ys.getD i 0 ||| 2 ^ j)).map nv by rw [← hyy, List.map_set]] at hst
  obtain ⟨z, hz⟩ : ∃ z : Int, z = ((y ||| 2 ^ j : Nat) : Int) := ⟨_, rfl⟩
  have hst2 : (w.setCell ⟨g, i, none⟩ (.int .i64 z)).ownsRow B 3 1 (.slice (some ⟨g, 0, none⟩) m cap) m ((ys.set i (ys.getD i 0 ||| 2 ^ j)).map nv) := by rw [hz]; exact hst
  rw [← hz] at hor
  have hgr : w.grownBy (w.setCell ⟨g, i, none⟩ (.int .i64 z)) (some g) := by rw [hz]; exact hgr0
  have HG := Lib.hid hgr
  have HS := Lib.hid hst2
  have him : (i : Int) < (m : Int) := by omega
  clear hst hst2 hc hown hown1 hy hyy hz hgr hgr0
  go_enter Try.func82, Try.ntmps82
  go_wp2
  go_region
  all_goals
    go_wp2
    go_end0
    exact ⟨⟨_, rfl⟩, (HS.out.alloc (.cells #[.int .i64 m, .slice (some ⟨g, 0, none⟩) m cap] 27)).drew, (((Below.refl B w).setCell (p := ⟨g, i, none⟩) hgB _).alloc (by simpa using hB) _).drew, (HG.out.trans (World.grownBy_alloc _ (.cells #[.int .i64 m, .slice (some ⟨g, 0, none⟩) m cap] 27) _)).trans ⟨rfl, rfl, rfl, Nat.le_refl _, fun _ _ _ => rfl⟩⟩


theorem games_any (n : Int) (a : Option Addr) (len cap : Nat) (w : World) : Calls Try.prog 107 #[.agg #[.int .i64 n, .slice a len cap]] w fun e w' => e = .returned (.func (.func 149) #[] #[.pointer (some ⟨w.heap.size, 0, none⟩)]) ∧ w' = w.alloc (.cells #[.int .i64 n, .slice a len cap] 27) := by
  go_enter Try.func107, Try.ntmps107
  go_wp2
  go_ret
  exact ⟨rfl, rfl⟩

/-- Rows and boxes abide the turn of whatever is no cells. -/
theorem own_abides {W W' : World} {row : Option Nat} {B g n c : Nat} {xs : List Value} (h : W.ownsRow B 3 1 (.slice (some ⟨g, 0, none⟩) n c) n xs) (hg : W.grownBy W' row) (hr : ∀ r, row = some r → ∃ o : Obj, W.heap[r]? = some o ∧ o.isCells = false) : W'.ownsRow B 3 1 (.slice (some ⟨g, 0, none⟩) n c) n xs := by
  refine own_grown h hg (fun k hk e => ?_)
  obtain ⟨o, ho, hc⟩ := hr k e
  have hkg : k = g := by simp [blk] at hk; omega
  subst hkg
  rcases h.2 with ⟨h', _⟩ | ⟨g', cap', cur, h', _, hgg, _⟩
  · simp at h'
  · simp only [Value.slice.injEq, Option.some.injEq, Addr.mk.injEq, and_true, true_and] at h'
    obtain ⟨rfl, _⟩ := h'
    rw [hgg] at ho; cases ho; cases hc
theorem Box.abides {W W' : World} {row : Option Nat} {p : Nat} {t : TypeId} {v0 v1 : Value} (h : Box W p t v0 v1) (hg : W.grownBy W' row) (hr : ∀ r, row = some r → ∃ o : Obj, W.heap[r]? = some o ∧ o.isCells = false) : Box W' p t v0 v1 := by
  refine h.grown hg (fun e => ?_)
  obtain ⟨o, ho, hc⟩ := hr p e
  unfold Box at h
  rw [h] at ho; cases ho; cases hc

/-- The rows while the games come in. -/
def turnStep {m : Nat} (ys : List Nat) (x : Pl m) : List Nat := ys.set x.2.val (ys.getD x.2.val 0 ||| 2 ^ x.1.val)
def turnF {m : Nat} (pre : List (Pl m)) : List Nat := pre.foldl turnStep (List.replicate m 0)
theorem turnF_snoc {m : Nat} (pre : List (Pl m)) (x : Pl m) : turnF (pre ++ [x]) = turnStep (turnF pre) x := by simp [turnF]
theorem or_lt256 (a j : Nat) (ha : a < 256) (hj : j < 8) : a ||| 2 ^ j < 256 := by
  have h2 : a < 2 ^ 8 := ha
  have h3 : 2 ^ j < 2 ^ 8 := Nat.pow_lt_pow_right (by decide) hj
  exact Nat.or_lt_two_pow h2 h3
theorem getD_lt256 (ys : List Nat) (i : Nat) (h : ∀ y ∈ ys, y < 256) : ys.getD i 0 < 256 := by
  rw [List.getD_eq_getElem?_getD]
  rcases Nat.lt_or_ge i ys.length with hi | hi
  · rw [List.getElem?_eq_getElem hi]; exact h _ (List.getElem_mem _)
  · rw [List.getElem?_eq_none hi]; decide
theorem turnStep_lt {m : Nat} (hm : m ≤ 8) (ys : List Nat) (x : Pl m) (h : ∀ y ∈ ys, y < 256) : ∀ y ∈ turnStep ys x, y < 256 := by
  intro y hy
  rcases List.mem_or_eq_of_mem_set hy with h1 | h1
  · exact h y h1
  · rw [h1]; exact or_lt256 _ _ (getD_lt256 ys _ h) (by have := x.1.isLt; omega)
theorem turnF_lt {m : Nat} (hm : m ≤ 8) (pre : List (Pl m)) : ∀ y ∈ turnF pre, y < 256 := by
  have : ∀ (L : List (Pl m)) (ys : List Nat), (∀ y ∈ ys, y < 256) → ∀ y ∈ L.foldl turnStep ys, y < 256 := by
    intro L
    induction L with
    | nil => exact fun ys h => h
    | cons x L ih => exact fun ys h => ih _ (turnStep_lt hm ys x h)
  exact this pre _ (by intro y hy; simp at hy; omega)

noncomputable def turnN (n : Int) (l : List Int) : Int := if okB n l then n else 0
noncomputable def turnR (n : Int) (l : List Int) : List Int := if okB n l then (turnF (gamesL l.length l)).map Int.ofNat else []

end Go.Proofs.Yteiadhfjpohmdaa
