/-
  Both 'CountDifferent', both 'SameTour'. No conditions but the bounds that Go gives a slice.
-/
import Derived.Test.YtgjogbihadiojaaO
namespace Go.Proofs.Ytgjogbihadiojaa
open Go.ChangeShapes Go.WideShapes Go.ChangeAt Go.RowKit Go.Shelf
attribute [local go_sem] Oper.semAt_some
set_option linter.unusedVariables false

/-- The elements of the one set that are not of the other. -/
def andn (x y : Nat) : Nat := x ^^^ (x &&& y)
theorem andn_bit (x y b : Nat) : (andn x y).testBit b = (x.testBit b && !y.testBit b) := by
  unfold andn
  rw [Nat.testBit_xor, Nat.testBit_and]
  cases x.testBit b <;> cases y.testBit b <;> rfl
theorem andn_lt (x y : Nat) (hx : x < 256) : andn x y < 256 := by
  have h1 : x < 2 ^ 8 := hx
  exact Nat.xor_lt_two_pow h1 (Nat.lt_of_le_of_lt Nat.and_le_left h1)
theorem i64_andNot (x y : Nat) (hx : x < 2 ^ 62) (hy : y < 2 ^ 62) : bits .andNot .i64 (x : Int) (y : Int) = ((andn x y : Nat) : Int) := by
  have e : BitVec.ofInt 64 (x : Int) &&& ~~~(BitVec.ofInt 64 (y : Int)) = BitVec.ofInt 64 (x : Int) ^^^ (BitVec.ofInt 64 (x : Int) &&& BitVec.ofInt 64 (y : Int)) := by
    apply BitVec.eq_of_getLsbD_eq
    intro i hi
    simp only [BitVec.getLsbD_and, BitVec.getLsbD_not, BitVec.getLsbD_xor, hi, decide_true, Bool.true_and]
    cases (BitVec.ofInt 64 (x : Int)).getLsbD i <;> cases (BitVec.ofInt 64 (y : Int)).getLsbD i <;> rfl
  show IntKind.i64.wrap ((BitVec.ofInt 64 x &&& ~~~(BitVec.ofInt 64 y)).toNat : Nat) = _
  rw [e, BitVec.toNat_xor, BitVec.toNat_and, ofInt_small x hx, ofInt_small y hy]
  have : x ^^^ (x &&& y) < 2 ^ 62 := Nat.xor_lt_two_pow hx (Nat.lt_of_le_of_lt Nat.and_le_left hx)
  exact wrap_small _ this

theorem pc_count (x : Nat) (hx : x < 256) : pc x = (List.range 8).countP fun b => x.testBit b := by
  have : ∀ y : Fin 256, pc y.val = (List.range 8).countP fun b => y.val.testBit b := by decide +kernel
  exact this ⟨x, hx⟩
theorem count_fin (m : Nat) (hm : m ≤ 8) (p : Nat → Bool) (hp : ∀ b, m ≤ b → p b = false) : (List.range 8).countP p = (List.finRange m).countP fun b => p b.val := by
  have e2 : (List.finRange m).map Fin.val = List.range m := List.ext_getElem (by simp) (by intro i h1 h2; simp)
  have : (8 : Nat) = m + (8 - m) := by omega
  rw [this, List.range_add, List.countP_append, ← e2, List.countP_map]
  rw [show (List.map (m + ·) (List.range (8 - m))).countP p = 0 from by
    rw [List.countP_eq_zero]
    intro b hb
    obtain ⟨c, _, rfl⟩ := List.mem_map.1 hb
    rw [hp _ (by omega)]; simp]
  rfl

/-- How many of the games are the other way round in u. -/
def cntF {m : Nat} (lu : List Int) (L : List (Pl m)) : Nat := L.countP fun x => bt lu x.2.val x.1.val
theorem cntF_snoc {m : Nat} (lu : List Int) (L : List (Pl m)) (x : Pl m) : cntF lu (L ++ [x]) = cntF lu L + (if bt lu x.2.val x.1.val then 1 else 0) := by simp [cntF, List.countP_append, List.countP_cons]
def dTo (l lu : List Int) : Nat → Nat
  | 0 => 0
  | k + 1 => dTo l lu k + pc (andn (l.getD k 0).toNat (lu.getD k 0).toNat)
theorem dTo_le (l lu : List Int) : ∀ k, dTo l lu k ≤ 8 * k
  | 0 => Nat.le_refl _
  | k + 1 => by have := dTo_le l lu k; have := pc_le (andn (l.getD k 0).toNat (lu.getD k 0).toNat); simp only [dTo]; omega
theorem dTo_games {n nu : Int} {l lu : List Int} (h : Ok n l) (hu : Ok nu lu) (hl : l.length = lu.length) : ∀ k, k ≤ l.length → cntF lu (gamesTo l.length l k) = dTo l lu k
  | 0, _ => rfl
  | k + 1, hk => by
    have ih := dTo_games h hu hl k (by omega)
    have hm : l.length ≤ 8 := by have := h.2.1; have := h.2.2.1; omega
    obtain ⟨x, hx, hx2, hx8⟩ := h.nat (i := k) (by omega)
    obtain ⟨y, hy, hy2, hy8⟩ := hu.nat (i := k) (by omega)
    rw [gamesTo_succ l.length l k (by omega)]
    unfold cntF at ih ⊢
    rw [List.countP_append, ih]
    simp only [dTo, hx, hy]
    congr 1
    show _ = pc (andn x y)
    rw [pc_count _ (andn_lt x y hx8), count_fin l.length hm _ (by
      intro b hb
      rw [andn_bit, Nat.testBit_lt_two_pow (Nat.lt_of_lt_of_le hx2 (Nat.pow_le_pow_right (by decide) hb))]; rfl)]
    unfold rowG losers
    rw [List.countP_map, List.countP_filter]
    apply List.countP_congr
    intro b _
    simp only [Function.comp, andn_bit]
    rw [bt_nat b.val hx]
    by_cases hbk : b.val = k
    · have hs := h.self (a := k) (by omega)
      rw [bt_nat k hx] at hs
      rw [hbk, hs]; simp
    · rw [hu.other (a := b.val) (b := k) (by have := b.isLt; omega) (by omega) hbk, bt_nat b.val hy]
      simp [Bool.and_comm]

theorem obj_abidesP {W W' : World} {row : Option Nat} {p : Nat} {o : Obj} (h : W.heap[p]? = some o) (hc : o.isCells = true) (hg : W.grownBy W' row) (hr : ∀ r, row = some r → ∃ o : Obj, W.heap[r]? = some o ∧ o.isCells = false) : W'.heap[p]? = some o := by
  refine (hg.block p (Array.getElem?_eq_some_iff.1 h).1 (fun e => ?_)).trans h
  obtain ⟨o', ho, hc'⟩ := hr p e.symm
  rw [h] at ho; cases ho; rw [hc] at hc'; cases hc'
theorem lt_of_heapP {W : World} {p : Nat} {o : Obj} (h : W.heap[p]? = some o) : p < W.heap.size := (Array.getElem?_eq_some_iff.1 h).1
theorem games_len (m : Nat) (l : List Int) : ∀ k, k ≤ m → (gamesTo m l k).length ≤ k * m
  | 0, _ => by simp [gamesTo]
  | k + 1, hk => by
    have ih := games_len m l k (by omega)
    have : (rowG m l ⟨k, hk⟩).length ≤ m := by
      simp only [rowG, losers, List.length_map]
      exact Nat.le_trans (List.length_filter_le _ _) (by simp)
    rw [gamesTo_succ m l k hk, List.length_append, Nat.succ_mul]
    omega

noncomputable def cdB (nt : Int) (lt : List Int) (nu : Int) (lu : List Int) : Bool := okB nt lt && okB nu lu && (nt == nu)
noncomputable def cdR (nt : Int) (lt : List Int) (nu : Int) (lu : List Int) : Int := if cdB nt lt nu lu then (dTo lt lu lt.length : Int) else -1
theorem cdR_range (nt : Int) (lt : List Int) (nu : Int) (lu : List Int) : -1 ≤ cdR nt lt nu lu ∧ cdR nt lt nu lu ≤ 64 := by
  unfold cdR
  cases h : cdB nt lt nu lu
  · simp
  · have hk : Ok nt lt := by unfold cdB at h; simp only [Bool.and_eq_true] at h; exact okB_iff.1 h.1.1
    have := dTo_le lt lu lt.length
    have := hk.2.1
    have := hk.2.2.1
    simp only [if_true]
    omega

end Go.Proofs.Ytgjogbihadiojaa
