/-
  Both 'FlipGame'. No conditions but the bounds that Go gives a slice.
-/
import Derived.Test.YtmeojedfokahmaaG
import Derived.Laws.CopyOwn
namespace Go.Proofs.Ytmeojedfokahmaa
open Go.ChangeShapes Go.WideShapes Go.ChangeAt Go.RowKit
set_option linter.unusedVariables false

theorem Ok.nats {n : Int} {l : List Int} (h : Ok n l) : ∃ ws : List Nat, l = ws.map Int.ofNat ∧ (∀ y ∈ ws, y < 2 ^ l.length ∧ y < 256) := by
  refine ⟨l.map Int.toNat, ?_, ?_⟩
  · apply List.ext_getElem
    · simp
    · intro i h1 h2
      obtain ⟨x, hx, _⟩ := h.nat h1
      rw [List.getD_eq_getElem?_getD, List.getElem?_eq_getElem h1] at hx
      have hx' : l[i] = (x : Int) := hx
      simp [hx']
  · intro y hy
    obtain ⟨i, hi, rfl⟩ := List.getElem_of_mem hy
    have hi' : i < l.length := by simpa using hi
    obtain ⟨x, hx, h1, h2⟩ := h.nat hi'
    rw [List.getD_eq_getElem?_getD, List.getElem?_eq_getElem hi'] at hx
    have hx' : l[i] = (x : Int) := hx
    simp [hx']
    exact ⟨h1, h2⟩

/-- One bit of one number turned. -/
def flipAt (ys : List Nat) (i j : Nat) : List Nat := ys.set i (ys.getD i 0 ^^^ 2 ^ j)
theorem flipAt_len (ys : List Nat) (i j : Nat) : (flipAt ys i j).length = ys.length := by simp [flipAt]
theorem flipAt_lt (ys : List Nat) (i j : Nat) (hj : j < 8) (h : ∀ y ∈ ys, y < 256) : ∀ y ∈ flipAt ys i j, y < 256 := by
  intro y hy
  rcases List.mem_or_eq_of_mem_set hy with h1 | h1
  · exact h y h1
  · rw [h1]
    have h2 : ys.getD i 0 < 2 ^ 8 := by
      rw [List.getD_eq_getElem?_getD]
      rcases Nat.lt_or_ge i ys.length with hi | hi
      · rw [List.getElem?_eq_getElem hi]; exact h _ (List.getElem_mem _)
      · rw [List.getElem?_eq_none hi]; decide
    have h3 : 2 ^ j < 2 ^ 8 := Nat.pow_lt_pow_right (by decide) hj
    exact Nat.xor_lt_two_pow h2 h3
def flipL (l : List Int) (p q : Nat) : List Int := (flipAt (flipAt (l.map Int.toNat) p q) q p).map Int.ofNat
noncomputable def flipB (n : Int) (l : List Int) (p q : Int) : Bool := okB n l && pl n p && pl n q && !(p == q)
noncomputable def flipR (n : Int) (l : List Int) (p q : Int) : List Int := if flipB n l p q then flipL l p.toNat q.toNat else []
noncomputable def flipN (n : Int) (l : List Int) (p q : Int) : Int := if flipB n l p q then n else 0

theorem own_setRow {w : World} {B g n : Nat} {xs ys : List Value} (h : w.ownsRow B 3 1 (.slice (some ⟨g, 0, none⟩) n n) n xs) (hy : ys.length = n) : (w.setRow g ys.toArray).ownsRow B 3 1 (.slice (some ⟨g, 0, none⟩) n n) n ys := by
  rcases h.2 with ⟨h', _⟩ | ⟨g', cap', cur, h', hb, hg, hnc, hcm, hcs, htake⟩
  · simp at h'
  · simp only [Value.slice.injEq, Option.some.injEq, Addr.mk.injEq, and_true, true_and] at h'
    obtain ⟨rfl, rfl⟩ := h'
    refine ⟨by simpa using hy, .inr ⟨g, n, ys.toArray, rfl, hb, ?_, hnc, hcm, by simpa using hy, by simp [← hy]⟩⟩
    exact setRow_heap w g cur _ 3 _ hg

theorem row_heap {w : World} {B g n : Nat} {xs : List Value} (h : w.ownsRow B 3 1 (.slice (some ⟨g, 0, none⟩) n n) n xs) : w.heap[g]? = some (.cells xs.toArray 3 (0, 0)) := by
  rcases h.2 with ⟨h', _⟩ | ⟨g', cap', cur, h', hb, hg, hnc, hcm, hcs, htake⟩
  · simp at h'
  · simp only [Value.slice.injEq, Option.some.injEq, Addr.mk.injEq, and_true, true_and] at h'
    obtain ⟨rfl, rfl⟩ := h'
    rw [hg, ← htake]
    have : cur.toList.take (n * 1) = cur.toList := by rw [Nat.mul_one]; apply List.take_of_length_le; simp; omega
    rw [this]
theorem row_src {w : World} {ca : Addr} {l : List Int} (h : IntRow w (some ca) l) : ∀ j v, (l.map iv)[j]? = some v → w.cell? (ca.add j) = some v := by
  intro j v hj
  have hjl : j < l.length := by
    rcases Nat.lt_or_ge j l.length with h' | h'
    · exact h'
    · simp [List.getElem?_eq_none h'] at hj
  obtain ⟨b, off, he, _, hc⟩ := h.at hjl
  simp only [Option.some.injEq] at he
  subst he
  have e : (⟨b, off, none⟩ : Addr).add j = ⟨b, off + j, none⟩ := by
    unfold Addr.add; split <;> simp_all
  rw [e, hc]
  simp [List.getElem?_eq_getElem hjl] at hj
  rw [List.getD_eq_getElem?_getD, List.getElem?_eq_getElem hjl, ← hj]
  rfl
/-- 'copy' of a whole row into one of the call's own that is as long. -/
theorem wpList_copy_all {w : World} {ops : Array Oper} {rest : List Oper} {o : Oper} {a : Act} {Q : Exit → Act → World → Prop} (hgd : o.guard = none) (d s : Operand)
    (ho : o.op = .call { callee := .builtin .copy, args := #[d, s], argTypes := #[23, 23] }) (B g n cap : Nat) (ad : Addr) (xs ys : List Value)
    (hd : a.eval d = .slice (some ⟨g, 0, none⟩) n n) (hs : a.eval s = .slice (some ad) n cap) (hown : w.ownsRow B 3 1 (.slice (some ⟨g, 0, none⟩) n n) n xs) (hy : ys.length = n)
    (hsrc : ∀ j v, ys[j]? = some v → w.cell? (ad.add j) = some v) (h1 : ∀ v ∈ ys, v.oneCell' = true)
    (h : ∀ w', w'.ownsRow B 3 1 (.slice (some ⟨g, 0, none⟩) n n) n ys → w.grownBy w' (some g) → Below B w w' → wpList Try.prog ops Q rest (a.put o.dst (goInt n)) w') : wpList Try.prog ops Q (o :: rest) a w := by
  have hg := row_heap hown
  have hx : xs.length = n := by simpa using hown.1
  refine wpList_copy_own hgd d s 23 23 ho 3 Try.underlying23 (by kernel_rfl) g 0 n n ad n cap hd hs xs.toArray 3 hg ys (by rw [hy]; exact (Nat.min_self n).symm) hsrc (by simp; omega) h1 ?_
  have e : (xs.toArray.toList.take 0 ++ (ys ++ xs.toArray.toList.drop (0 + ys.length))).toArray = ys.toArray := by
    rw [show xs.toArray.toList.drop (0 + ys.length) = [] from List.drop_eq_nil_of_le (by simp; omega)]; simp
  rw [e, hy]
  exact h _ (own_setRow hown hy) ⟨rfl, rfl, rfl, by simp [World.setRow], fun k _ hk => setRow_other w g k _ (fun e => hk (by rw [e]))⟩
    (below_setRow (Below.refl B w) (hown.lt g rfl).1 _)
/-- A row's cell that is met by '^='. -/
theorem flip_at {w : World} {B g m cap i j : Nat} {ys : List Nat} (hm : m ≤ 64) (hi : i < m) (hj : j < 8) (hy : ∀ y ∈ ys, y < 256)
    (hown : w.ownsRow B 3 1 (.slice (some ⟨g, 0, none⟩) m cap) m (ys.map nv)) :
    ∃ x z : Int, w.cell? ⟨g, i, none⟩ = some (.int .i64 x) ∧ w.frozen? ⟨g, i, none⟩ = false ∧ bits .xor .i64 x (wrap64 (2 ^ j)) = z ∧
      (w.setCell ⟨g, i, none⟩ (.int .i64 z)).ownsRow B 3 1 (.slice (some ⟨g, 0, none⟩) m cap) m ((flipAt ys i j).map nv) := by
  have hlen : ys.length = m := by simpa using hown.1
  have hy256 : ys.getD i 0 < 256 := by rw [List.getD_eq_getElem?_getD, List.getElem?_eq_getElem (by omega)]; exact hy _ (List.getElem_mem _)
  have hc := hown.cellAt i (by omega)
  rw [List.getElem?_map, show ys[i]? = some (ys.getD i 0) by rw [List.getD_eq_getElem?_getD, List.getElem?_eq_getElem (by omega)]; rfl] at hc
  have hp8 := pow_le j (by omega)
  refine ⟨(ys.getD i 0 : Nat), ((ys.getD i 0 ^^^ 2 ^ j : Nat) : Int), hc, hown.frozenAt i, ?_, ?_⟩
  · rw [wrapPow j (by omega)]; exact i64_xor _ _ (by omega) (by omega)
  · have := (hown.stored i (nv (ys.getD i 0 ^^^ 2 ^ j))).1
    rw [← List.map_set] at this
    exact this
theorem flip_tail (ws : List Nat) (l : List Int) (h : l = ws.map Int.ofNat) (i j : Nat) : ((flipAt (flipAt ws i j) j i).map nv) = (flipL l i j).map iv ∧ (flipL l i j).length = l.length := by
  subst h
  constructor
  · have e : (ws.map Int.ofNat).map Int.toNat = ws := by simp [List.map_map, Function.comp_def]
    unfold flipL; rw [nv_iv, e]
  · simp [flipL, flipAt_len]

end Go.Proofs.Ytmeojedfokahmaa
