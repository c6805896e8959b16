/-
  A slice that lies behind the beginning of a block of the call's own (a queue, of which the head has been cut off): what is known of it; the tail; an append. No conditions but those named.
-/
import Derived.Test.YteiadhfjpohmdaaWa
import Derived.OwnWalkIn
import Derived.Laws.AppendOwn
namespace Go.Proofs.Yteiadhfjpohmdaa
open Go.ChangeShapes Go.WideShapes Go.ChangeAt Go.RowKit
set_option linter.unusedVariables false

structure OwnT (w : World) (B : Nat) (e : TypeId) (size g off n cap : Nat) (xs : List Value) : Prop where
  len : xs.length = n * size
  low : B ≤ g
  nc : n ≤ cap
  cm : cap ≤ maxLen
  row : ∃ cur : Array Value, w.heap[g]? = some (.cells cur e (0, 0)) ∧ off + cap * size ≤ cur.size ∧ (cur.toList.drop off).take (n * size) = xs
section
variable {w w2 : World} {B : Nat} {e : TypeId} {size g off n cap : Nat} {xs : List Value}
theorem OwnT.lt (h : OwnT w B e size g off n cap xs) : g < w.heap.size := by
  obtain ⟨cur, hg, _⟩ := h.row
  exact (Array.getElem?_eq_some_iff.1 hg).1
theorem OwnT.kept (h : OwnT w B e size g off n cap xs) (hg : w2.heap[g]? = w.heap[g]?) : OwnT w2 B e size g off n cap xs := by
  obtain ⟨cur, h1, h2⟩ := h.row
  exact ⟨h.len, h.low, h.nc, h.cm, cur, hg.trans h1, h2⟩
theorem OwnT.cell (h : OwnT w B e size g off n cap xs) (j : Nat) (u : Value) (hu : xs[j]? = some u) : w.cell? ⟨g, off + j, none⟩ = some u := by
  obtain ⟨cur, hg, hs, ht⟩ := h.row
  rw [cell_of_row w g (off + j) cur e (0, 0) hg]
  rw [← ht, List.getElem?_take] at hu
  split at hu
  · rw [List.getElem?_drop] at hu
    simpa using hu
  · cases hu
theorem OwnT.tail (h : OwnT w B e size g off (n + 1) (cap + 1) xs) : OwnT w B e size g (off + size) n cap (xs.drop size) := by
  obtain ⟨cur, hg, hs, ht⟩ := h.row
  refine ⟨by rw [List.length_drop, h.len, Nat.succ_mul]; omega, h.low, by have := h.nc; omega, by have := h.cm; omega, cur, hg, by rw [Nat.succ_mul] at hs; omega, ?_⟩
  rw [← ht, List.drop_take, List.drop_drop, Nat.succ_mul]
  congr 1
  omega
/-- .. where nothing is left: the address stays. -/
theorem OwnT.gone (h : OwnT w B e size g off 1 1 xs) : OwnT w B e size g off 0 0 (xs.drop size) := by
  obtain ⟨cur, hg, hs, ht⟩ := h.row
  refine ⟨by rw [List.length_drop, h.len]; simp, h.low, Nat.le_refl _, Nat.zero_le _, cur, hg, by omega, ?_⟩
  rw [Nat.zero_mul, List.take_zero]
  symm
  rw [List.drop_eq_nil_iff, h.len]; simp
end
theorem add_off (g off j : Nat) : (⟨g, off, none⟩ : Addr).add j = ⟨g, off + j, none⟩ := by unfold Addr.add; split <;> simp_all
section
variable {P : Program} (w : World)
theorem run_append_off (t ty e : TypeId) (i : TypeInfo) (ht : P.underlying t = some (.slice e)) (hi : P.info? e = some i)
    (g off sLen sCap : Nat) (cur : Array Value) (hg : w.heap[g]? = some (.cells cur e (0, 0)))
    (a : Addr) (m c : Nat) (news : List Value) (hl : news.length = m * i.size) (hnews : ∀ j u, news[j]? = some u → w.cell? (a.add j) = some u) (h1 : ∀ u ∈ news, u.oneCell' = true)
    (hroom : sLen + m ≤ sCap) (hfit : off + sLen * i.size + news.length ≤ cur.size) :
    (Builtin.append_ #[t, t] ty #[.slice (some ⟨g, off, none⟩) sLen sCap, .slice (some a) m c]).run P w =
      .ok (.slice (some ⟨g, off, none⟩) (sLen + m) sCap) (w.setRow g (cur.toList.take (off + sLen * i.size) ++ news ++ cur.toList.drop (off + sLen * i.size + news.length)).toArray) := by
  have hf := run_firstCells_some (P := P) w i.size m a m c news hl hnews
  have hst := run_storeCells_at P g (off + sLen * i.size) e news 0 cur w hg (by simpa using hfit) h1
  simp only [Nat.add_zero] at hst
  simp [Builtin.append_, run_underlying ht, sizeOf, typeInfo, hi, Builtin.lenOf, hroom, hf, add_off, hst]
theorem run_append_tail (B : Nat) (t ty e : TypeId) (i : TypeInfo) (z : Value) (size bytes : Nat) (ht : P.underlying t = some (.slice e)) (hi : P.info? e = some i) (hz : i.zero = some z)
    (hsize : i.size = size) (hby : i.bytes = bytes) (hzs : z.cells.size = size) (hsz : 0 < size)
    (g off n cap : Nat) (xs : List Value) (hown : OwnT w B e size g off n cap xs)
    (a : Addr) (m c : Nat) (news : List Value) (hl : news.length = m * size) (hnews : ∀ j u, news[j]? = some u → w.cell? (a.add j) = some u) (h1 : ∀ u ∈ news, u.oneCell' = true)
    (h63 : n + m ≤ maxLen) (hbytes : (n + m) * bytes ≤ 140737488355328) (hbase : B ≤ w.heap.size) :
    ∃ g2 off2 cap2 w2, (Builtin.append_ #[t, t] ty #[.slice (some ⟨g, off, none⟩) n cap, .slice (some a) m c]).run P w = .ok (.slice (some ⟨g2, off2, none⟩) (n + m) cap2) w2 ∧ OwnT w2 B e size g2 off2 (n + m) cap2 (xs ++ news) ∧ (w.grownBy w2 none ∨ (n + m ≤ cap ∧ w.grownBy w2 (some g))) := by
  subst hsize
  subst hby
  have hlen : (xs ++ news).length = (n + m) * i.size := by rw [List.length_append, hown.len, hl, Nat.add_mul]
  obtain ⟨cur, hg, hcs, htake⟩ := hown.row
  by_cases hroom : n + m ≤ cap
  · have hmul : (n + m) * i.size ≤ cap * i.size := Nat.mul_le_mul_right _ hroom
    rw [Nat.add_mul] at hmul
    have hfit : off + n * i.size + news.length ≤ cur.size := by rw [hl]; omega
    have hr := run_append_off (P := P) w t ty e i ht hi g off n cap cur hg a m c news hl hnews h1 hroom hfit
    refine ⟨_, _, _, _, hr, ⟨hlen, hown.low, hroom, hown.cm, _, setRow_heap w g cur _ e _ hg, ?_, ?_⟩, Or.inr ⟨hroom, ⟨rfl, rfl, rfl, by simp, fun k _ hk => setRow_other w g k _ (fun e => hk (by rw [e]))⟩⟩⟩
    · simp only [List.size_toArray, List.length_append, List.length_take, List.length_drop, Array.length_toList]
      omega
    · have e1 : (cur.toList.take (off + n * i.size)).drop off = xs := by
        rw [← htake, List.drop_take]; congr 1; omega
      have e2 : off ≤ (cur.toList.take (off + n * i.size)).length := by
        rw [List.length_take, Array.length_toList]; omega
      show List.take ((n + m) * i.size) (List.drop off (cur.toList.take (off + n * i.size) ++ news ++ cur.toList.drop (off + n * i.size + news.length))) = xs ++ news
      rw [List.append_assoc, List.drop_append_of_le_length e2, e1, ← List.append_assoc, ← hlen]
      exact List.take_left
  · have holds : ∀ j u, xs[j]? = some u → w.cell? ((⟨g, off, none⟩ : Addr).add j) = some u := fun j u hu => by rw [add_off]; exact hown.cell j u hu
    have hr := run_append_grow (P := P) w t ty e i z ht hi hz ⟨g, off, none⟩ n cap xs hown.len holds a m c news hl hnews (by omega) (by simp only [maxLen] at h63; omega) (growslice_fits (by omega) hbytes)
    have hge := grownCap_ge w (n + m) cap e
    have hcm : grownCap w (n + m) cap e ≤ maxLen := grownCap_le_maxLen w (n + m) cap e h63
    refine ⟨_, _, _, _, hr, ⟨hlen, hbase, hge, hcm, _, heap_alloc_new w.drew _, ?_, ?_⟩, Or.inl ⟨rfl, rfl, rfl, by simp, fun k hk _ => (World.grownBy_alloc w.drew _ none).block k hk (by simp)⟩⟩
    · simp only [Array.size_append, List.size_toArray, size_zeroCells, hzs, hown.len, hl, ← Nat.add_mul]
      have : n + m + (grownCap w (n + m) cap e - (n + m)) = grownCap w (n + m) cap e := by omega
      rw [this]; omega
    · simp only [List.drop_zero, Array.toList_append, List.append_assoc]
      rw [← List.append_assoc, ← hlen]
      exact List.take_left
end
/-- The append, for a fenced walk. -/
theorem wpListIn_append_tail {F : Fence} {nF : Nat} {P : Program} (w : World) {ops : Array Oper} {rest : List Oper} {o : Oper} {a : Act} {Q : Exit → Act → World → Prop}
    (hg : o.guard = none) (s x : Operand) (t : TypeId) (hop : o.op = Op.call { callee := Callee.builtin Builtin.append, args := #[s, x], argTypes := #[t, t] })
    (B : Nat) (e : TypeId) (i : TypeInfo) (z : Value) (size bytes : Nat) (h1 : P.underlying t = some (.slice e)) (h2 : P.info? e = some i) (h3 : i.zero = some z) (h4 : i.size = size) (h5 : i.bytes = bytes) (h6 : z.cells.size = size) (h7 : 0 < size)
    (g off n cap : Nat) (xs : List Value) (hs : a.eval s = .slice (some ⟨g, off, none⟩) n cap) (hown : OwnT w B e size g off n cap xs) (ad : Addr) (m c : Nat) (news : List Value) (hx : a.eval x = .slice (some ad) m c) (hn : news.length = m * size)
    (hc : ∀ j u, news[j]? = some u → w.cell? (ad.add j) = some u) (h1c : ∀ u ∈ news, u.oneCell' = true) (b1 : n + m ≤ maxLen) (b2 : (n + m) * bytes ≤ 140737488355328) (b3 : B ≤ w.heap.size)
    (hK : ∀ g2 off2 cap2 w2, OwnT w2 B e size g2 off2 (n + m) cap2 (xs ++ news) → (w.grownBy w2 none ∨ (n + m ≤ cap ∧ w.grownBy w2 (some g))) → wpListIn F nF P ops Q rest (a.put o.dst (.slice (some ⟨g2, off2, none⟩) (n + m) cap2)) w2) :
    wpListIn F nF P ops Q (o :: rest) a w := by
  refine wpListIn_plain hg fun K hK2 => ?_
  obtain ⟨g2, off2, cap2, w2, hrun, r1, r2⟩ := run_append_tail (P := P) w B t o.type e i z size bytes h1 h2 h3 h4 h5 h6 h7 g off n cap xs hown ad m c news hn hc h1c b1 b2 b3
  unfold Oper.wpIn
  refine ⟨?_, ?_⟩
  · simp [Oper.about, hop, resolve, Target.leads, Sem.run_pure]
  · rw [Oper.semAt_plain F _ _ (by rw [hop]; intro c hc2; cases hc2)]
    simp [execOp, hop, resolve, invoke, builtin, hs, hx, hrun, Result.andThen]
    exact hK2 _ _ (hK g2 off2 cap2 w2 r1 r2)
end Go.Proofs.Yteiadhfjpohmdaa
