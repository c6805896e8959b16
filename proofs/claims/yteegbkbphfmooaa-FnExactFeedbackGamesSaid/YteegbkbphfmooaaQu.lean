/-
  What the model's table of best orders holds (mathematics), and appends of one number. No conditions but the rows' bounds.
-/
import Derived.Test.YteegbkbphfmooaaQt
import Derived.Test.YteegbkbphfmooaaQi
import Derived.Test.YteegbkbphfmooaaJ0
namespace Go.Proofs.Yteegbkbphfmooaa
open Go.ChangeShapes Go.WideShapes Go.ChangeAt Go.RowKit Go.Sort
set_option linter.unusedVariables false

theorem tour_anti {m : Nat} {l : List Int} (hok : Ok m l) {a b : Nat} (ha : a < l.length) (hb : b < l.length) (hab : a ≠ b) : bt l b a = !bt l a b := by
  rcases Nat.lt_or_ge a b with h1 | h1
  · have := (hok.2.2.2 b hb).2.2 a h1
    unfold bt
    cases h3 : bi (l.getD a 0) b <;> cases h4 : bi (l.getD b 0) a <;> simp_all
  · have h2 : b < a := by omega
    have := (hok.2.2.2 a ha).2.2 b h2
    unfold bt
    cases h3 : bi (l.getD a 0) b <;> cases h4 : bi (l.getD b 0) a <;> simp_all
theorem i64_andNotQ (x y : Nat) (hx : x < 2 ^ 62) (hy : y < 2 ^ 62) : bits .andNot .i64 (x : Int) (y : Int) = ((x ^^^ (x &&& y) : Nat) : Int) := by
  have e : BitVec.ofInt 64 (x : Int) &&& ~~~(BitVec.ofInt 64 (y : Int)) = BitVec.ofInt 64 (x : Int) ^^^ (BitVec.ofInt 64 (x : Int) &&& BitVec.ofInt 64 (y : Int)) := by
    apply BitVec.eq_of_getLsbD_eq
    intro i hi
    simp only [BitVec.getLsbD_and, BitVec.getLsbD_not, BitVec.getLsbD_xor, hi, decide_true, Bool.true_and]
    cases (BitVec.ofInt 64 (x : Int)).getLsbD i <;> cases (BitVec.ofInt 64 (y : Int)).getLsbD i <;> rfl
  show IntKind.i64.wrap ((BitVec.ofInt 64 x &&& ~~~(BitVec.ofInt 64 y)).toNat : Nat) = _
  rw [e, BitVec.toNat_xor, BitVec.toNat_and, ofInt_small x hx, ofInt_small y hy]
  have : x ^^^ (x &&& y) < 2 ^ 62 := Nat.xor_lt_two_pow hx (Nat.lt_of_le_of_lt Nat.and_le_left hx)
  exact wrap_small _ this
theorem Rv.i64_andNotR (x y : Nat) (hx : x < 2 ^ 62) (hy : y < 2 ^ 62) : bits .andNot .i64 (x : Int) (y : Int) = ((x ^^^ (x &&& y) : Nat) : Int) := i64_andNotQ x y hx hy
/-- Those of a set who beat a player, as the model counts them. -/
theorem pc_first {m : Nat} {l : List Int} (hok : Ok m l) (hm : l.length = m) {a x : Nat} (ha : a < m) (hx : x < 256) (hin : ∀ b, x.testBit b = true → b < m) (hax : x.testBit a = false) :
    pc (x ^^^ (x &&& ww l a)) = (elems x).countP fun b => bt l b a := by
  have hz : x ^^^ (x &&& ww l a) < 256 := Nat.xor_lt_two_pow (n := 8) hx (Nat.lt_of_le_of_lt Nat.and_le_left hx)
  rw [Rv.pc_len hz, List.countP_eq_length_filter]
  congr 1
  unfold elems elTo
  rw [List.filter_filter]
  refine List.filter_congr fun b hb => ?_
  rw [Nat.testBit_xor, Nat.testBit_and]
  cases hxb : x.testBit b
  · simp
  · have hbm := hin b hxb
    have hne : a ≠ b := fun e => by rw [e, hxb] at hax; cases hax
    rw [tour_anti hok (by omega) (by omega) hne, wwBit hok (show a < l.length by omega)]
    cases (ww l a).testBit b <;> rfl

theorem list_append1 (w : World) {ops : Array Oper} {rest : List Oper} {o : Oper} {a : Act} {Q : Exit → Act → World → Prop} (hgd : o.guard = none) (s x : Operand)
    (ho : o.op = .call { callee := .builtin .append, args := #[s, x], argTypes := #[23, 23] })
    (B g n c0 : Nat) (L : List Int) (hs : a.eval s = .slice (some ⟨g, 0, none⟩) n c0) (hown : w.ownsRow B 3 1 (.slice (some ⟨g, 0, none⟩) n c0) n (L.map iv))
    (ad : Addr) (c : Nat) (y : Int) (hx : a.eval x = .slice (some ad) 1 c) (hcell : w.cell? ad = some (iv y))
    (h64 : n + 1 ≤ 1000) (hB : B ≤ w.heap.size)
    (h : ∀ g' c' w', w'.ownsRow B 3 1 (.slice (some ⟨g', 0, none⟩) (n + 1) c') (n + 1) ((L ++ [y]).map iv) → w.grownBy w' (some g) → Below B w w' → (g' = g ∨ g' = w.heap.size) → wpList Try.prog ops Q rest (a.put o.dst (.slice (some ⟨g', 0, none⟩) (n + 1) c')) w') :
    wpList Try.prog ops Q (o :: rest) a w := by
  obtain ⟨i0, hi, hz0, hz1, hz2⟩ := info_parts infoInt
  have hgB := hown.lt g rfl
  refine wpList_plain hgd fun K' hK' => ?_
  refine wp_append_lies w s x _ ho B 3 i0 (.int .i64 0) 1 8 Try.underlying23 hi hz0 hz1 hz2 rfl (by decide) _ n (L.map iv) hs hown ad 1 c [iv y] hx rfl ?_ ?_ (by omega) (by unfold maxLen; omega) (by omega) hB w.heap.size rfl ?_
  · intro j u hj
    have hj0 : j = 0 := by have := (List.getElem?_eq_some_iff.1 hj).1; simpa using this
    subst hj0
    rw [show ad.add 0 = ad by simp [Addr.add]]
    rw [hcell]; exact hj
  · intro u hu
    obtain rfl := List.mem_singleton.1 hu
    rfl
  · intro g' c' w' hown' hg hat hlt
    refine hK' _ _ (h g' c' w' ?_ hg ((Below.refl B w).grown hg hB (fun k hk => by cases hk; exact hgB.1)) ?_)
    · rw [List.map_append]; exact hown'
    · rcases hat with h1 | h1
      · left; simp [Value.ownBlock] at h1; exact h1.symm
      · exact .inr h1
namespace Rv
theorem sm_bound (A K : Nat) : ∀ (L : List (Option (Nat × Nat × Nat))), (∀ x ∈ L, ∀ t, x = some t → t.1 ≤ A ∧ t.2.1 ≤ K) → ∀ t, sm L = some t → t.1 ≤ A ∧ t.2.1 ≤ L.length * K
  | [], _, t, h => by cases h
  | x :: L, hL, t, h => by
    have h1 := sm_bound A K L (fun y hy => hL y (by simp [hy]))
    have h2 := hL x (by simp)
    have h : co x (sm L) = some t := h
    have hmul : (x :: L).length * K = L.length * K + K := by rw [List.length_cons, Nat.add_mul, Nat.one_mul]
    rw [hmul]
    cases x with
    | none =>
      have := h1 t h
      exact ⟨this.1, by omega⟩
    | some x =>
      have hx := h2 x rfl
      cases hq : sm L with
      | none =>
        rw [hq] at h
        obtain rfl : x = t := by simpa [co] using h
        exact ⟨hx.1, by omega⟩
      | some y =>
        have hy := h1 y hq
        rw [hq] at h
        obtain rfl : cm x y = t := by simpa [co] using h
        unfold cm
        split
        · exact ⟨hx.1, by omega⟩
        · split
          · exact ⟨hy.1, by omega⟩
          · exact ⟨hx.1, by show x.2.1 + y.2.1 ≤ _; omega⟩
theorem ors_count : ∀ (k s : Nat), (ors k s).length ≤ 8 ^ k
  | 0, _ => by simp [ors]
  | k + 1, s => by
    simp only [ors]
    rw [List.length_flatMap]
    have : ∀ L : List Nat, (L.map fun a => ((ors k (s - 2 ^ a)).map (a :: ·)).length).sum ≤ L.length * 8 ^ k := by
      intro L
      induction L with
      | nil => simp
      | cons a L ih =>
        rw [List.map_cons, List.sum_cons, List.length_map, List.length_cons, Nat.add_mul, Nat.one_mul]
        have := ors_count k (s - 2 ^ a)
        omega
    have h2 := this (elems s)
    have h3 : (elems s).length ≤ 8 := elTo_len s 8
    have h4 : (elems s).length * 8 ^ k ≤ 8 * 8 ^ k := Nat.mul_le_mul_right _ h3
    rw [Nat.pow_succ, Nat.mul_comm (8 ^ k) 8]
    omega
/-- The parts of a set's triple. -/
def gm (f : Nat → Nat → Bool) (s : Nat) : Nat := ((G f s).getD (0, 0, 0)).1
def gn (f : Nat → Nat → Bool) (s : Nat) : Nat := ((G f s).getD (0, 0, 0)).2.1
def gv (f : Nat → Nat → Bool) (s : Nat) : Nat := ((G f s).getD (0, 0, 0)).2.2
theorem G_eq (f : Nat → Nat → Bool) {s : Nat} (hs : s < 256) : G f s = some (gm f s, gn f s, gv f s) := by
  have := G_some f (pc s) s hs rfl
  unfold gm gn gv
  cases h : G f s with
  | none => rw [h] at this; cases this
  | some t => rfl
theorem G_bound (f : Nat → Nat → Bool) {s : Nat} (hs : s < 256) : gm f s ≤ 64 ∧ gn f s ≤ 16777216 := by
  have h0 := G_eq f hs
  unfold G at h0
  have h8 : pc s ≤ 8 := pc_le s
  have h1 := sm_bound 64 1 _ (fun x hx t ht => by
    obtain ⟨l, hl, rfl⟩ := List.mem_map.1 hx
    obtain rfl := Option.some.inj ht
    have h2 := rv_le f l
    have h3 := ((mem_ors hs).1 hl).1
    have h4 : l.length * l.length ≤ 8 * 8 := Nat.mul_le_mul (by omega) (by omega)
    exact ⟨by show rv f l ≤ 64; omega, Nat.le_refl _⟩) _ h0
  refine ⟨h1.1, ?_⟩
  have h2 := h1.2
  rw [List.length_map, Nat.mul_one] at h2
  have h3 := ors_count (pc s) s
  have h4 : 8 ^ pc s ≤ 8 ^ 8 := Nat.pow_le_pow_right (by omega) h8
  have h5 : (8 : Nat) ^ 8 = 16777216 := by decide
  show gn f s ≤ _
  have h6 : (gm f s, gn f s, gv f s).2.1 = gn f s := rfl
  omega
/-- What the model has when it has come to the k-th player of a set. -/
def pt (f : Nat → Nat → Bool) (s k : Nat) : Option (Nat × Nat × Nat) := sm (((elems s).take k).map fun a => some (gm f (s - 2 ^ a) + (elems (s - 2 ^ a)).countP (fun b => f b a), gn f (s - 2 ^ a), a * 8 ^ (pc s - 1) + gv f (s - 2 ^ a)))
theorem pt_zero (f : Nat → Nat → Bool) (s : Nat) : pt f s 0 = none := rfl
theorem pt_next (f : Nat → Nat → Bool) (s k : Nat) (hk : k < (elems s).length) : pt f s (k + 1) = co (pt f s k) (some (gm f (s - 2 ^ (elems s).getD k 0) + (elems (s - 2 ^ (elems s).getD k 0)).countP (fun b => f b ((elems s).getD k 0)), gn f (s - 2 ^ (elems s).getD k 0), (elems s).getD k 0 * 8 ^ (pc s - 1) + gv f (s - 2 ^ (elems s).getD k 0))) := by
  unfold pt
  rw [take_snocN _ _ hk, List.map_append, sm_append]
  rfl
theorem pt_all (f : Nat → Nat → Bool) {s : Nat} (hs : s < 256) (h0 : 0 < pc s) : pt f s (elems s).length = G f s := by
  obtain ⟨k, hk⟩ : ∃ k, pc s = k + 1 := ⟨pc s - 1, by omega⟩
  rw [G_first f hs hk]
  unfold pt
  rw [List.take_of_length_le (Nat.le_refl _)]
  refine sm_same _ _ _ fun a ha => ?_
  rw [G_eq f (sub_lt hs), hk]
  rfl
/-- The two numbers that the model keeps. -/
def pl1 : Option (Nat × Nat × Nat) → Int
  | none => -1
  | some t => (t.1 : Int)
def pl2 : Option (Nat × Nat × Nat) → Nat
  | none => 0
  | some t => t.2.1
theorem pt_bound (f : Nat → Nat → Bool) {s : Nat} (hs : s < 256) (k : Nat) : pl1 (pt f s k) ≤ 72 ∧ pl2 (pt f s k) ≤ 134217728 := by
  cases h : pt f s k with
  | none => exact ⟨by show (-1 : Int) ≤ 72; omega, Nat.zero_le _⟩
  | some t =>
    have h1 := sm_bound 72 16777216 _ (fun x hx t ht => by
      obtain ⟨a, _, rfl⟩ := List.mem_map.1 hx
      obtain rfl := Option.some.inj ht
      have h2 := G_bound f (sub_lt (a := a) hs)
      have h3 := List.countP_le_length (p := fun b => f b a) (l := elems (s - 2 ^ a))
      have h4 : (elems (s - 2 ^ a)).length ≤ 8 := elTo_len _ 8
      exact ⟨by show gm f _ + _ ≤ 72; omega, h2.2⟩) t h
    have h2 : (((elems s).take k).map fun a => some (gm f (s - 2 ^ a) + (elems (s - 2 ^ a)).countP (fun b => f b a), gn f (s - 2 ^ a), a * 8 ^ (pc s - 1) + gv f (s - 2 ^ a))).length ≤ 8 := by
      rw [List.length_map, List.length_take]
      have : (elems s).length ≤ 8 := elTo_len s 8
      omega
    have h3 := Nat.mul_le_mul_right 16777216 h2
    exact ⟨by show (t.1 : Int) ≤ 72; omega, by show t.2.1 ≤ _; omega⟩
end Rv
end Go.Proofs.Yteegbkbphfmooaa
