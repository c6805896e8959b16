/-
  A group of orders with a further one ('with'). No conditions but the bounds that Go gives a slice.
-/
import Derived.Test.YteegbkbphfmooaaQx
namespace Go.Proofs.Yteegbkbphfmooaa
open Go.ChangeShapes Go.WideShapes Go.ChangeAt Go.RowKit Go.Sort
set_option linter.unusedVariables false

theorem list_appendV (w : World) {ops : Array Oper} {rest : List Oper} {o : Oper} {a : Act} {Q : Exit → Act → World → Prop} (hgd : o.guard = none) (s x : Operand)
    (ho : o.op = .call { callee := .builtin .append, args := #[s, x], argTypes := #[23, 23] })
    (B n : Nat) (v : Value) (L : List Int) (hs : a.eval s = v) (hown : w.ownsRow B 3 1 v n (L.map iv))
    (ad : Addr) (c : Nat) (y : Int) (hx : a.eval x = .slice (some ad) 1 c) (hcell : w.cell? ad = some (iv y))
    (h64 : n + 1 ≤ 1000) (hB : B ≤ w.heap.size)
    (h : ∀ g' c' w', w'.ownsRow B 3 1 (.slice (some ⟨g', 0, none⟩) (n + 1) c') (n + 1) ((L ++ [y]).map iv) → Below B w w' → wpList Try.prog ops Q rest (a.put o.dst (.slice (some ⟨g', 0, none⟩) (n + 1) c')) w') :
    wpList Try.prog ops Q (o :: rest) a w := by
  obtain ⟨i0, hi, hz0, hz1, hz2⟩ := info_parts infoInt
  refine wpList_append_own w hgd s x _ ho B 3 i0 (.int .i64 0) 1 8 Try.underlying23 hi hz0 hz1 hz2 rfl (by decide) _ n (L.map iv) hs hown ad 1 c [iv y] hx rfl ?_ ?_ (by unfold maxLen; omega) (by omega) hB ?_
  · intro j u hj
    have hj0 : j = 0 := by have := (List.getElem?_eq_some_iff.1 hj).1; simpa using this
    subst hj0
    rw [show ad.add 0 = ad by simp [Addr.add]]
    rw [hcell]; exact hj
  · intro u hu
    obtain rfl := List.mem_singleton.1 hu
    rfl
  · intro v' w' hown' hg hnil
    obtain ⟨g', c', rfl⟩ := not_nil_slice hown' (fun e => by have := hnil.1 e; omega)
    refine h g' c' w' (by rw [List.map_append]; exact hown') ((Below.refl B w).grown hg hB (fun k hk => ?_))
    exact (hown.lt k hk).1

theorem Box.resG {w : World} {g : Nat} {v0 v1 : Value} {fn : Func} {p : Tmp} (hf : fn.results = #[.cell p 73]) (tmps : Array Value) (hp : tmps.getD p undef = .pointer (some ⟨g, 0, none⟩)) (h : Box w g 73 v0 v1) :
    (results fn tmps).run Try.prog w = .ok (.agg #[v0, v1]) w := results_cell_row hf tmps w g 73 _ _ _ hp h Try.underlying73 rfl (by kernel_rfl)

/-- A row of k players, by its order's number. -/
def RowG (W : World) (B k : Nat) (a : Option Addr) (c v : Nat) : Prop := W.ownsRow B 3 1 (.slice a k c) k ((ni (Rv.dc k v)).map iv)
theorem RowG.row {W : World} {B k c v : Nat} {a : Option Addr} (h : RowG W B k a c v) : IntRow W a (ni (Rv.dc k v)) := by
  have e : (ni (Rv.dc k v)).length = k := by rw [ni_len, Rv.dc_len]
  unfold RowG at h
  have h2 : W.ownsRow B 3 1 (.slice a (ni (Rv.dc k v)).length c) (ni (Rv.dc k v)).length ((ni (Rv.dc k v)).map iv) := by rw [e]; exact h
  exact own_int h2
theorem RowG.below {W W' : World} {B k c v : Nat} {a : Option Addr} (h : RowG W B k a c v) (hb : Below W.heap.size W W') : RowG W' B k a c v := own_below h hb
theorem RowG.mono {W : World} {B B' k c v : Nat} {a : Option Addr} (h : RowG W B k a c v) (hB : B' ≤ B) : RowG W B' k a c v := World.ownsRow.mono h hB
theorem RowG.grown {W W' : World} {B k c v : Nat} {a : Option Addr} {row : Option Nat} (h : RowG W B k a c v) (hg : W.grownBy W' row) (hne : ∀ k, blk a = some k → row ≠ some k) : RowG W' B k a c v := own_grown h hg hne
theorem dc_lt8 : ∀ k v : Nat, ∀ z ∈ Rv.dc k v, z < 8
  | 0, _, z, h => by cases h
  | k + 1, v, z, h => by
    simp only [Rv.dc] at h
    rcases List.mem_append.1 h with h | h
    · exact dc_lt8 k _ z h
    · obtain rfl := List.mem_singleton.1 h
      omega
theorem vl_dc : ∀ k v : Nat, v < 8 ^ k → Rv.vl (Rv.dc k v) = v
  | 0, v, h => by
    rw [Nat.pow_zero] at h
    obtain rfl : v = 0 := by omega
    rfl
  | k + 1, v, h => by
    simp only [Rv.dc]
    rw [Nat.pow_succ] at h
    rw [Rv.vl_snoc, vl_dc k (v / 8) (by omega)]
    omega

/-- What 'with' answers: the count n, the order's number v. -/
def WithR (B k n v : Nat) (w : World) (e : Ending) (w' : World) : Prop := (∃ g c, e = .returned (.agg #[.slice (some ⟨g, 0, none⟩) k c, .int .i64 (n : Int)]) ∧ RowG w' B k (some ⟨g, 0, none⟩) c v) ∧ Below w.heap.size w w'
theorem clone_any (k : Nat) (b : Option Addr) (cb v : Nat) (B : Nat) (w : World) (hk : k ≤ 8) (hb : RowG w B k b cb v) :
    Calls Try.prog 84 #[.slice b k cb] w fun e w' => (∃ u, e = .returned u ∧ w'.ownsRow w.heap.size 3 1 u k ((ni (Rv.dc k v)).map iv)) ∧ Below w.heap.size w w' := by
  rcases hb.2 with ⟨h0, hk0⟩ | ⟨g, c, cur, he, _⟩
  · simp only [Value.slice.injEq] at h0
    obtain ⟨rfl, rfl, rfl⟩ := h0
    refine (show Calls Try.prog 84 #[.slice none 0 0] w _ from Any.slices_Clone_int_nil Try.laysNm215 0 0 w).mono ?_
    rintro e w' ⟨rfl, rfl⟩
    exact ⟨⟨_, rfl, World.ownsRow_nil _ _ _ _⟩, Below.refl _ _⟩
  · simp only [Value.slice.injEq, true_and] at he
    obtain ⟨rfl, rfl⟩ := he
    have hl : (ni (Rv.dc k v)).length = k := by rw [ni_len, Rv.dc_len]
    refine (Try.slices_Clone_int g 0 k cb (ni (Rv.dc k v)) w (by omega) (by omega) (fun j hj => ?_)).mono ?_
    · rw [Nat.zero_add]
      exact cell_own hb (show j < k by omega)
    · rintro e w' ⟨u, rfl, ho, _, hbw⟩
      rw [List.take_of_length_le (by omega)] at ho
      exact ⟨⟨u, rfl, ho⟩, hbw⟩

def g0v : Option (Option Addr × Nat × Nat) → Nat → Value
  | none, _ => .slice none 0 0
  | some t, k => .slice t.1 k t.2.1
def g0m : Option (Option Addr × Nat × Nat) → Nat → Nat
  | none, x => x
  | some t, x => min t.2.2 x
set_option maxRecDepth 100000 in
set_option maxHeartbeats 4000000 in
theorem with_any (B Bs k n n2 v2 last : Nat) (b : Option Addr) (cb : Nat) (g0 : Option (Option Addr × Nat × Nat)) (w : World) (hk : k < 8) (hlast : last < 8) (hn : n + n2 ≤ 1000000000000) (hv2 : v2 < 8 ^ k) (hB : B ≤ w.heap.size)
    (hsh : RowG w Bs k b cb v2) (hg0 : ∀ ag cg v, g0 = some (ag, cg, v) → RowG w B (k + 1) ag cg v ∧ v < 8 ^ (k + 1)) :
    Calls Try.prog 151 #[.agg #[g0v g0 (k + 1), .int .i64 (n : Int)], .agg #[.slice b k cb, .int .i64 (n2 : Int)], .int .i64 (last : Int)] w
      (WithR B (k + 1) (n + n2) (g0m g0 (v2 * 8 + last)) w) := by
  have hnil : ∀ (w : World) (a : Option Addr) (n c n' c' : Nat), (binOp .eql 23 (.slice a n c) (.slice none n' c')).run Try.prog w = .ok (.bool a.isNone) w := fun w a n c n' c' => Lib.run_eql_slice_nil w _ _ a n c n' c' Try.underlying23
  have hdc : Rv.dc k v2 ++ [last] = Rv.dc (k + 1) (v2 * 8 + last) := (Rv.dc_snoc k v2 last hlast).symm
  cases g0 with
  | none =>
    simp only [g0v, g0m]
    clear hg0
    obtain ⟨W4, hW4⟩ : ∃ W4, W4 = ((w.alloc (.cells #[.slice none 0 0, .int .i64 ((n : Int) + (n2 : Int))] 73)).alloc (.cells #[.slice b k cb, .int .i64 (n2 : Int)] 73)).alloc (.cells #[.slice none 0 0, .int .i64 0] 73) := ⟨_, rfl⟩
    have hb4 : Below w.heap.size w W4 := by
      rw [hW4]; exact ((Below.one w _).alloc (Below.one w _).size _).alloc ((Below.one w _).alloc (Below.one w _).size _).size _
    have y3 : Box W4 w.heap.size 73 (.slice none 0 0) (.int .i64 ((n : Int) + (n2 : Int))) := by rw [hW4]; exact ((Box.new w 73 _ _).more _).more _
    have y6 : Box W4 (w.heap.size + 1 + 1) 73 (.slice none 0 0) (.int .i64 0) := by
      have := Box.new ((w.alloc (.cells #[.slice none 0 0, .int .i64 ((n : Int) + (n2 : Int))] 73)).alloc (.cells #[.slice b k cb, .int .i64 (n2 : Int)] 73)) 73 (.slice none 0 0) (.int .i64 0)
      rw [hW4]; simpa using this
    have HW4 := Lib.hid hW4
    have HCL := Lib.hid (clone_any k b cb v2 Bs W4 (by omega) (hsh.below hb4))
    have Y3 := Lib.hid y3
    have Y6 := Lib.hid y6
    have HB4 := Lib.hid hb4
    have hz4 : w.heap.size + 3 ≤ W4.heap.size := by have := y6.lt; omega
    have hnn : (n : Int) + (n2 : Int) = ((n + n2 : Nat) : Int) := by omega
    have HNN := Lib.hid hnn
    have hsm : (n : Int) + (n2 : Int) ≤ 1000000000000 := by omega
    have hn0 : (0 : Int) ≤ (n : Int) + (n2 : Int) := by omega
    clear hW4 y3 y6 hb4 hnn
    go_enter Try.func151, Try.ntmps151
    go_wp2_with fail
    rw [← HW4.out]
    refine HCL.out.mono ?_
    rintro e w5 ⟨⟨u, rfl, hou⟩, hb5⟩
    have OU : Hid ((w5.alloc (.cells #[.int .i64 (last : Int)] 3)).ownsRow W4.heap.size 3 1 u k ((ni (Rv.dc k v2)).map iv)) := hou.alloc _
    have B6 := Lib.hid (hb5.alloc hb5.size (.cells #[.int .i64 (last : Int)] 3))
    have HCC : Hid ((w5.alloc (.cells #[.int .i64 (last : Int)] 3)).cell? ⟨w5.heap.size, 0, none⟩ = some (iv (last : Int))) := by
      have hh : (w5.alloc (.cells #[.int .i64 (last : Int)] 3)).heap[w5.heap.size]? = some (.cells #[.int .i64 (last : Int)] 3 (0, 0)) := by show (w5.heap.push _)[w5.heap.size]? = _; simp
      exact cell1 hh
    clear hou hb5 HCL
    go_wp2_with (at_builtin; refine list_appendV _ rfl _ _ rfl W4.heap.size k u (ni (Rv.dc k v2)) rfl OU.out ⟨w5.heap.size, 0, none⟩ 1 (last : Int) rfl HCC.out (by omega) B6.out.size ?_)
    intro g7 c7 w7 ho7 hb7
    have B7 := Lib.hid (B6.out.trans hb7)
    have hG7 : RowG w7 W4.heap.size (k + 1) (some ⟨g7, 0, none⟩) c7 (v2 * 8 + last) := by
      have e : ni (Rv.dc k v2) ++ [(last : Int)] = ni (Rv.dc (k + 1) (v2 * 8 + last)) := by rw [← hdc]; simp [ni]
      have h : w7.ownsRow W4.heap.size 3 1 (.slice (some ⟨g7, 0, none⟩) (k + 1) c7) (k + 1) ((ni (Rv.dc k v2) ++ [(last : Int)]).map iv) := by first | exact ho7 | simpa using ho7
      rw [e] at h; exact h
    have z3 := Y3.out.below B7.out Y3.out.lt
    have z6 := Y6.out.below B7.out Y6.out.lt
    have HG7 := Lib.hid hG7
    have Z3 := Lib.hid z3
    have Z6 := Lib.hid z6
    have BB7 := Lib.hid (HB4.out.trans (B7.out.mono HB4.out.size))
    have d0 := z3.c0
    have d1 := z3.c1
    have d2 := z3.f0
    have d6 := z6.c0
    have d7 := z6.c1
    have d8 := z6.f0
    have d9 := z6.f1
    clear ho7 hb7 hG7 z3 z6 OU B6 HCC
    · skip
      obtain ⟨W8, hW8⟩ : ∃ W8, W8 = w7.setCell ⟨w.heap.size, 0, none⟩ (.slice (some ⟨g7, 0, none⟩) (k + 1) c7) := ⟨_, rfl⟩
      have HW8 := Lib.hid hW8
      have q3 : Box W8 w.heap.size 73 (.slice (some ⟨g7, 0, none⟩) (k + 1) c7) (.int .i64 ((n : Int) + (n2 : Int))) := by rw [hW8]; exact Z3.out.set0 _
      have q6 : Box W8 (w.heap.size + 1 + 1) 73 (.slice none 0 0) (.int .i64 0) := by rw [hW8]; exact Z6.out.other _ _ (by simp <;> omega)
      have b8 : Below w.heap.size w W8 := by rw [hW8]; exact BB7.out.setCell (p := ⟨w.heap.size, 0, none⟩) (Nat.le_refl _) _
      have g8 : RowG W8 W4.heap.size (k + 1) (some ⟨g7, 0, none⟩) c7 (v2 * 8 + last) := by rw [hW8]; exact own_set HG7.out _ _ (by show w.heap.size < W4.heap.size; omega)
      have G8 := Lib.hid g8
      have B8 := Lib.hid b8
      have Q6 := Lib.hid q6
      have r0 := q3.c0
      have r1 := q3.c1
      have r6 := q6.c0
      have r7 := q6.c1
      have r8 := q6.f0
      have r9 := q6.f1
      rw [hW8] at r0 r1 r6 r7 r8 r9
      clear hW8 q3 q6 b8 g8
      go_wp2
      rw [← HW8.out]
      rw [HNN.out]
      refine bodyPost_ret (v := .agg #[.slice (some ⟨g7, 0, none⟩) (k + 1) c7, .int .i64 ((n + n2 : Nat) : Int)]) (Box.resG rfl _ rfl ((Q6.out.set0 _).set1 _)) rfl ⟨⟨g7, c7, rfl, ?_⟩, ?_⟩
      · exact (own_set (own_set G8.out ⟨w.heap.size + 1 + 1, 0, none⟩ _ (by show w.heap.size + 1 + 1 < W4.heap.size; omega)) ⟨w.heap.size + 1 + 1, 1, none⟩ _ (by show w.heap.size + 1 + 1 < W4.heap.size; omega)).mono (by omega)
      · exact (B8.out.setCell (p := ⟨w.heap.size + 1 + 1, 0, none⟩) (by show w.heap.size ≤ w.heap.size + 1 + 1; omega) _).setCell (p := ⟨w.heap.size + 1 + 1, 1, none⟩) (by show w.heap.size ≤ w.heap.size + 1 + 1; omega) _
  | some t =>
    obtain ⟨ag, cg, v⟩ := t
    obtain ⟨hrg, hvb⟩ := hg0 ag cg v rfl
    obtain ⟨gg, rfl⟩ : ∃ gg, ag = some ⟨gg, 0, none⟩ := by
      rcases hrg.2 with ⟨_, h⟩ | ⟨gg, _, _, he, _⟩
      · omega
      · simp only [Value.slice.injEq] at he; exact ⟨gg, he.1⟩
    have HRG := Lib.hid hrg
    clear hg0 hrg
    simp only [g0v, g0m]
    obtain ⟨W4, hW4⟩ : ∃ W4, W4 = ((w.alloc (.cells #[.slice (some ⟨gg, 0, none⟩) (k + 1) cg, .int .i64 ((n : Int) + (n2 : Int))] 73)).alloc (.cells #[.slice b k cb, .int .i64 (n2 : Int)] 73)).alloc (.cells #[.slice none 0 0, .int .i64 0] 73) := ⟨_, rfl⟩
    have hb4 : Below w.heap.size w W4 := by
      rw [hW4]; exact ((Below.one w _).alloc (Below.one w _).size _).alloc ((Below.one w _).alloc (Below.one w _).size _).size _
    have y3 : Box W4 w.heap.size 73 (.slice (some ⟨gg, 0, none⟩) (k + 1) cg) (.int .i64 ((n : Int) + (n2 : Int))) := by rw [hW4]; exact ((Box.new w 73 _ _).more _).more _
    have y6 : Box W4 (w.heap.size + 1 + 1) 73 (.slice none 0 0) (.int .i64 0) := by
      have := Box.new ((w.alloc (.cells #[.slice (some ⟨gg, 0, none⟩) (k + 1) cg, .int .i64 ((n : Int) + (n2 : Int))] 73)).alloc (.cells #[.slice b k cb, .int .i64 (n2 : Int)] 73)) 73 (.slice none 0 0) (.int .i64 0)
      rw [hW4]; simpa using this
    have HW4 := Lib.hid hW4
    have HCL := Lib.hid (clone_any k b cb v2 Bs W4 (by omega) (hsh.below hb4))
    have Y3 := Lib.hid y3
    have Y6 := Lib.hid y6
    have HB4 := Lib.hid hb4
    have hz4 : w.heap.size + 3 ≤ W4.heap.size := by have := y6.lt; omega
    have hnn : (n : Int) + (n2 : Int) = ((n + n2 : Nat) : Int) := by omega
    have HNN := Lib.hid hnn
    have hsm : (n : Int) + (n2 : Int) ≤ 1000000000000 := by omega
    have hn0 : (0 : Int) ≤ (n : Int) + (n2 : Int) := by omega
    clear hW4 y3 y6 hb4 hnn
    go_enter Try.func151, Try.ntmps151
    go_wp2_with fail
    rw [← HW4.out]
    refine HCL.out.mono ?_
    rintro e w5 ⟨⟨u, rfl, hou⟩, hb5⟩
    have OU : Hid ((w5.alloc (.cells #[.int .i64 (last : Int)] 3)).ownsRow W4.heap.size 3 1 u k ((ni (Rv.dc k v2)).map iv)) := hou.alloc _
    have B6 := Lib.hid (hb5.alloc hb5.size (.cells #[.int .i64 (last : Int)] 3))
    have HCC : Hid ((w5.alloc (.cells #[.int .i64 (last : Int)] 3)).cell? ⟨w5.heap.size, 0, none⟩ = some (iv (last : Int))) := by
      have hh : (w5.alloc (.cells #[.int .i64 (last : Int)] 3)).heap[w5.heap.size]? = some (.cells #[.int .i64 (last : Int)] 3 (0, 0)) := by show (w5.heap.push _)[w5.heap.size]? = _; simp
      exact cell1 hh
    clear hou hb5 HCL
    go_wp2_with (at_builtin; refine list_appendV _ rfl _ _ rfl W4.heap.size k u (ni (Rv.dc k v2)) rfl OU.out ⟨w5.heap.size, 0, none⟩ 1 (last : Int) rfl HCC.out (by omega) B6.out.size ?_)
    intro g7 c7 w7 ho7 hb7
    have B7 := Lib.hid (B6.out.trans hb7)
    have hG7 : RowG w7 W4.heap.size (k + 1) (some ⟨g7, 0, none⟩) c7 (v2 * 8 + last) := by
      have e : ni (Rv.dc k v2) ++ [(last : Int)] = ni (Rv.dc (k + 1) (v2 * 8 + last)) := by rw [← hdc]; simp [ni]
      have h : w7.ownsRow W4.heap.size 3 1 (.slice (some ⟨g7, 0, none⟩) (k + 1) c7) (k + 1) ((ni (Rv.dc k v2) ++ [(last : Int)]).map iv) := by first | exact ho7 | simpa using ho7
      rw [e] at h; exact h
    have z3 := Y3.out.below B7.out Y3.out.lt
    have z6 := Y6.out.below B7.out Y6.out.lt
    have HG7 := Lib.hid hG7
    have Z3 := Lib.hid z3
    have Z6 := Lib.hid z6
    have BB7 := Lib.hid (HB4.out.trans (B7.out.mono HB4.out.size))
    have d0 := z3.c0
    have d1 := z3.c1
    have d2 := z3.f0
    have d6 := z6.c0
    have d7 := z6.c1
    have d8 := z6.f0
    have d9 := z6.f1
    clear ho7 hb7 hG7 z3 z6 OU B6 HCC
    have HCP := Lib.hid (compare_any (k + 1) (some ⟨g7, 0, none⟩) (some ⟨gg, 0, none⟩) (Rv.dc (k + 1) (v2 * 8 + last)) (Rv.dc (k + 1) v) c7 cg w7 (by omega) (Rv.dc_len _ _) (Rv.dc_len _ _) (dc_lt8 _ _) (dc_lt8 _ _) HG7.out.row (HRG.out.below BB7.out).row)
    have hvx : Rv.vl (Rv.dc (k + 1) (v2 * 8 + last)) = v2 * 8 + last := vl_dc _ _ (by rw [Nat.pow_succ]; omega)
    have hvy : Rv.vl (Rv.dc (k + 1) v) = v := vl_dc _ _ hvb
    rw [hvx, hvy] at HCP
    obtain ⟨x, hx⟩ : ∃ x, x = v2 * 8 + last := ⟨_, rfl⟩
    clear hvx hvy hvb
    rw [← hx] at HCP HG7 ⊢
    have HX := Lib.hid hx
    clear hx hdc hv2
    by_cases hlt : x < v
    · have HMIN : Hid (min v x = x) := Nat.min_eq_right (Nat.le_of_lt hlt)
      rw [HMIN.out]
      obtain ⟨W8, hW8⟩ : ∃ W8, W8 = w7.setCell ⟨w.heap.size, 0, none⟩ (.slice (some ⟨g7, 0, none⟩) (k + 1) c7) := ⟨_, rfl⟩
      have HW8 := Lib.hid hW8
      have q3 : Box W8 w.heap.size 73 (.slice (some ⟨g7, 0, none⟩) (k + 1) c7) (.int .i64 ((n : Int) + (n2 : Int))) := by rw [hW8]; exact Z3.out.set0 _
      have q6 : Box W8 (w.heap.size + 1 + 1) 73 (.slice none 0 0) (.int .i64 0) := by rw [hW8]; exact Z6.out.other _ _ (by simp <;> omega)
      have b8 : Below w.heap.size w W8 := by rw [hW8]; exact BB7.out.setCell (p := ⟨w.heap.size, 0, none⟩) (Nat.le_refl _) _
      have g8 : RowG W8 W4.heap.size (k + 1) (some ⟨g7, 0, none⟩) c7 x := by rw [hW8]; exact own_set HG7.out _ _ (by show w.heap.size < W4.heap.size; omega)
      have G8 := Lib.hid g8
      have B8 := Lib.hid b8
      have Q6 := Lib.hid q6
      have r0 := q3.c0
      have r1 := q3.c1
      have r6 := q6.c0
      have r7 := q6.c1
      have r8 := q6.f0
      have r9 := q6.f1
      rw [hW8] at r0 r1 r6 r7 r8 r9
      clear hW8 q3 q6 b8 g8
      go_wp2_with fail
      refine HCP.out.mono ?_
      rintro e w9 ⟨⟨z, rfl, hz⟩, rfl⟩
      rw [decide_eq_true hlt] at hz
      have hz0 : z < 0 := of_decide_eq_true hz
      clear hz
      go_wp2
      rw [← HW8.out]
      rw [HNN.out]
      refine bodyPost_ret (v := .agg #[.slice (some ⟨g7, 0, none⟩) (k + 1) c7, .int .i64 ((n + n2 : Nat) : Int)]) (Box.resG rfl _ rfl ((Q6.out.set0 _).set1 _)) rfl ⟨⟨g7, c7, rfl, ?_⟩, ?_⟩
      · rw [← HX.out, HMIN.out]
        exact (own_set (own_set G8.out ⟨w.heap.size + 1 + 1, 0, none⟩ _ (by show w.heap.size + 1 + 1 < W4.heap.size; omega)) ⟨w.heap.size + 1 + 1, 1, none⟩ _ (by show w.heap.size + 1 + 1 < W4.heap.size; omega)).mono (by omega)
      · exact (B8.out.setCell (p := ⟨w.heap.size + 1 + 1, 0, none⟩) (by show w.heap.size ≤ w.heap.size + 1 + 1; omega) _).setCell (p := ⟨w.heap.size + 1 + 1, 1, none⟩) (by show w.heap.size ≤ w.heap.size + 1 + 1; omega) _
    · have HMIN : Hid (min v x = v) := Nat.min_eq_left (by omega)
      rw [HMIN.out]
      go_wp2_with fail
      refine HCP.out.mono ?_
      rintro e w9 ⟨⟨z, rfl, hz⟩, rfl⟩
      rw [decide_eq_false hlt] at hz
      have hz0 : ¬ z < 0 := of_decide_eq_false hz
      clear hz
      go_wp2
      rw [HNN.out]
      refine bodyPost_ret (v := .agg #[.slice (some ⟨gg, 0, none⟩) (k + 1) cg, .int .i64 ((n + n2 : Nat) : Int)]) (Box.resG rfl _ rfl ((Z6.out.set0 _).set1 _)) rfl ⟨⟨gg, cg, rfl, ?_⟩, ?_⟩
      · rw [← HX.out, HMIN.out]
        exact HRG.out.below ((BB7.out.setCell (p := ⟨w.heap.size + 1 + 1, 0, none⟩) (by show w.heap.size ≤ w.heap.size + 1 + 1; omega) _).setCell (p := ⟨w.heap.size + 1 + 1, 1, none⟩) (by show w.heap.size ≤ w.heap.size + 1 + 1; omega) _)
      · exact (BB7.out.setCell (p := ⟨w.heap.size + 1 + 1, 0, none⟩) (by show w.heap.size ≤ w.heap.size + 1 + 1; omega) _).setCell (p := ⟨w.heap.size + 1 + 1, 1, none⟩) (by show w.heap.size ≤ w.heap.size + 1 + 1; omega) _
end Go.Proofs.Yteegbkbphfmooaa
