/-
  LevelsOf: its mathematics, the program's side and the model's. No conditions but the bounds that Go gives a slice.
-/
import Derived.Test.YtpndfmlkceplcaaGy
import Derived.Test.YtpndfmlkceplcaaGf
import Derived.Test.YtpndfmlkceplcaaWa
import Derived.Test.YtpndfmlkceplcaaGh
import Derived.Test.YtpndfmlkceplcaaGa
namespace Go.Proofs.Ytpndfmlkceplcaa
set_option linter.unusedVariables false

/-- Whether an index bears the same element. -/
def eqK (l : List Int) (x y : Nat) : Bool := decide (l.getD y 0 = l.getD x 0)
/-- The groups. -/
def lvl (l : List Int) : Nat → List Nat → List (List Nat)
  | 0, _ => []
  | _ + 1, [] => []
  | f + 1, x :: r => (x :: r.takeWhile (eqK l x)) :: lvl l f (r.dropWhile (eqK l x))
def lvlF (l : List Int) (L : List Nat) : List (List Nat) := lvl l L.length L
theorem drop_le (p : Nat → Bool) (r : List Nat) : (r.dropWhile p).length ≤ r.length := (List.dropWhile_sublist p).length_le
theorem lvl_fuel (l : List Int) : ∀ (f g : Nat) (L : List Nat), L.length ≤ f → L.length ≤ g → lvl l f L = lvl l g L
  | 0, 0, _, _, _ => rfl
  | 0, g + 1, [], _, _ => rfl
  | 0, g + 1, _ :: _, h, _ => absurd h (by simp)
  | f + 1, 0, [], _, _ => rfl
  | f + 1, 0, _ :: _, _, h => absurd h (by simp)
  | f + 1, g + 1, [], _, _ => rfl
  | f + 1, g + 1, x :: r, h1, h2 => by
    have hd := drop_le (eqK l x) r
    simp only [List.length_cons] at h1 h2
    rw [lvl, lvl, lvl_fuel l f g _ (by omega) (by omega)]
theorem lvlF_cons (l : List Int) (x : Nat) (r : List Nat) : lvlF l (x :: r) = (x :: r.takeWhile (eqK l x)) :: lvlF l (r.dropWhile (eqK l x)) := by
  have hd := drop_le (eqK l x) r
  show lvl l (r.length + 1) (x :: r) = _
  rw [lvl]
  unfold lvlF
  rw [lvl_fuel l r.length (r.dropWhile (eqK l x)).length _ hd (Nat.le_refl _)]
/-- How long the first group is. -/
def gl (l : List Int) : List Nat → Nat
  | [] => 0
  | x :: r => (r.takeWhile (eqK l x)).length + 1
theorem gl_cut (l : List Int) (x : Nat) (r : List Nat) : (x :: r).take (gl l (x :: r)) = x :: r.takeWhile (eqK l x) ∧ (x :: r).drop (gl l (x :: r)) = r.dropWhile (eqK l x) := by
  have e : r.takeWhile (eqK l x) ++ r.dropWhile (eqK l x) = r := List.takeWhile_append_dropWhile
  unfold gl
  rw [List.take_succ_cons, List.drop_succ_cons]
  generalize r.takeWhile (eqK l x) = T at e ⊢
  generalize r.dropWhile (eqK l x) = U at e ⊢
  subst e
  exact ⟨by rw [List.take_left' rfl], by rw [List.drop_left' rfl]⟩
theorem lvlF_cut (l : List Int) (L : List Nat) (h : 0 < L.length) : lvlF l L = L.take (gl l L) :: lvlF l (L.drop (gl l L)) := by
  cases L with
  | nil => simp at h
  | cons x r => rw [lvlF_cons, (gl_cut l x r).1, (gl_cut l x r).2]
theorem gl_le (l : List Int) (L : List Nat) : gl l L ≤ L.length := by
  cases L with
  | nil => exact Nat.le_refl _
  | cons x r =>
    have := (List.takeWhile_sublist (eqK l x) (l := r)).length_le
    simp only [gl, List.length_cons]; omega
theorem gl_pos (l : List Int) (L : List Nat) (h : 0 < L.length) : 1 ≤ gl l L := by
  cases L with
  | nil => simp at h
  | cons x r => simp [gl]
theorem cnt_take (p : Nat → Bool) (L : List Nat) : ∀ k, k ≤ L.length → cntG (fun i => p (L.getD i 0)) k = (L.take k).countP p
  | 0, _ => by simp [cntG]
  | k + 1, h => by
    rw [cntG, cnt_take p L k (by omega), List.take_add_one, List.countP_append, List.getD_eq_getElem?_getD, List.getElem?_eq_getElem (by omega : k < L.length)]
    simp only [Option.getD_some, Option.toList_some]
    by_cases hp : p L[k] = true
    · rw [if_pos hp, List.countP_cons_of_pos hp]; simp
    · rw [if_neg hp, List.countP_cons_of_neg hp]; simp
/-- In an order by falling elements, all equal ones stand in front. -/
theorem gl_count {l : List Int} {L : List Nat} (hs : L.Pairwise (leI l)) (h : 0 < L.length) : cntG (fun i => eqK l (L.getD 0 0) (L.getD i 0)) L.length = gl l L := by
  rw [cnt_take (eqK l (L.getD 0 0)) L L.length (Nat.le_refl _), List.take_length]
  cases L with
  | nil => simp at h
  | cons x r =>
    have e : r.takeWhile (eqK l x) ++ r.dropWhile (eqK l x) = r := List.takeWhile_append_dropWhile
    have hx : (x :: r).getD 0 0 = x := rfl
    rw [hx, List.countP_cons_of_pos (by simp [eqK])]
    conv => lhs; rw [← e]
    rw [List.countP_append]
    have h1 : (r.takeWhile (eqK l x)).countP (eqK l x) = (r.takeWhile (eqK l x)).length := List.countP_eq_length.2 (fun a ha => by
      have := List.all_takeWhile (l := r) (p := eqK l x)
      exact List.all_eq_true.1 this a ha)
    have h2 : (r.dropWhile (eqK l x)).countP (eqK l x) = 0 := by
      rw [List.countP_eq_zero]
      intro y hy
      obtain ⟨hxr, hr⟩ := List.pairwise_cons.1 hs
      cases hd : r.dropWhile (eqK l x) with
      | nil => rw [hd] at hy; simp at hy
      | cons z t =>
        have hz : eqK l x z = false := by
          have := List.head?_dropWhile_not (eqK l x) r
          rw [hd] at this
          simpa using this
        have hzr : z ∈ r := (List.dropWhile_sublist (eqK l x)).subset (by rw [hd]; exact List.mem_cons_self)
        have hxz := hxr z hzr
        have hpw : (z :: t).Pairwise (leI l) := by rw [← hd]; exact hr.sublist (List.dropWhile_sublist _)
        rw [hd] at hy
        unfold eqK at hz ⊢
        rw [decide_eq_false_iff_not] at hz
        unfold leI at hxz
        rcases List.mem_cons.1 hy with rfl | hyt
        · simpa using hz
        · have hzy := (List.pairwise_cons.1 hpw).1 y hyt
          unfold leI at hzy
          simp only [decide_eq_true_eq]
          omega
    rw [h1, h2]
    simp [gl]

/-- The model's step. -/
def stepM (l : List Int) (out : List (List Nat)) (i : Nat) : List (List Nat) :=
  if out ≠ [] ∧ l.getD ((out.getLastD []).getD 0 0) 0 = l.getD i 0 then out.dropLast ++ [out.getLastD [] ++ [i]] else out ++ [[i]]
theorem stepM_more (l : List Int) (x : Nat) : ∀ (T : List Nat) (out : List (List Nat)) (G : List Nat), (∀ y ∈ T, eqK l x y = true) → T.foldl (stepM l) (out ++ [x :: G]) = out ++ [x :: (G ++ T)]
  | [], out, G, _ => by simp
  | y :: T, out, G, h => by
    have hy := h y List.mem_cons_self
    unfold eqK at hy
    rw [decide_eq_true_eq] at hy
    have e : stepM l (out ++ [x :: G]) y = out ++ [x :: (G ++ [y])] := by
      unfold stepM
      rw [if_pos (by
        refine ⟨by simp, ?_⟩
        rw [List.getLastD_concat]
        exact hy.symm)]
      simp
    rw [List.foldl_cons, e, stepM_more l x T out (G ++ [y]) (fun z hz => h z (List.mem_cons_of_mem _ hz)), List.append_assoc]
    rfl
theorem fold_lvl (l : List Int) : ∀ (n : Nat) (L : List Nat) (out : List (List Nat)), L.length ≤ n → (∀ x r, L = x :: r → out = [] ∨ l.getD ((out.getLastD []).getD 0 0) 0 ≠ l.getD x 0) → L.foldl (stepM l) out = out ++ lvlF l L
  | 0, L, out, h, _ => by
    obtain rfl := List.eq_nil_of_length_eq_zero (Nat.le_zero.1 h)
    simp [lvlF, lvl]
  | n + 1, [], out, _, _ => by simp [lvlF, lvl]
  | n + 1, x :: r, out, h, hne => by
    have e : r.takeWhile (eqK l x) ++ r.dropWhile (eqK l x) = r := List.takeWhile_append_dropWhile
    have hd := drop_le (eqK l x) r
    have h0 : stepM l out x = out ++ [[x]] := by
      unfold stepM
      rw [if_neg]
      rintro ⟨h1, h2⟩
      rcases hne x r rfl with h3 | h3
      · exact h1 h3
      · exact h3 h2
    rw [List.foldl_cons, h0, lvlF_cons]
    conv => lhs; rw [← e]
    rw [List.foldl_append, stepM_more l x _ out [] (fun y hy => List.all_eq_true.1 List.all_takeWhile y hy), List.nil_append]
    rw [fold_lvl l n _ _ (by simp only [List.length_cons] at h; omega) ?_]
    · simp
    · intro z t hz
      right
      have := List.head?_dropWhile_not (eqK l x) r
      rw [hz] at this
      simp [eqK] at this
      simp
      exact fun h => this h.symm
/-- What both 'LevelsOf' answer. -/
def levR (l : List Int) : List (List Int) := if l.length ≤ 40 then (lvlF l (ordL l)).map niG else []
end Go.Proofs.Ytpndfmlkceplcaa
namespace Go.Proofs.Ytpndfmlkceplcaa
open Go.ChangeShapes Go.WideShapes Go.ChangeAt Go.RowKit Go.Sort
set_option linter.unusedVariables false

set_option maxRecDepth 100000 in
set_option maxHeartbeats 1000000 in
theorem copyOf_any (ba oa e c : Nat) (L : List Int) (w : World) (hL : L.length = e) (he : e ≤ 40) (hcell : ∀ j, j < e → w.cell? ⟨ba, oa + j, none⟩ = some (iv (L.getD j 0))) (had : ba < w.heap.size) :
    Calls Try.prog 109 #[.slice (some ⟨ba, oa, none⟩) e c] w fun ex w' => (∃ g, ex = .returned (.slice (some ⟨g, 0, none⟩) e e) ∧ w.heap.size ≤ g ∧ w'.ownsRow w.heap.size 3 1 (.slice (some ⟨g, 0, none⟩) e e) e (L.map iv)) ∧ Below w.heap.size w w' := by
  obtain ⟨i0, hi, hz0, hz1, hz2⟩ := info_parts infoInt
  have hsz1 : (Try.prog.info? 3).map (·.size) = some 1 := by kernel_rfl
  go_enter Try.func109, Try.ntmps109
  go_wp2_with (refine wpList_make_full _ rfl _ _ 22 rfl w.heap.size 3 i0 (.int .i64 0) 1 Try.underlying22 hi hz0 hz1 .i64 .i64 _ _ e rfl rfl rfl rfl ?c1 ?c2 ?c3 ?_)
  case c1 => rw [hz2]; omega
  case c2 => unfold maxLen; omega
  case c3 => exact Nat.le_refl _
  intro w2 hown hg
  have hb2 : Below w.heap.size w w2 := (Below.refl _ w).grown hg (Nat.le_refl _) (fun k hk => by cases hk)
  have hrow : w2.heap[w.heap.size]? = some (.cells (List.replicate e (Value.int .i64 0)).toArray 3 (0, 0)) := by
    rcases hown.2 with ⟨hn, _⟩ | ⟨g2, c2, cur, hev, _, hh, _, _, hcs, ht⟩
    · cases hn
    · simp only [Value.slice.injEq, Option.some.injEq, Addr.mk.injEq, and_true, true_and] at hev
      obtain ⟨rfl, rfl⟩ := hev
      rw [hh]
      have : cur = (List.replicate e (Value.int .i64 0)).toArray := by
        apply Array.toList_inj.1
        rw [Nat.mul_one, List.take_of_length_le (by rw [Array.length_toList, hcs]; omega)] at ht
        rw [ht, toList_madeCells_one]
      rw [this]
  have hc2 : ∀ j v, (L.map iv)[j]? = some v → w2.cell? ((⟨ba, oa, none⟩ : Addr).add j) = some v := fun j v hj => by
    have hjl : j < L.length := by have := (List.getElem?_eq_some_iff.1 hj).1; simpa using this
    have h1 := hcell j (by omega)
    rw [List.getElem?_map, List.getElem?_eq_getElem hjl] at hj
    rw [List.getD_eq_getElem?_getD, List.getElem?_eq_getElem hjl] at h1
    rw [Addr.add_lit, hb2.cell (p := ⟨ba, oa + j, none⟩) had, h1, ← hj]; rfl
  obtain ⟨g, hgv⟩ : ∃ g, g = w.heap.size := ⟨_, rfl⟩
  rw [← hgv] at hrow ⊢
  have HR := Lib.hid hrow
  have HB := Lib.hid hb2
  have HG := Lib.hid hgv
  have HC := Lib.hid hc2
  have hml : (L.map iv).length = e := by rw [List.length_map]; exact hL
  have HML := Lib.hid hml
  clear hown hg hrow hb2 hgv hcell hc2 hml
  go_wp2_with (refine wpList_copy_splice rfl _ _ _ _ rfl 3 Try.underlying22 hsz1 (some ⟨g, 0, none⟩) (some ⟨ba, oa, none⟩) e e e c rfl rfl g 0 (List.replicate e (Value.int .i64 0)) 3 HR.out (L.map iv) (by rw [HML.out]; exact (Nat.min_self e).symm) ?k1 (by rw [HML.out, List.length_replicate]; exact Nat.le_of_eq (Nat.zero_add e)) (by intro v hv; obtain ⟨x, _, rfl⟩ := List.mem_map.1 hv; rfl) w.heap.size w HB.out (by rw [HG.out]; exact Nat.le_refl _) ?_)
  case k1 =>
    intro _ j x hj
    have h := HC.out j (iv x) (by rw [List.getElem?_map, hj]; rfl)
    rw [Addr.add_lit] at h
    exact h
  intro w3 hrow3 hb3
  have hsp : splice (List.replicate e (Value.int .i64 0)) 0 (L.map iv) = L.map iv := by
    unfold splice
    rw [HML.out, Nat.zero_add, List.drop_eq_nil_of_le (by simp)]
    simp
  have H3 : Hid (w3.heap[g]? = some (.cells (L.map iv).toArray 3 (0, 0))) := by rw [← hsp]; exact hrow3
  have B3 := Lib.hid hb3
  clear hrow3 hb3 hsp
  go_wp2
  go_ret
  exact ⟨⟨g, rfl, by rw [HG.out]; exact Nat.le_refl _, ⟨by rw [HML.out]; simp, .inr ⟨g, e, _, rfl, by rw [HG.out]; exact Nat.le_refl _, H3.out, Nat.le_refl _, by unfold maxLen; omega, by rw [List.size_toArray, HML.out]; simp, by rw [List.take_of_length_le (by rw [HML.out]; simp)]⟩⟩⟩, B3.out⟩

set_option maxRecDepth 100000 in
set_option maxHeartbeats 1000000 in
/-- The question of 'LevelsOf': whether an index bears the element of the first one. -/
theorem level1_any (p q i n cap r c g off : Nat) (a : Option Addr) (l : List Int) (L : List Nat) (W : World) (hp : W.cell? ⟨p, 0, none⟩ = some (.slice a n cap)) (hq : W.cell? ⟨q, 0, none⟩ = some (.slice (some ⟨g, off, none⟩) r c)) (hn : l.length = n) (hrow : IntRow W a l) (hi : i < r)
    (hL : L.length = r) (hLn : ∀ j, j < r → L.getD j 0 < n) (hcell : ∀ j, j < r → W.cell? ⟨g, off + j, none⟩ = some (.int .i64 ((L.getD j 0 : Nat) : Int))) :
    Calls Try.prog 108 #[.int .i64 (i : Int), .pointer (some ⟨p, 0, none⟩), .pointer (some ⟨q, 0, none⟩)] W fun e W' => e = .returned (.bool (eqK l (L.getD 0 0) (L.getD i 0))) ∧ Below W.heap.size W W' := by
  subst hn
  obtain ⟨b, o2, rfl, hb, hc⟩ := row_at hrow (hLn i hi)
  have f1 := hcell i hi
  have f2 := hcell 0 (by omega)
  rw [Nat.add_zero] at f2
  have l1 := hLn i hi
  have l2 := hLn 0 (by omega)
  obtain ⟨x, hx⟩ : ∃ x, x = L.getD i 0 := ⟨_, rfl⟩
  obtain ⟨y, hy⟩ : ∃ y, y = L.getD 0 0 := ⟨_, rfl⟩
  rw [← hx] at f1 l1
  rw [← hy] at f2 l2
  have f3 := hc x l1
  have f4 := hc y l2
  have he : eqK l (L.getD 0 0) (L.getD i 0) = decide (l.getD x 0 = l.getD y 0) := by rw [hx, hy]; rfl
  rw [he]
  generalize l.getD x 0 = u at f3 ⊢
  generalize l.getD y 0 = v at f4 ⊢
  have hii : (i : Int) < (r : Int) := by omega
  have h0i : (0 : Int) < (r : Int) := by omega
  have l1i : (x : Int) < (l.length : Int) := by omega
  have l2i : (y : Int) < (l.length : Int) := by omega
  clear hc hrow hcell hLn hx hy he hL
  go_enter Try.func108, Try.ntmps108
  go_wp2
  go_region
  all_goals
    go_wp2
    go_ret
    refine ⟨?_, (Below.refl _ _).drew⟩
    first | rfl | (congr 2; rw [Bool.eq_iff_iff]; simp)
end Go.Proofs.Ytpndfmlkceplcaa
namespace Go.Proofs.Ytpndfmlkceplcaa
open Go.ChangeShapes Go.WideShapes Go.ChangeAt Go.RowKit Go.Sort
set_option linter.unusedVariables false

theorem infoSS : (Try.prog.info? 22).map (fun i => (i.zero, i.size, i.bytes)) = some (some (.slice none 0 0), 1, 24) := by kernel_rfl

/-- What lies in memory while the order is cut: the levels, the order's row, the box of what is left. -/
structure Lv (w W : World) (B p0 q g : Nat) (a : Option Addr) (n cap : Nat) (l : List Int) (O : List Nat) (cO : Nat) (ao : Option Addr) (co : Nat) (gs : List (Nat × Nat)) (Ls : List (List Int)) (left : Value) : Prop where
  hb : Below w.heap.size w W
  ss : OwnSS W B ao co gs Ls
  og : W.ownsRow w.heap.size 3 1 (.slice (some ⟨g, 0, none⟩) n cO) n ((niG O).map iv)
  bp : Boxed W p0 22 (.slice a n cap)
  bq : Boxed W q 22 left
  ql : ∀ k, blk ao = some k → k < q
  qi : ∀ i, i < Ls.length → (gs.getD i (0, 0)).1 < q
  gi : ∀ i, i < Ls.length → g < (gs.getD i (0, 0)).1
  gq : g < q
  gB : ∀ k, blk ao = some k → k ≠ g
  pB : p0 < B
  pg : p0 < g
  wB : w.heap.size ≤ p0
  Bs : B ≤ W.heap.size
theorem Lv.step {w W W2 W4 : World} {B p0 q g : Nat} {a : Option Addr} {n cap : Nat} {l : List Int} {O : List Nat} {cO : Nat} {ao : Option Addr} {co : Nat} {gs : List (Nat × Nat)} {Ls : List (List Int)} {p r c gn e g4 c4 : Nat} {row : List Int}
    (h : Lv w W B p0 q g a n cap l O cO ao co gs Ls (.slice (some ⟨g, p, none⟩) r c)) (hn : 0 < n) (hO : O.length = n) (hb12 : Below W.heap.size W W2) (he : row.length = e) (hrow : W2.ownsRow W.heap.size 3 1 (.slice (some ⟨gn, 0, none⟩) row.length e) row.length (row.map iv)) (hgn : W.heap.size ≤ gn)
    (hg : (W2.alloc (.cells #[.slice (some ⟨gn, 0, none⟩) e e] 22)).grownBy W4 (blk ao)) (ho : W4.ownsRow B 22 1 (.slice (some ⟨g4, 0, none⟩) (Ls.length + 1) c4) (Ls.length + 1) (svs gs Ls ++ [.slice (some ⟨gn, 0, none⟩) e e])) (left : Value) :
    Lv w ((W4.setCell ⟨q, 0, none⟩ left).alloc (.cells #[left] 22)) B p0 W4.heap.size g a n cap l O cO (some ⟨g4, 0, none⟩) c4 (gs ++ [(gn, e)]) (Ls ++ [row]) left := by
  obtain ⟨W3, hW3⟩ : ∃ W3, W3 = W2.alloc (.cells #[.slice (some ⟨gn, 0, none⟩) e e] 22) := ⟨_, rfl⟩
  rw [← hW3] at hg
  have g13 : W.grownBy W3 none := by rw [hW3]; exact (grown_of_below hb12).trans (World.grownBy_alloc W2 _ none)
  have hsz3 : W.heap.size ≤ W3.heap.size := g13.size
  have hql := h.bq.lt
  have hblk : ∀ k, blk ao = some k → B ≤ k ∧ k < W.heap.size := fun k hk => h.ss.blkO hk
  have hsv : Value.slice (some ⟨gn, 0, none⟩) e e = sv (gn, e) row := by unfold sv; rw [he]
  rw [hsv] at ho
  have hrow3 : W3.ownsRow B 3 1 (.slice (some ⟨gn, 0, none⟩) row.length e) row.length (row.map iv) := by
    rw [hW3]; exact (hrow.mono h.Bs).alloc _
  have ss4 := h.ss.push g13 hrow3 hgn hg ho
  have hlen : (Ls ++ [row]).length = Ls.length + 1 := by simp
  have ga : ∀ i, i < Ls.length → (gs ++ [(gn, e)]).getD i (0, 0) = gs.getD i (0, 0) := fun i hi => by
    rw [List.getD_eq_getElem?_getD, List.getD_eq_getElem?_getD, List.getElem?_append_left (by rw [h.ss.len]; exact hi)]
  have gb : (gs ++ [(gn, e)]).getD Ls.length (0, 0) = (gn, e) := by
    rw [List.getD_eq_getElem?_getD, ← h.ss.len, List.getElem?_append_right (Nat.le_refl _)]; simp
  have gi4 : ∀ i, i < (Ls ++ [row]).length → g < ((gs ++ [(gn, e)]).getD i (0, 0)).1 ∧ ((gs ++ [(gn, e)]).getD i (0, 0)).1 ≠ q := fun i hi => by
    rw [hlen] at hi
    rcases Nat.lt_or_ge i Ls.length with hil | hil
    · rw [ga i hil]; have := h.gi i hil; have := h.qi i hil; omega
    · obtain rfl : i = Ls.length := by omega
      rw [gb]; have := h.gq; simp only; omega
  have hneq : ∀ k, blk ao = some k → k ≠ q := fun k hk => by have := h.ql k hk; omega
  have bq4 : Boxed W4 q 22 (.slice (some ⟨g, p, none⟩) r c) := (h.bq.kept g13 (by simp)).kept hg (fun e => hneq q e.symm rfl)
  have bp4 : Boxed W4 p0 22 (.slice a n cap) := (h.bp.kept g13 (by simp)).kept hg (fun e => by have := (hblk p0 e.symm).1; have := h.pB; omega)
  have og3 : W3.ownsRow w.heap.size 3 1 (.slice (some ⟨g, 0, none⟩) n cO) n ((niG O).map iv) := own_grown h.og g13 (fun k _ e => by cases e)
  have og4 : W4.ownsRow w.heap.size 3 1 (.slice (some ⟨g, 0, none⟩) n cO) n ((niG O).map iv) := own_grown og3 hg (fun k hk e => by
    have hkg : k = g := by simp [blk] at hk; omega
    exact h.gB k e hkg)
  have hg4q : g4 ≠ q := by
    rintro rfl
    have c1 := ss4.cell 0 (by rw [hlen]; omega)
    rw [bq4.cell] at c1
    have := (gi4 0 (by rw [hlen]; omega)).1
    simp only [Option.some.injEq, Value.slice.injEq, Addr.mk.injEq] at c1
    omega
  have hg4g : g4 ≠ g := by
    rintro rfl
    have c1 := ss4.cell 0 (by rw [hlen]; omega)
    rw [cell_own og4 hn] at c1
    simp [iv] at c1
  have hset : W4.grownBy (W4.setCell ⟨q, 0, none⟩ left) (some q) := grownBy_setCell' W4 q left
  have ss5 := ss4.aside hset (fun k e => by
    cases e
    exact ⟨fun e => hg4q (by simpa [blk] using e), fun i hi => (gi4 i hi).2⟩)
  have hpq : p0 ≠ q := by have := h.pg; have := h.gq; omega
  have bp5 : Boxed (W4.setCell ⟨q, 0, none⟩ left) p0 22 (.slice a n cap) := bp4.kept hset (by simp; exact hpq)
  have og5 : (W4.setCell ⟨q, 0, none⟩ left).ownsRow w.heap.size 3 1 (.slice (some ⟨g, 0, none⟩) n cO) n ((niG O).map iv) := own_grown og4 hset (fun k hk e => by
    have hkg : k = g := by simp [blk] at hk; omega
    cases e
    have := h.gq
    omega)
  have hs5 : (W4.setCell ⟨q, 0, none⟩ left).heap.size = W4.heap.size := by simp
  have hs4 : W3.heap.size ≤ W4.heap.size := hg.size
  have hwq : w.heap.size ≤ q := by have := h.wB; have := h.pg; have := h.gq; omega
  have hb3 : Below w.heap.size w W3 := by rw [hW3]; exact (h.hb.trans (hb12.mono h.hb.size)).alloc (h.hb.trans (hb12.mono h.hb.size)).size _
  have hb4 : Below w.heap.size w W4 := hb3.grown hg hb3.size (fun k e => by have := (hblk k e).1; have := h.pB; have := h.wB; omega)
  have hb5 : Below w.heap.size w (W4.setCell ⟨q, 0, none⟩ left) := hb4.setCell (p := ⟨q, 0, none⟩) hwq _
  have hgal : (W4.setCell ⟨q, 0, none⟩ left).grownBy ((W4.setCell ⟨q, 0, none⟩ left).alloc (.cells #[left] 22)) none := World.grownBy_alloc _ _ _
  have bnew := Boxed.new (W4.setCell ⟨q, 0, none⟩ left) 22 left
  rw [hs5] at bnew
  refine ⟨hb5.alloc hb5.size _, ss5.aside hgal (fun k e => by cases e), own_grown og5 hgal (fun k _ e => by cases e), bp5.alloc _, bnew, ?_, ?_, fun i hi => (gi4 i hi).1, ?_, ?_, h.pB, h.pg, h.wB, ?_⟩
  · intro k hk
    have := (ss4.blkO hk).2
    exact this
  · intro i hi
    exact (ss4.blkI i hi).2
  · have := (og4.lt g rfl).2
    exact this
  · intro k hk
    simp only [blk, Option.map_some, Option.some.injEq] at hk
    first | (rw [← hk]; exact hg4g) | (intro e; exact hg4g (by omega))
  · have := h.Bs
    simp
    omega
end Go.Proofs.Ytpndfmlkceplcaa
namespace Go.Proofs.Ytpndfmlkceplcaa
open Go.ChangeShapes Go.WideShapes Go.ChangeAt Go.RowKit Go.Sort
set_option linter.unusedVariables false

theorem getD_snoc_l {α : Type} (L : List α) (x d : α) {i : Nat} (h : i < L.length) : (L ++ [x]).getD i d = L.getD i d := by
  rw [List.getD_eq_getElem?_getD, List.getD_eq_getElem?_getD, List.getElem?_append_left h]
theorem getD_snoc_r {α : Type} (L : List α) (x d : α) {i : Nat} (h : i = L.length) : (L ++ [x]).getD i d = x := by
  rw [List.getD_eq_getElem?_getD, h, List.getElem?_append_right (Nat.le_refl _)]; simp

theorem OwnSS.more {W W1 W2 : World} {B G c gl cl g2 c2 : Nat} {gs : List (Nat × Nat)} {Ls : List (List Int)} {T T2 : List Int}
    (h : OwnSS W B (some ⟨G, 0, none⟩) c (gs ++ [(gl, cl)]) (Ls ++ [T])) (hg1 : W.grownBy W1 none) (hg2 : W1.grownBy W2 (some gl))
    (ho : W2.ownsRow B 3 1 (.slice (some ⟨g2, 0, none⟩) T2.length c2) T2.length (T2.map iv)) (hT2 : 0 < T2.length)
    (hne : ∀ j, j < Ls.length → 0 < (Ls.getD j []).length ∧ (Ls.getD j []).getD 0 0 ≠ T2.getD 0 0) :
    OwnSS (W2.setCell ⟨G, Ls.length, none⟩ (.slice (some ⟨g2, 0, none⟩) T2.length c2)) B (some ⟨G, 0, none⟩) c (gs ++ [(g2, c2)]) (Ls ++ [T2]) ∧ W2.grownBy (W2.setCell ⟨G, Ls.length, none⟩ (.slice (some ⟨g2, 0, none⟩) T2.length c2)) (some G) := by
  have hl1 : (Ls ++ [T]).length = Ls.length + 1 := by simp
  have hl2 : (Ls ++ [T2]).length = Ls.length + 1 := by simp
  have hgl : gs.length = Ls.length := by have := h.len; simp at this; exact this
  have hlast : (gs ++ [(gl, cl)]).getD Ls.length (0, 0) = (gl, cl) := getD_snoc_r _ _ _ hgl.symm
  have hGgl : G ≠ gl := by
    have := h.apart Ls.length (by rw [hl1]; omega)
    rw [hlast] at this
    intro e
    exact this (by simp [blk, e])
  have o1 := own_grE h.out hg1 (fun k _ e => by cases e)
  have o2 := own_grE o1 hg2 (fun k hk e => by cases e; exact hGgl (by simpa [blk] using hk))
  have hsvl : (svs (gs ++ [(gl, cl)]) (Ls ++ [T])) = svs gs Ls ++ [sv (gl, cl) T] := svs_snoc hgl _ _
  have hst := o2.stored Ls.length (sv (g2, c2) T2)
  have hset : (svs (gs ++ [(gl, cl)]) (Ls ++ [T])).set Ls.length (sv (g2, c2) T2) = svs (gs ++ [(g2, c2)]) (Ls ++ [T2]) := by
    rw [hsvl, svs_snoc hgl, List.set_append_right _ _ (by rw [svs_len hgl]; exact Nat.le_refl _), svs_len hgl, Nat.sub_self]
    rfl
  rw [hset] at hst
  have hsvv : sv (g2, c2) T2 = .slice (some ⟨g2, 0, none⟩) T2.length c2 := rfl
  rw [hsvv] at hst
  have in2 : ∀ i, i < Ls.length → W2.ownsRow B 3 1 (sv (gs.getD i (0, 0)) (Ls.getD i [])) (Ls.getD i []).length ((Ls.getD i []).map iv) ∧ G ≠ (gs.getD i (0, 0)).1 := by
    intro i hi
    have h1 := h.inn i (by rw [hl1]; omega)
    have h2 := h.nd i Ls.length (by rw [hl1]; omega) (by rw [hl1]; omega) (by omega)
    have h3 := h.apart i (by rw [hl1]; omega)
    rw [getD_snoc_l gs _ _ (by omega), getD_snoc_l Ls _ _ hi] at h1
    rw [hlast, getD_snoc_l gs _ _ (by omega)] at h2
    rw [getD_snoc_l gs _ _ (by omega)] at h3
    refine ⟨own_grE (own_grE h1 hg1 (fun k _ e => by cases e)) hg2 (fun k hk e => by cases e; exact h2 (by simpa [blk] using hk)), fun e => h3 (by simp [blk, e])⟩
  have hc0 : W2.cell? ⟨g2, 0, none⟩ = some (iv (T2.getD 0 0)) := cell_own ho hT2
  have hG2 : g2 ≠ G := by
    rintro rfl
    have h1 : W2.cell? ⟨g2, 0, none⟩ = (svs (gs ++ [(gl, cl)]) (Ls ++ [T]))[0]? := o2.cellAt 0 (by rw [hl1]; omega)
    rw [hc0, svs_at h.len 0 (by rw [hl1]; omega)] at h1
    simp [iv, sv] at h1
  refine ⟨⟨by simp [hgl], ?_, fun i hi => ?_, fun i j hi hj hij => ?_⟩, hst.2⟩
  · have := hst.1
    rw [hl1] at this
    rw [hl2]
    exact this
  · rw [hl2] at hi
    rcases Nat.lt_or_ge i Ls.length with hil | hil
    · rw [getD_snoc_l gs _ _ (by omega), getD_snoc_l Ls _ _ hil]
      exact own_grE (in2 i hil).1 hst.2 (fun k hk e => by cases e; exact (in2 i hil).2 (by simpa [blk] using hk.symm))
    · obtain rfl : i = Ls.length := by omega
      rw [getD_snoc_r gs _ _ hgl.symm, getD_snoc_r Ls _ _ rfl]
      exact own_grE ho hst.2 (fun k hk e => by cases e; exact hG2 (by simpa [blk] using hk))
  · rw [hl2] at hi hj
    have key : ∀ i, i < Ls.length → (gs.getD i (0, 0)).1 ≠ g2 := fun i hil e => by
      obtain ⟨hp, hh⟩ := hne i hil
      have h1 : W2.cell? ⟨(gs.getD i (0, 0)).1, 0, none⟩ = some (iv ((Ls.getD i []).getD 0 0)) := cell_own (in2 i hil).1 hp
      rw [e, hc0] at h1
      simp only [iv, Option.some.injEq, Value.int.injEq, true_and] at h1
      exact hh h1.symm
    rcases Nat.lt_or_ge i Ls.length with hil | hil
    · rw [getD_snoc_l gs _ _ (by omega)]
      rcases Nat.lt_or_ge j Ls.length with hjl | hjl
      · rw [getD_snoc_l gs _ _ (by omega)]
        have := h.nd i j (by rw [hl1]; omega) (by rw [hl1]; omega) hij
        rw [getD_snoc_l gs _ _ (by omega), getD_snoc_l gs _ _ (by omega)] at this
        exact this
      · obtain rfl : j = Ls.length := by omega
        rw [getD_snoc_r gs _ _ hgl.symm]; exact key i hil
    · obtain rfl : i = Ls.length := by omega
      rw [getD_snoc_r gs _ _ hgl.symm, getD_snoc_l gs _ _ (by omega)]
      exact fun e => key j (by omega) e.symm

/-! The model's groups of the first indices. -/
def grp (l : List Int) (O : List Nat) (k : Nat) : List (List Nat) := (O.take k).foldl (stepM l) []
theorem grp_succ (l : List Int) (O : List Nat) {k : Nat} (h : k < O.length) : grp l O (k + 1) = stepM l (grp l O k) (O.getD k 0) := by
  unfold grp
  rw [List.take_add_one, List.foldl_append, List.getD_eq_getElem?_getD, List.getElem?_eq_getElem h]
  rfl
theorem grp_all {l : List Int} {O : List Nat} : grp l O O.length = lvlF l O := by
  unfold grp
  rw [List.take_length, fold_lvl l O.length O [] (Nat.le_refl _) (fun x r _ => .inl rfl), List.nil_append]
theorem grp_flat (l : List Int) (O : List Nat) : ∀ k, k ≤ O.length → (grp l O k).flatten = O.take k ∧ ∀ T ∈ grp l O k, T ≠ []
  | 0, _ => by simp [grp]
  | k + 1, h => by
    obtain ⟨h1, h2⟩ := grp_flat l O k (by omega)
    rw [grp_succ l O (by omega)]
    have hO : O.take (k + 1) = O.take k ++ [O.getD k 0] := by
      rw [List.take_add_one, List.getD_eq_getElem?_getD, List.getElem?_eq_getElem (by omega : k < O.length)]; rfl
    generalize grp l O k = out at h1 h2 ⊢
    rw [hO, ← h1]
    unfold stepM
    split
    · rename_i hc
      obtain ⟨I, T, rfl⟩ : ∃ I T, out = I ++ [T] := ⟨out.dropLast, out.getLast hc.1, (List.dropLast_concat_getLast hc.1).symm⟩
      refine ⟨by simp, ?_⟩
      intro U hU
      simp only [List.dropLast_concat, List.getLastD_concat, List.mem_append, List.mem_singleton] at hU
      rcases hU with hU | rfl
      · exact h2 U (List.mem_append_left _ hU)
      · simp
    · refine ⟨by simp, ?_⟩
      intro U hU
      rcases List.mem_append.1 hU with hU | hU
      · exact h2 U hU
      · rw [List.mem_singleton] at hU; rw [hU]; simp
/-- The heads of the groups differ. -/
theorem heads_differ {Ls : List (List Nat)} {T : List Nat} (hn : (Ls ++ [T]).flatten.Nodup) (he : ∀ U ∈ Ls ++ [T], U ≠ []) {j : Nat} (hj : j < Ls.length) : 0 < (Ls.getD j []).length ∧ (Ls.getD j []).getD 0 0 ≠ T.getD 0 0 := by
  have hm : Ls.getD j [] ∈ Ls := by
    rw [List.getD_eq_getElem?_getD, List.getElem?_eq_getElem hj]; exact List.getElem_mem _
  have h1 := he _ (List.mem_append_left _ hm)
  have h2 := he T (by simp)
  generalize Ls.getD j [] = U at hm h1 ⊢
  refine ⟨List.length_pos_iff.2 h1, ?_⟩
  rw [List.flatten_append, List.nodup_append] at hn
  obtain ⟨_, _, h3⟩ := hn
  cases U with
  | nil => exact absurd rfl h1
  | cons u U =>
    cases T with
    | nil => exact absurd rfl h2
    | cons t T =>
      exact h3 u (List.mem_flatten.2 ⟨u :: U, hm, by simp⟩) t (by simp)
end Go.Proofs.Ytpndfmlkceplcaa
namespace Go.Proofs.Ytpndfmlkceplcaa
open Go.ChangeShapes Go.WideShapes Go.ChangeAt Go.RowKit Go.Sort
set_option linter.unusedVariables false

theorem own_rebase {w : World} {B B2 g n c : Nat} {e : TypeId} {xs : List Value} (h : w.ownsRow B e 1 (.slice (some ⟨g, 0, none⟩) n c) n xs) (hB : B2 ≤ g) : w.ownsRow B2 e 1 (.slice (some ⟨g, 0, none⟩) n c) n xs := by
  rcases h.2 with ⟨hn, _⟩ | ⟨g2, c2, cur, he, _, h3, h4, h5, h6, h7⟩
  · cases hn
  · simp only [Value.slice.injEq, Option.some.injEq, Addr.mk.injEq, and_true, true_and] at he
    obtain ⟨rfl, rfl⟩ := he
    exact ⟨h.1, .inr ⟨g, c, cur, rfl, hB, h3, h4, h5, h6, h7⟩⟩

structure Mv (w W : World) (Q go n cO : Nat) (O : List Nat) (ao : Option Addr) (co : Nat) (gs : List (Nat × Nat)) (Gs : List (List Int)) : Prop where
  hb : Below w.heap.size w W
  ss : OwnSS W w.heap.size ao co gs Gs
  og : W.ownsRow w.heap.size 3 1 (.slice (some ⟨go, 0, none⟩) n cO) n ((niG O).map iv)
  gi : ∀ i, i < Gs.length → Q ≤ (gs.getD i (0, 0)).1
  gQ : go < Q
  QW : Q ≤ W.heap.size
  gB : ∀ k, blk ao = some k → k ≠ go
theorem Mv.below {w W W' : World} {Q go n cO : Nat} {O : List Nat} {ao : Option Addr} {co : Nat} {gs : List (Nat × Nat)} {Gs : List (List Int)} (h : Mv w W Q go n cO O ao co gs Gs) (hb : Below W.heap.size W W') : Mv w W' Q go n cO O ao co gs Gs :=
  ⟨h.hb.trans (hb.mono h.hb.size), h.ss.below hb, own_below h.og hb, h.gi, h.gQ, Nat.le_trans h.QW hb.size, h.gB⟩

theorem Mv.push {w W W4 : World} {Q go n cO : Nat} {O : List Nat} {ao : Option Addr} {co : Nat} {gs : List (Nat × Nat)} {Gs : List (List Int)} {g4 c4 : Nat} {x : Int} (h : Mv w W Q go n cO O ao co gs Gs) (hn : 0 < n)
    (hg : ((W.alloc (.cells #[.int .i64 x] 3)).alloc (.cells #[.slice (some ⟨W.heap.size, 0, none⟩) 1 1] 22)).grownBy W4 (blk ao))
    (ho : W4.ownsRow w.heap.size 22 1 (.slice (some ⟨g4, 0, none⟩) (Gs.length + 1) c4) (Gs.length + 1) (svs gs Gs ++ [.slice (some ⟨W.heap.size, 0, none⟩) 1 1])) :
    Mv w W4 Q go n cO O (some ⟨g4, 0, none⟩) c4 (gs ++ [(W.heap.size, 1)]) (Gs ++ [[x]]) := by
  have hs := h.hb.size
  have g1 : W.grownBy ((W.alloc (.cells #[.int .i64 x] 3)).alloc (.cells #[.slice (some ⟨W.heap.size, 0, none⟩) 1 1] 22)) none := (World.grownBy_alloc W _ none).trans (World.grownBy_alloc _ _ _)
  have hrow : ((W.alloc (.cells #[.int .i64 x] 3)).alloc (.cells #[.slice (some ⟨W.heap.size, 0, none⟩) 1 1] 22)).ownsRow w.heap.size 3 1 (.slice (some ⟨W.heap.size, 0, none⟩) [x].length 1) [x].length ([x].map iv) :=
    (World.ownsRow_lit (base := w.heap.size) (e := 3) (size := 1) W #[.int .i64 x] 1 hs (by unfold maxLen; omega) rfl).alloc _
  have hb1 : Below w.heap.size w ((W.alloc (.cells #[.int .i64 x] 3)).alloc (.cells #[.slice (some ⟨W.heap.size, 0, none⟩) 1 1] 22)) := by
    have hA := h.hb.alloc hs (.cells #[.int .i64 x] 3)
    exact hA.alloc hA.size _
  have hne : ∀ k, blk ao = some k → w.heap.size ≤ k := fun k hk => (h.ss.blkO hk).1
  have hb3 : Below w.heap.size w W4 := hb1.grown hg hb1.size (fun k e => hne k e)
  have og4 : W4.ownsRow w.heap.size 3 1 (.slice (some ⟨go, 0, none⟩) n cO) n ((niG O).map iv) := own_grown (own_grown h.og g1 (fun k _ e => by cases e)) hg (fun k hk e => by
    have hkg : k = go := by simp [blk] at hk; omega
    exact h.gB k e hkg)
  have ss4 := h.ss.push g1 hrow (Nat.le_refl _) hg ho
  refine ⟨hb3, ss4, og4, fun i hi => ?_, h.gQ, Nat.le_trans h.QW (Nat.le_trans g1.size hg.size), fun k hk => ?_⟩
  · have hlen : (Gs ++ [[x]]).length = Gs.length + 1 := by simp
    rw [hlen] at hi
    rcases Nat.lt_or_ge i Gs.length with hil | hil
    · rw [getD_snoc_l gs _ _ (by rw [h.ss.len]; exact hil)]; exact h.gi i hil
    · rw [getD_snoc_r gs _ _ (by rw [h.ss.len]; omega)]; exact h.QW
  · simp only [blk, Option.map_some, Option.some.injEq] at hk
    rw [← hk]
    rintro rfl
    have c1 := ss4.cell 0 (by simp)
    rw [cell_own og4 hn] at c1
    simp [iv] at c1

theorem Mv.more {w W W2 : World} {Q go n cO : Nat} {O : List Nat} {G co : Nat} {gs : List (Nat × Nat)} {Ls : List (List Int)} {T : List Int} {gl cl g2 c2 : Nat} {x : Int} (h : Mv w W Q go n cO O (some ⟨G, 0, none⟩) co (gs ++ [(gl, cl)]) (Ls ++ [T])) (hn : 0 < n)
    (hg2 : (W.alloc (.cells #[.int .i64 x] 3)).grownBy W2 (some gl))
    (ho : W2.ownsRow Q 3 1 (.slice (some ⟨g2, 0, none⟩) (T.length + 1) c2) (T.length + 1) ((T ++ [x]).map iv)) (hT : 0 < T.length)
    (hne : ∀ j, j < Ls.length → 0 < (Ls.getD j []).length ∧ (Ls.getD j []).getD 0 0 ≠ T.getD 0 0) :
    Mv w (W2.setCell ⟨G, Ls.length, none⟩ (.slice (some ⟨g2, 0, none⟩) (T.length + 1) c2)) Q go n cO O (some ⟨G, 0, none⟩) co (gs ++ [(g2, c2)]) (Ls ++ [T ++ [x]]) := by
  have hs := h.hb.size
  have hgl : gs.length = Ls.length := by have := h.ss.len; simp at this; exact this
  have hQs := h.QW
  have hwQ : w.heap.size ≤ Q := by have := (h.og.lt go rfl).1; have := h.gQ; omega
  have g1 : W.grownBy (W.alloc (.cells #[.int .i64 x] 3)) none := World.grownBy_alloc W _ none
  have hlT : (T ++ [x]).length = T.length + 1 := by simp
  have hoT : W2.ownsRow w.heap.size 3 1 (.slice (some ⟨g2, 0, none⟩) (T ++ [x]).length c2) (T ++ [x]).length ((T ++ [x]).map iv) := by rw [hlT]; exact ho.mono hwQ
  have hglQ : Q ≤ gl := by
    have := h.gi Ls.length (by simp)
    rw [getD_snoc_r gs _ _ hgl.symm] at this
    exact this
  have hG := (h.ss.blkO (k := G) rfl)
  have hGgo := h.gB G rfl
  have hm := h.ss.more g1 hg2 hoT (by rw [hlT]; omega) (fun j hj => by
    refine ⟨(hne j hj).1, ?_⟩
    rw [List.getD_eq_getElem?_getD (l := T ++ [x]), List.getElem?_append_left hT, ← List.getD_eq_getElem?_getD]
    exact (hne j hj).2)
  rw [hlT] at hm
  have og2 : W2.ownsRow w.heap.size 3 1 (.slice (some ⟨go, 0, none⟩) n cO) n ((niG O).map iv) := own_grown (own_grown h.og g1 (fun k _ e => by cases e)) hg2 (fun k hk e => by
    have hkg : k = go := by simp [blk] at hk; omega
    cases e
    have := h.gQ
    omega)
  have hb2 : Below w.heap.size w W2 := (h.hb.alloc hs (.cells #[.int .i64 x] 3)).grown hg2 (h.hb.alloc hs _).size (fun k e => by cases e; omega)
  refine ⟨hb2.setCell (p := ⟨G, Ls.length, none⟩) hG.1 _, hm.1, own_grown og2 hm.2 (fun k hk e => by
    have hkg : k = go := by simp [blk] at hk; omega
    cases e
    exact hGgo hkg), fun i hi => ?_, h.gQ, ?_, h.gB⟩
  · have hlen : (Ls ++ [T ++ [x]]).length = Ls.length + 1 := by simp
    rw [hlen] at hi
    rcases Nat.lt_or_ge i Ls.length with hil | hil
    · have := h.gi i (by simp; omega)
      rw [getD_snoc_l gs _ _ (by omega)] at this ⊢
      exact this
    · rw [getD_snoc_r gs _ _ (by omega)]
      exact (ho.lt g2 rfl).1
  · have h1 := hg2.size
    have h2 := g1.size
    simp only [World.size_setCell]
    omega
end Go.Proofs.Ytpndfmlkceplcaa
namespace Go.Proofs.Ytpndfmlkceplcaa
open Go.ChangeShapes Go.WideShapes Go.ChangeAt Go.RowKit Go.Sort
set_option linter.unusedVariables false

theorem slice_cut3 (g off r c e : Nat) (he : e ≤ r) (hc : r ≤ c) (hc2 : c ≤ maxLen) : ∀ W : World, (Instr.sliceAt 22 (.slice (some ⟨g, off, none⟩) r c) none (some (.int .i64 (e : Int))) (some (.int .i64 (e : Int)))).run Try.prog W = .ok (.slice (some ⟨g, off, none⟩) e e) W := by
  unfold maxLen at hc2
  have h0 : (0 : Int) ≤ (e : Int) := by omega
  have hmi : (e : Int) ≤ (c : Int) := by omega
  have hec : e ≤ c := by omega
  intro W
  simp [go_sem, Try.underlying22, Try.sizeOf3, hec]
theorem own_someG {w : World} {B m c : Nat} {a : Option Addr} {xs : List Value} (h : w.ownsRow B 3 1 (.slice a m c) m xs) (h1 : 0 < m) : ∃ g, a = some ⟨g, 0, none⟩ := by
  rcases h.2 with ⟨_, hn⟩ | ⟨g, c2, cur, he, _⟩
  · omega
  · simp only [Value.slice.injEq] at he
    exact ⟨g, he.1⟩
theorem own_ss_empty (w : World) (B : Nat) (hB : B ≤ w.heap.size) : OwnSS (w.alloc (.cells #[] 22)) B (some ⟨w.heap.size, 0, none⟩) 0 [] [] :=
  ⟨rfl, ⟨rfl, .inr ⟨w.heap.size, 0, #[], rfl, hB, World.alloc_heap_new w _, Nat.le_refl _, by unfold maxLen; omega, rfl, rfl⟩⟩, fun i h => absurd h (Nat.not_lt_zero _), fun i j h => absurd h (Nat.not_lt_zero _)⟩

set_option maxRecDepth 100000 in
set_option maxHeartbeats 4000000 in
theorem implLevels (a : Option Addr) (l : List Int) (cap : Nat) (w : World) (hrow : IntRow w a l) (hl : l.length ≤ maxLen) :
    Calls Try.prog 40 #[.slice a l.length cap] w fun e w' => (∃ a0 c0 gs, e = .returned (.slice a0 (levR l).length c0) ∧ OwnSS w' w.heap.size a0 c0 gs (levR l)) ∧ Below w.heap.size w w' := by
  obtain ⟨n, hn⟩ : ∃ n, n = l.length := ⟨_, rfl⟩
  obtain ⟨W1, hW1⟩ : ∃ W1, W1 = w.alloc (.cells #[.slice a n cap] 22) := ⟨_, rfl⟩
  obtain ⟨W2, hW2⟩ : ∃ W2, W2 = W1.alloc (.cells #[] 22) := ⟨_, rfl⟩
  have hb1 : Below w.heap.size w W1 := by rw [hW1]; exact (Below.refl _ _).alloc (Nat.le_refl _) _
  have hs1 : W1.heap.size = w.heap.size + 1 := by rw [hW1]; simp
  have hb2 : Below w.heap.size w W2 := by rw [hW2]; exact hb1.alloc hb1.size _
  have hs2 : W2.heap.size = w.heap.size + 1 + 1 := by rw [hW2]; simp [hs1]
  have bp2 : Boxed W2 w.heap.size 22 (.slice a n cap) := by rw [hW2, hW1]; exact (Boxed.new w _ _).alloc _
  have ss2 : OwnSS W2 (w.heap.size + 1) (some ⟨w.heap.size + 1, 0, none⟩) 0 [] [] := by
    have := own_ss_empty W1 (w.heap.size + 1) (by omega)
    rw [hW2]; rw [hs1] at this; exact this
  have hC := implOrderBy a l cap W2 (hrow.below hb2 (Nat.le_refl _)) hl
  rw [← hn] at hC hl ⊢
  have HC := Lib.hid hC
  have HW2 : Hid (W2 = (w.alloc (.cells #[.slice a n cap] 22)).alloc (.cells #[] 22)) := by rw [hW2, hW1]; exact rfl
  have HB2 := Lib.hid hb2
  have HSS := Lib.hid ss2
  have HBP := Lib.hid bp2
  have hc0 := bp2.cell
  have HN := Lib.hid hn
  have HROW := Lib.hid hrow
  have HS2 := Lib.hid hs2
  obtain ⟨r0, hr0⟩ : ∃ r0, r0 = (ordR l).length := ⟨_, rfl⟩
  rw [← hr0] at HC
  have HR0 := Lib.hid hr0
  rw [hW2, hW1] at hc0
  clear hC hW1 hW2 hb1 hb2 hs1 hs2 bp2 ss2 hrow hn hl hr0
  rcases Nat.eq_zero_or_pos r0 with h0 | h0
  · have HR : Hid (levR l = []) := by
      show _ = _
      have h1 := HR0.out
      unfold ordR at h1
      unfold levR
      split
      · rename_i h
        rw [if_pos h, List.length_map, ordL_len] at h1
        have : ordL l = [] := List.eq_nil_of_length_eq_zero (by rw [ordL_len]; omega)
        rw [this]; rfl
      · rfl
    rw [HR.out]
    subst h0
    go_enter Try.func40, Try.ntmps40
    go_wp2_with fail
    rw [← HW2.out]
    refine HC.out.mono ?_
    rintro e w3 ⟨⟨a3, c3, rfl, ho3⟩, hb3⟩
    have S3 := Lib.hid (HSS.out.below hb3)
    have B3 := Lib.hid (HB2.out.trans (hb3.mono HB2.out.size))
    have bx := Boxed.new w3 22 (.slice a3 0 c3)
    have hc1 := bx.cell
    have S4 : Hid (OwnSS (w3.alloc (.cells #[.slice a3 0 c3] 22)) w.heap.size (some ⟨w.heap.size + 1, 0, none⟩) 0 [] []) := (S3.out.aside (World.grownBy_alloc w3 _ none) (fun k e => by cases e)).mono (Nat.le_succ _)
    have B4 : Hid (Below w.heap.size w (w3.alloc (.cells #[.slice a3 0 c3] 22))) := B3.out.alloc B3.out.size _
    clear ho3 hb3 hc0 bx
    go_wp2
    refine wp_loop_rounds 1 ?_
    rw [rounds_succ]
    go_wp2
    go_ret
    exact ⟨⟨some ⟨w.heap.size + 1, 0, none⟩, 0, [], rfl, S4.out⟩, B4.out⟩
  · have h40 : n ≤ 40 ∧ r0 = n := by
      have h1 := HR0.out
      unfold ordR at h1
      split at h1
      · rename_i h
        rw [List.length_map, ordL_len] at h1
        have := HN.out
        omega
      · simp at h1; omega
    obtain ⟨hn40, rfl⟩ := h40
    obtain ⟨O, hO⟩ : ∃ O, O = ordL l := ⟨_, rfl⟩
    have hOl : O.length = r0 := by rw [hO, ordL_len]; exact HN.out.symm
    have HOR : Hid (ordR l = niG O) := by show _ = _; unfold ordR; rw [if_pos (by have := HN.out; omega), hO]; rfl
    have HLR : Hid (levR l = (lvlF l O).map niG) := by show _ = _; unfold levR; rw [if_pos (by have := HN.out; omega), hO]
    have HOS : Hid (O.Pairwise (leI l)) := by rw [hO]; exact ordTo_sorted l _
    have HOlt : Hid (∀ j, j < r0 → O.getD j 0 < r0) := fun j hj => by
      rw [List.getD_eq_getElem?_getD, List.getElem?_eq_getElem (by omega)]
      have := ordTo_lt l l.length O[j] (by rw [show ordTo l l.length = O from hO.symm]; exact List.getElem_mem _)
      have := HN.out
      show O[j] < r0
      omega
    have HOl := Lib.hid hOl
    rw [HOR.out] at HC
    clear hO hOl
    go_enter Try.func40, Try.ntmps40
    go_wp2_with fail
    rw [← HW2.out]
    refine HC.out.mono ?_
    rintro e w3 ⟨⟨a3, c3, rfl, ho3⟩, hb3⟩
    obtain ⟨g, rfl⟩ := own_someG ho3 h0
    have hgl := ho3.lt g rfl
    have hcap := own_cap ho3
    have hs2 := HS2.out
    have hs3 := hb3.size
    have bx := Boxed.new w3 22 (.slice (some ⟨g, 0, none⟩) r0 c3)
    have hgal : w3.grownBy (w3.alloc (.cells #[.slice (some ⟨g, 0, none⟩) r0 c3] 22)) none := World.grownBy_alloc _ _ _
    have B3 := HB2.out.trans (hb3.mono HB2.out.size)
    have L0 : Hid (Lv w (w3.alloc (.cells #[.slice (some ⟨g, 0, none⟩) r0 c3] 22)) (w.heap.size + 1) w.heap.size w3.heap.size g a r0 cap l O c3 (some ⟨w.heap.size + 1, 0, none⟩) 0 [] [] (.slice (some ⟨g, 0, none⟩) r0 c3)) :=
      ⟨B3.alloc B3.size _, (HSS.out.below hb3).aside hgal (fun k e => by cases e), own_grown (ho3.mono (by omega)) hgal (fun k _ e => by cases e), (HBP.out.kept (grown_of_below hb3) (by simp)).alloc _, bx,
        fun k hk => by simp [blk] at hk; omega, fun i hi => absurd hi (Nat.not_lt_zero _), fun i hi => absurd hi (Nat.not_lt_zero _), hgl.2, fun k hk => by simp [blk] at hk; omega, Nat.lt_succ_self _, by omega, Nat.le_refl _, by simp; omega⟩
    have hfirst : Hid (([] : List (List Int)) ++ (lvlF l (O.drop 0)).map niG = levR l) := by show _ = _; rw [HLR.out]; simp
    obtain ⟨q0, hq0⟩ : ∃ q0, q0 = w3.heap.size := ⟨_, rfl⟩
    have HCP := Lib.hid hcap
    have hc1 := bx.cell
    clear ho3 hb3 hgl hs2 hs3 hgal B3 bx hc0 HC HSS HBP
    go_wp2
    rw [← hq0]
    rw [← hq0] at L0
    clear hc1
    go_loopg [3, 4] r0 (fun gh out lp wr => ∃ (q r c p co : Nat) (ao : Option Addr) (gs : List (Nat × Nat)) (Ls : List (List Int)) (ad : Addr), out = .slice ao Ls.length co ∧ lp = .pointer (some ⟨q, 0, none⟩) ∧ p + r = r0 ∧ Ls.length ≤ p ∧ r ≤ gh ∧ r ≤ c ∧ c ≤ maxLen ∧ Hid (0 < r → ad = ⟨g, p, none⟩) ∧ Hid (Lv w wr (w.heap.size + 1) w.heap.size q g a r0 cap l O c3 ao co gs Ls (.slice (some ad) r c)) ∧ Hid (Ls ++ (lvlF l (O.drop p)).map niG = levR l))
    case atStart => exact ⟨q0, r0, c3, 0, 0, some ⟨w.heap.size + 1, 0, none⟩, [], [], ⟨g, 0, none⟩, rfl, rfl, Nat.zero_add _, Nat.le_refl _, Nat.le_refl _, HCP.out.1, HCP.out.2, fun _ => rfl, L0, hfirst⟩
    case round =>
      clear L0 hfirst
      obtain ⟨q, r, c, p, co, ao, gs, Ls, ad, rfl, rfl, hpr, hLp, hrg, hrc, hcm, had, hL, hR⟩ := hrel
      have b0 := hL.out.bq.cell
      by_cases hlt : 0 < r
      · obtain rfl := had.out hlt
        have hri : (0 : Int) < (r : Int) := by omega
        obtain ⟨L, hLe⟩ : ∃ L, L = O.drop p := ⟨_, rfl⟩
        have hLl : L.length = r := by rw [hLe, List.length_drop]; have := HOl.out; omega
        have hLat : ∀ j, j < r → L.getD j 0 = O.getD (p + j) 0 := fun j hj => by
          rw [hLe, List.getD_eq_getElem?_getD, List.getD_eq_getElem?_getD, List.getElem?_drop]
        obtain ⟨e, he⟩ : ∃ e, e = gl l L := ⟨_, rfl⟩
        have he1 : 1 ≤ e := by rw [he]; exact gl_pos l L (by omega)
        have her : e ≤ r := by rw [he]; have := gl_le l L; omega
        have HLS : Hid (L.Pairwise (leI l)) := by rw [hLe]; exact HOS.out.sublist (List.drop_sublist _ _)
        have HCELL : Hid (∀ W, Below wr.heap.size wr W → ∀ j, j < r → W.cell? ⟨g, p + j, none⟩ = some (.int .i64 ((L.getD j 0 : Nat) : Int))) := fun W hW j hj => by
          rw [hLat j hj, cell_own (own_below hL.out.og hW) (show p + j < r0 by omega), niG_at O (by have := HOl.out; omega)]; rfl
        have hcut := lvlF_cut l L (by omega)
        rw [← he] at hcut
        have hRn : Hid ((Ls ++ [niG (L.take e)]) ++ (lvlF l (O.drop (p + e))).map niG = levR l) := by
          show _ = _
          rw [← hR.out, ← hLe, hcut, List.map_cons, hLe, List.drop_drop, List.append_assoc]
          rfl
        have hcb := countBelow_any r (by omega) 108 #[.pointer (some ⟨w.heap.size, 0, none⟩), .pointer (some ⟨q, 0, none⟩)] (fun i => eqK l (L.getD 0 0) (L.getD i 0)) wr (enters_of Try.func108 (by kernel_rfl) rfl)
          (fun W k hW hk => level1_any w.heap.size q k r0 cap r c g p a l L W (hL.out.bp.kept (grown_of_below hW) (by simp)).cell (hL.out.bq.kept (grown_of_below hW) (by simp)).cell HN.out.symm (HROW.out.below (hL.out.hb.trans (hW.mono hL.out.hb.size)) (Nat.le_refl _)) hk hLl
            (fun j hj => by rw [hLat j hj]; exact HOlt.out _ (by omega)) (HCELL.out W hW))
        rw [← hLl, gl_count HLS.out (by omega), ← he, hLl] at hcb
        have HCB := Lib.hid hcb
        have hs3 := slice_cut3 g p r c e her hrc hcm
        obtain ⟨ad5, had5, hs5⟩ := slice_rest g p r c e her hrc hcm
        have hTl : (niG (L.take e)).length = e := by unfold niG; rw [List.length_map, List.length_take]; omega
        have HTl := Lib.hid hTl
        have HTc : Hid (∀ j, j < e → (niG (L.take e)).getD j 0 = ((L.getD j 0 : Nat) : Int)) := fun j hj => by
          rw [niG_at _ (by rw [List.length_take]; omega), List.getD_eq_getElem?_getD, List.getElem?_take, if_pos hj, List.getD_eq_getElem?_getD]
        have hgwr := (hL.out.og.lt g rfl).2
        obtain ⟨i0, hi, hz0, hz1, hz2⟩ := info_parts infoSS
        have HAD5 := Lib.hid had5
        clear hcb hcut he hLat hLe hR had hLl had5 hTl
        go_wp2_with fail
        refine HCB.out.mono ?_
        rintro ex w1 ⟨rfl, hb1⟩
        have b1 := (hL.out.bq.kept (grown_of_below hb1) (by simp)).cell
        have HCO := Lib.hid (copyOf_any g p e e (niG (L.take e)) w1 HTl.out (by omega) (fun j hj => by rw [HTc.out j hj]; exact HCELL.out w1 hb1 j (by omega)) (Nat.lt_of_lt_of_le hgwr hb1.size))
        have B1 := Lib.hid hb1
        clear hb1 b0
        go_wp2_with fail
        refine HCO.out.mono ?_
        rintro ex w2 ⟨⟨gn, rfl, hgn, hogn⟩, hb2⟩
        have B2 := Lib.hid (B1.out.trans (hb2.mono B1.out.size))
        have HGN : Hid (wr.heap.size ≤ gn) := Nat.le_trans B1.out.size hgn
        have OGN : Hid (w2.ownsRow wr.heap.size 3 1 (.slice (some ⟨gn, 0, none⟩) (niG (L.take e)).length e) (niG (L.take e)).length ((niG (L.take e)).map iv)) := by
          show World.ownsRow _ _ _ _ _ _ _
          rw [HTl.out]; exact hogn.mono B1.out.size
        have g12 : wr.grownBy (w2.alloc (.cells #[.slice (some ⟨gn, 0, none⟩) e e] 22)) none := (grown_of_below B2.out).trans (World.grownBy_alloc w2 _ none)
        have hout := (hL.out.ss.aside g12 (fun k e => by cases e)).out
        have HOW := Lib.hid hout
        have hb3 : w.heap.size + 1 ≤ (w2.alloc (.cells #[.slice (some ⟨gn, 0, none⟩) e e] 22)).heap.size := by have := hL.out.Bs; have := g12.size; omega
        have HC3 : Hid (∀ j u, [Value.slice (some ⟨gn, 0, none⟩) e e][j]? = some u → (w2.alloc (.cells #[.slice (some ⟨gn, 0, none⟩) e e] 22)).cell? ((⟨w2.heap.size, 0, none⟩ : Addr).add j) = some u) := fun j u hj => by
          obtain ⟨hj1, rfl⟩ := List.getElem?_eq_some_iff.1 hj
          obtain rfl : j = 0 := by simpa using hj1
          rw [Addr.add_lit]; simp
        have G12 := Lib.hid g12
        have hLsn : Ls.length ≤ r0 := by omega
        clear hb2 hgn hogn b1 HCB HCO g12 hout
        go_wp2_with (at_builtin; refine wpList_append_own _ rfl _ _ 47 rfl (w.heap.size + 1) 22 i0 (.slice none 0 0) 1 24 Try.underlying47 hi hz0 hz1 hz2 rfl (by decide) _ _ _ rfl HOW.out ⟨w2.heap.size, 0, none⟩ 1 1 [.slice (some ⟨gn, 0, none⟩) e e] rfl rfl HC3.out (by intro u hu; simp at hu; subst hu; rfl) (by unfold maxLen; omega) (by omega) hb3 ?_)
        intro v4 w4 hown4 hg4 hnil4
        obtain ⟨g4, c4, rfl⟩ : ∃ g4 c4, v4 = .slice (some ⟨g4, 0, none⟩) (Ls.length + 1) c4 := by
          rcases hown4.2 with ⟨hv, _⟩ | ⟨g4, c4, cur, hv, _⟩
          · exact absurd hv (by simpa using hnil4)
          · exact ⟨g4, c4, hv⟩
        rw [blk_own] at hg4
        have bq4 := (hL.out.bq.kept G12.out (by simp)).kept hg4 (fun e => absurd (hL.out.ql q e.symm) (Nat.lt_irrefl _))
        have b4 := bq4.cell
        have b5 := bq4.frozen
        have HST := Lib.hid (Lv.step hL.out (by omega) HOl.out B2.out HTl.out OGN.out HGN.out hg4 hown4 (.slice (some ad5) (r - e) (c - e)))
        clear bq4 hown4 hg4 hnil4 HOW HC3 hL HCELL
        go_wp2
        go_roundg (r - e)
        case measure => omega
        case rel => exact ⟨w4.heap.size, r - e, c - e, p + e, c4, some ⟨g4, 0, none⟩, gs ++ [(gn, e)], Ls ++ [niG (L.take e)], ad5, by rw [List.length_append]; rfl, rfl, by omega, by rw [List.length_append]; simp; omega, by omega, by omega, by omega, fun h => HAD5.out (by omega), HST.out, hRn⟩
      · obtain rfl : r = 0 := by omega
        have hfin : Hid (Ls = levR l) := by
          show _ = _
          have := hR.out
          rw [List.drop_eq_nil_of_le (by have := HOl.out; omega)] at this
          simpa [lvlF, lvl] using this
        have S9 := Lib.hid (hL.out.ss.mono (Nat.le_succ _))
        have B9 := Lib.hid hL.out.hb
        clear hL hR had
        go_wp2
        go_ret
        refine ⟨⟨ao, co, gs, by rw [← hfin.out]; rfl, ?_⟩, B9.out⟩
        rw [← hfin.out]; exact S9.out
end Go.Proofs.Ytpndfmlkceplcaa
namespace Go.Proofs.Ytpndfmlkceplcaa
open Go.ChangeShapes Go.WideShapes Go.ChangeAt Go.RowKit Go.Sort
set_option linter.unusedVariables false

theorem stepM_new {l : List Int} {out : List (List Nat)} {i : Nat} (h : ¬ (out ≠ [] ∧ l.getD ((out.getLastD []).getD 0 0) 0 = l.getD i 0)) : stepM l out i = out ++ [[i]] := by unfold stepM; rw [if_neg h]
theorem stepM_old {l : List Int} {Ls : List (List Nat)} {T : List Nat} {i : Nat} (h : l.getD (T.getD 0 0) 0 = l.getD i 0) : stepM l (Ls ++ [T]) i = Ls ++ [T ++ [i]] := by
  unfold stepM
  rw [if_pos ⟨by simp, by simpa using h⟩]
  simp
theorem niG_len (o : List Nat) : (niG o).length = o.length := by unfold niG; simp

end Go.Proofs.Ytpndfmlkceplcaa
