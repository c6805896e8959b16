/-
  Both 'RenameTour'. No conditions but the bounds that Go gives a slice.
-/
import Derived.Test.YteiadhfjpohmdaaU
import Derived.Test.YteiadhfjpohmdaaR
import Derived.Test.YteiadhfjpohmdaaY
namespace Go.Proofs.Yteiadhfjpohmdaa
open Go.ChangeShapes Go.WideShapes Go.ChangeAt Go.RowKit Go.Shelf
attribute [local go_sem] Oper.semAt_some
set_option linter.unusedVariables false

/-- A name, as a number. -/
def nm (ns : List Int) (a : Nat) : Nat := (ns.getD a 0).toNat
theorem nm_val {m : Nat} {ns : List Int} (h : permB m ns = true) {a : Nat} (ha : a < m) : ns.getD a 0 = (nm ns a : Int) ∧ nm ns a < m := by
  have hp := permB_iff.1 h
  have := hp.2 a (by omega)
  unfold nm
  omega
theorem nm_inj {m : Nat} {ns : List Int} (h : permB m ns = true) {a b : Nat} (ha : a < m) (hb : b < m) (he : nm ns a = nm ns b) : a = b := by
  have hp := permB_iff.1 h
  have key : ∀ i j, i < j → j < m → nm ns i ≠ nm ns j := by
    intro i j hij hj e
    have h3 := (hp.2 j (by omega)).2.2
    have hi := nm_val h (a := i) (by omega)
    have : among ns j (nm ns j) = true := by
      unfold among
      rw [List.any_eq_true]
      refine ⟨ns.getD i 0, ?_, ?_⟩
      · rw [List.getD_eq_getElem?_getD, List.getElem?_eq_getElem (by omega)]
        exact List.mem_take_iff_getElem.2 ⟨i, by omega, rfl⟩
      · rw [hi.1, e]; simp
    have h4 : among ns j (nm ns j) = false := h3
    rw [h4] at this; cases this
  rcases Nat.lt_trichotomy a b with h1 | h1 | h1
  · exact absurd he (key a b h1 hb)
  · exact h1
  · exact absurd he.symm (key b a h1 ha)

def renStep {m : Nat} (ns : List Int) (ys : List Nat) (x : Pl m) : List Nat := ys.set (nm ns x.1.val) (ys.getD (nm ns x.1.val) 0 ||| 2 ^ nm ns x.2.val)
def renF {m : Nat} (ns : List Int) (pre : List (Pl m)) : List Nat := pre.foldl (renStep ns) (List.replicate m 0)
theorem renF_snoc {m : Nat} (ns : List Int) (pre : List (Pl m)) (x : Pl m) : renF ns (pre ++ [x]) = renStep ns (renF ns pre) x := by simp [renF]
theorem renStep_lt {m : Nat} {ns : List Int} (hm : m ≤ 8) (h : permB m ns = true) (ys : List Nat) (x : Pl m) (hy : ∀ y ∈ ys, y < 256) : ∀ y ∈ renStep ns ys x, y < 256 := by
  intro y hy'
  rcases List.mem_or_eq_of_mem_set hy' with h1 | h1
  · exact hy y h1
  · rw [h1]; exact or_lt256 _ _ (getD_lt256 ys _ hy) (by have := (nm_val h x.2.isLt).2; omega)
theorem renF_lt {m : Nat} {ns : List Int} (hm : m ≤ 8) (h : permB m ns = true) (pre : List (Pl m)) : ∀ y ∈ renF ns pre, y < 256 := by
  have : ∀ (L : List (Pl m)) (ys : List Nat), (∀ y ∈ ys, y < 256) → ∀ y ∈ L.foldl (renStep ns) ys, y < 256 := by
    intro L
    induction L with
    | nil => exact fun ys h => h
    | cons x L ih => exact fun ys hy => ih _ (renStep_lt hm h ys x hy)
  exact this pre _ (by intro y hy; simp at hy; omega)
theorem renStep_len {m : Nat} (ns : List Int) (ys : List Nat) (x : Pl m) : (renStep ns ys x).length = ys.length := by simp [renStep]
theorem renF_len {m : Nat} (ns : List Int) (pre : List (Pl m)) : (renF ns pre).length = m := by
  have : ∀ (L : List (Pl m)) (ys : List Nat), (L.foldl (renStep ns) ys).length = ys.length := by
    intro L
    induction L with
    | nil => intro ys; rfl
    | cons x L ih => intro ys; rw [List.foldl_cons, ih, renStep_len]
  unfold renF; rw [this]; simp
theorem renF_bit {m : Nat} {ns : List Int} (h : permB m ns = true) (a b : Fin m) : ∀ (pre : List (Pl m)), ((a, b) ∉ pre) → ((renF ns pre).getD (nm ns a.val) 0).testBit (nm ns b.val) = false := by
  have : ∀ (L : List (Pl m)) (ys : List Nat), ys.length = m → ((a, b) ∉ L) → (ys.getD (nm ns a.val) 0).testBit (nm ns b.val) = false → ((L.foldl (renStep ns) ys).getD (nm ns a.val) 0).testBit (nm ns b.val) = false := by
    intro L
    induction L with
    | nil => intro ys _ _ h0; exact h0
    | cons x L ih =>
      intro ys hy hn h0
      rw [List.foldl_cons]
      refine ih _ (by rw [renStep_len]; exact hy) (fun hm => hn (List.mem_cons_of_mem _ hm)) ?_
      unfold renStep
      by_cases e : x.1 = a
      · subst e
        rw [List.getD_eq_getElem?_getD, List.getElem?_set_self (by rw [hy]; exact (nm_val h x.1.isLt).2)]
        simp only [Option.getD_some, Nat.testBit_or, Nat.testBit_two_pow, h0, Bool.false_or, decide_eq_false_iff_not]
        intro e2
        have : x.2 = b := Fin.ext (nm_inj h x.2.isLt b.isLt e2)
        subst this
        exact hn (List.mem_cons_self ..)
      · have hv : nm ns x.1.val ≠ nm ns a.val := fun h' => e (Fin.ext (nm_inj h x.1.isLt a.isLt h'))
        rw [List.getD_eq_getElem?_getD, List.getElem?_set_ne hv, ← List.getD_eq_getElem?_getD]
        exact h0
  intro pre hn
  exact this pre _ (by simp) hn (by
    rw [List.getD_eq_getElem?_getD, List.getElem?_eq_getElem (by simpa using (nm_val h a.isLt).2)]; simp)

theorem once0 {P : Value → World → Prop} {S : World → Prop} {Goal : Prop} (main : (∀ v W, S W → P v W) → Goal) (rest : ∀ v W, S W → P v W) : Goal := main rest

def preS (m : Nat) (l : List Int) (a : Fin m) (j : Nat) : List (Pl m) := gamesTo m l a.val ++ (((List.finRange m).take j).filter fun b => bt l a.val b.val).map fun b => (a, b)
theorem preS_zero (m : Nat) (l : List Int) (a : Fin m) : preS m l a 0 = gamesTo m l a.val := by simp [preS]
theorem preS_end (m : Nat) (l : List Int) (a : Fin m) : preS m l a m = gamesTo m l (a.val + 1) := by
  rw [gamesTo_succ m l a.val a.isLt]
  unfold preS rowG losers
  rw [List.take_of_length_le (by simp)]
theorem preS_yes (m : Nat) (l : List Int) (a b : Fin m) (h : bt l a.val b.val = true) : preS m l a (b.val + 1) = preS m l a b.val ++ [(a, b)] := by
  unfold preS
  rw [take_snoc (List.finRange m) b.val b (by simp), List.filter_append, List.map_append, ← List.append_assoc]
  simp [h]
theorem preS_no (m : Nat) (l : List Int) (a b : Fin m) (h : bt l a.val b.val = false) : preS m l a (b.val + 1) = preS m l a b.val := by
  unfold preS
  rw [take_snoc (List.finRange m) b.val b (by simp), List.filter_append]
  simp [h]
theorem preS_new (m : Nat) (l : List Int) (a b : Fin m) : (a, b) ∉ preS m l a b.val := by
  unfold preS
  intro h
  rcases List.mem_append.1 h with h | h
  · unfold gamesTo at h
    obtain ⟨c, hc, hm⟩ := List.mem_flatMap.1 h
    obtain ⟨d, _, he⟩ := List.mem_map.1 hm
    have : c = a := by cases he; rfl
    subst this
    obtain ⟨i, hi, he2⟩ := List.mem_take_iff_getElem.1 hc
    have : i = c.val := by rw [← he2]; simp
    omega
  · obtain ⟨d, hd, he⟩ := List.mem_map.1 h
    have : d = b := by cases he; rfl
    subst this
    obtain ⟨i, hi, he2⟩ := List.mem_take_iff_getElem.1 (List.mem_filter.1 hd).1
    have : i = d.val := by rw [← he2]; simp
    omega

noncomputable def renB (n : Int) (l ns : List Int) : Bool := okB n l && permB l.length ns
noncomputable def renR (n : Int) (l ns : List Int) : List Int := if renB n l ns then (renF ns (gamesL l.length l)).map Int.ofNat else []
noncomputable def renN (n : Int) (l ns : List Int) : Int := if renB n l ns then n else 0
theorem renR_le (n : Int) (l ns : List Int) : (renR n l ns).length ≤ 8 := by
  unfold renR
  cases h : renB n l ns
  · simp
  · have hk : Ok n l := okB_iff.1 (Bool.and_eq_true_iff.1 h).1
    have := hk.2.1
    have := hk.2.2.1
    simp [renF_len]
    omega
theorem obj_abides {W W' : World} {row : Option Nat} {p : Nat} {o : Obj} (h : W.heap[p]? = some o) (hc : o.isCells = true) (hg : W.grownBy W' row) (hr : ∀ r, row = some r → ∃ o : Obj, W.heap[r]? = some o ∧ o.isCells = false) : W'.heap[p]? = some o := by
  refine (hg.block p (Array.getElem?_eq_some_iff.1 h).1 (fun e => ?_)).trans h
  obtain ⟨o', ho, hc'⟩ := hr p e.symm
  rw [h] at ho; cases ho; rw [hc] at hc'; cases hc'
theorem lt_of_heap {W : World} {p : Nat} {o : Obj} (h : W.heap[p]? = some o) : p < W.heap.size := (Array.getElem?_eq_some_iff.1 h).1
theorem cell1 {w : World} {p : Nat} {v : Value} {t : TypeId} (h : w.heap[p]? = some (.cells #[v] t (0, 0))) : w.cell? ⟨p, 0, none⟩ = some v := by unfold World.cell?; simp only; rw [h]; rfl
theorem obj_below {w w' : World} {p : Nat} {o : Obj} (h : w.heap[p]? = some o) (hb : Below w.heap.size w w') : w'.heap[p]? = some o := (hb.block p (lt_of_heap h)).trans h

set_option maxRecDepth 100000 in
set_option maxHeartbeats 4000000 in
theorem implRename (n : Int) (a : Option Addr) (l : List Int) (cap : Nat) (an : Option Addr) (ns : List Int) (cn : Nat) (w : World) (hrow : IntRow w a l) (hl : l.length ≤ maxLen) (hrn : IntRow w an ns) (hn : ns.length ≤ maxLen) :
    Calls Try.prog 52 #[.agg #[.int .i64 n, .slice a l.length cap], .slice an ns.length cn] w fun e w' => (∃ a0 c0, e = .returned (.tuple #[.agg #[.int .i64 (renN n l ns), .slice a0 (renR n l ns).length c0], .bool (renB n l ns)]) ∧ w'.ownsRow w.heap.size 3 1 (.slice a0 (renR n l ns).length c0) (renR n l ns).length ((renR n l ns).map iv)) ∧ Below w.heap.size w w' := by
  obtain ⟨Wb, hWb⟩ : ∃ Wb, Wb = w.alloc (.cells #[.int .i64 n, .slice a l.length cap] 27) := ⟨_, rfl⟩
  obtain ⟨Wc, hWc⟩ : ∃ Wc, Wc = Wb.alloc (.cells #[.slice an ns.length cn] 22) := ⟨_, rfl⟩
  obtain ⟨Wa, hWa⟩ : ∃ Wa, Wa = Wc.alloc (.cells #[.int .i64 0, .slice none 0 0] 27) := ⟨_, rfl⟩
  have sb : Wb.heap.size = w.heap.size + 1 := by rw [hWb]; simp
  have sc : Wc.heap.size = w.heap.size + 1 + 1 := by rw [hWc]; simp [sb]
  have sa : Wa.heap.size = w.heap.size + 1 + 1 + 1 := by rw [hWa]; simp [sc]
  have hbb : Below w.heap.size w Wb := by rw [hWb]; exact Below.one _ _
  have hbc : Below w.heap.size w Wc := by rw [hWc]; exact hbb.alloc hbb.size _
  have hba : Below w.heap.size w Wa := by rw [hWa]; exact hbc.alloc hbc.size _
  have xt : Box Wa w.heap.size 27 (.int .i64 n) (.slice a l.length cap) := by
    rw [hWa, hWc]; exact ((show Box Wb w.heap.size 27 (.int .i64 n) (.slice a l.length cap) by rw [hWb]; exact Box.new _ _ _ _).more _).more _
  have xn : Wa.heap[w.heap.size + 1]? = some (.cells #[.slice an ns.length cn] 22 (0, 0)) := by
    rw [hWa, heap_alloc_old _ _ (by omega), hWc, ← sb]; exact heap_alloc_new _ _
  have xr : Box Wa (w.heap.size + 1 + 1) 27 (.int .i64 0) (.slice none 0 0) := by rw [hWa, ← sc]; exact Box.new _ _ _ _
  have HWa : Hid (Wa = ((w.alloc (.cells #[.int .i64 n, .slice a l.length cap] 27)).alloc (.cells #[.slice an ns.length cn] 22)).alloc (.cells #[.int .i64 0, .slice none 0 0] 27)) := by rw [hWa, hWc, hWb]; exact rfl
  have hrowa : IntRow Wa a l := hrow.below hba (Nat.le_refl _)
  have hrown : IntRow Wa an ns := hrn.below hba (Nat.le_refl _)
  have HL := Lib.hid hl
  have HN := Lib.hid hn
  have HRN0 := Lib.hid hrn
  clear hl hn hrow hrn hWa hWb hWc hbb hbc
  cases hok : okB n l
  · have HO := Lib.hid hok
    have HE : Hid (renB n l ns = false) := by show _ = _; unfold renB; rw [hok]; rfl
    clear hok
    go_enter Try.func52, Try.ntmps52
    go_wp2_with fail
    rw [← HWa.out]
    refine (implTourOk n a l cap Wa hrowa HL.out).mono ?_
    rintro e w1 ⟨rfl, hb1⟩
    rw [HO.out]
    have B1 := hba.trans (hb1.mono hba.size)
    have xr1 := xr.below hb1 xr.lt
    have xt1 := xt.below hb1 xt.lt
    have c0 := xr1.c0
    have c1 := xr1.c1
    have f0 := xr1.f0
    have f1 := xr1.f1
    have X := Lib.hid xr1
    have BB := Lib.hid (B1)
    clear xr1
    go_wp2
    refine bodyPost_ret (v := .tuple #[.agg #[.int .i64 0, .slice none 0 0], .bool false]) (Box.res2 rfl _ rfl rfl ((X.out.set0 _).set1 _)) rfl ?_
    refine ⟨⟨none, 0, ?_, ?_⟩, ?_⟩
    · unfold renN renR; rw [HE.out]; rfl
    · unfold renR; rw [HE.out]; exact World.ownsRow_nil _ _ _ _
    · exact (BB.out.setCell (p := ⟨w.heap.size + 1 + 1, 0, none⟩) (by show w.heap.size ≤ w.heap.size + 1 + 1; omega) _).setCell (p := ⟨w.heap.size + 1 + 1, 1, none⟩) (by show w.heap.size ≤ w.heap.size + 1 + 1; omega) _
  have HO := Lib.hid hok
  have HK : Hid (Ok n l) := okB_iff.1 hok
  have hnl := HK.out.2.2.1
  have hl8 : l.length ≤ 8 := by have := HK.out.2.1; omega
  have hl1 : 1 ≤ l.length := by have := HK.out.1; omega
  subst hnl
  cases hp : permB l.length ns
  · have HP := Lib.hid hp
    have HE : Hid (renB l.length l ns = false) := by show _ = _; unfold renB; rw [hp]; simp
    clear hok hp
    go_enter Try.func52, Try.ntmps52
    go_wp2_with fail
    rw [← HWa.out]
    refine (implTourOk _ a l cap Wa hrowa HL.out).mono ?_
    rintro e w1 ⟨rfl, hb1⟩
    rw [HO.out]
    have B1 := hba.trans (hb1.mono hba.size)
    have xr1 := xr.below hb1 xr.lt
    have xt1 := xt.below hb1 xt.lt
    have c0 := xt1.c0
    have n0 := cell1 ((hb1.block (w.heap.size + 1) (by omega)).trans xn)
    go_wp2_with fail
    refine (isOrder_any l.length an ns cn w1 hl8 (hrown.below hb1 (Nat.le_refl _)) HN.out).mono ?_
    rintro e w2 ⟨rfl, hb2⟩
    rw [HP.out]
    have B2 := B1.trans (hb2.mono B1.size)
    have xr2 := xr1.below hb2 xr1.lt
    clear c0 n0
    have c0 := xr2.c0
    have c1 := xr2.c1
    have f0 := xr2.f0
    have f1 := xr2.f1
    have X := Lib.hid xr2
    have BB := Lib.hid (B2)
    clear xr2
    go_wp2
    refine bodyPost_ret (v := .tuple #[.agg #[.int .i64 0, .slice none 0 0], .bool false]) (Box.res2 rfl _ rfl rfl ((X.out.set0 _).set1 _)) rfl ?_
    refine ⟨⟨none, 0, ?_, ?_⟩, ?_⟩
    · unfold renN renR; rw [HE.out]; rfl
    · unfold renR; rw [HE.out]; exact World.ownsRow_nil _ _ _ _
    · exact (BB.out.setCell (p := ⟨w.heap.size + 1 + 1, 0, none⟩) (by show w.heap.size ≤ w.heap.size + 1 + 1; omega) _).setCell (p := ⟨w.heap.size + 1 + 1, 1, none⟩) (by show w.heap.size ≤ w.heap.size + 1 + 1; omega) _
  have HP := Lib.hid hp
  have HE : Hid (renB l.length l ns = true) := by show _ = _; unfold renB; rw [hok, hp]; rfl
  have hnn : ns.length = l.length := (permB_iff.1 hp).1
  have HNN := Lib.hid hnn
  clear hok hp hnn
  refine (callsIn_wide (n := 8)).1 ?_
  refine callsIn_of_wp_marks Try.func52 rfl trivial ?_ rfl
  simp only [Try.ntmps52, List.size_toArray, List.length_cons, List.length_nil, Nat.reduceAdd, Nat.reduceSub, Array.replicate_succ, Array.replicate_zero, List.push_toArray, List.append_toArray, List.nil_append, List.cons_append]
  gi_wp2_with fail
  refine ⟨trivial, ?_⟩
  rw [← HWa.out]
  refine (callsIn_wide.2 (implTourOk _ a l cap Wa hrowa HL.out)).mono ?_
  rintro e w1 ⟨rfl, hb1⟩
  rw [HO.out]
  have B1 := hba.trans (hb1.mono hba.size)
  have xr1 := xr.below hb1 xr.lt
  have xt1 := xt.below hb1 xt.lt
  have xn1 := obj_below xn hb1
  have hrow1 := hrowa.below hb1 (Nat.le_refl _)
  have hrown1 := hrown.below hb1 (Nat.le_refl _)
  have c0 := xt1.c0
  have n0 := cell1 xn1
  gi_wp2_with fail
  refine ⟨trivial, ?_⟩
  refine (callsIn_wide.2 (isOrder_any l.length an ns cn w1 hl8 hrown1 HN.out)).mono ?_
  rintro e w2 ⟨rfl, hb2⟩
  rw [HP.out]
  have B2 := B1.trans (hb2.mono B1.size)
  have xr2 := xr1.below hb2 xr1.lt
  have xt2 := xt1.below hb2 xt1.lt
  have xn2 := obj_below xn1 hb2
  have hrow2 := hrow1.below hb2 (Nat.le_refl _)
  have hrown2 := hrown1.below hb2 (Nat.le_refl _)
  clear c0 n0
  have c0 := xt2.c0
  gi_wp2_with fail
  refine ⟨trivial, ?_⟩
  refine (callsIn_wide.2 (newTour_any l.length w2 (by omega))).mono ?_
  rintro e w4 ⟨⟨g, rfl, ho4⟩, hb4⟩
  have B4 := B2.trans (hb4.mono B2.size)
  have xr4 := xr2.below hb4 xr2.lt
  have xt4 := xt2.below hb4 xt2.lt
  have xn4 := obj_below xn2 hb4
  have hrow4 := hrow2.below hb4 (Nat.le_refl _)
  have hrown4 := hrown2.below hb4 (Nat.le_refl _)
  obtain ⟨W4, hW4⟩ : ∃ W4, W4 = w4.alloc (.cells #[.int .i64 l.length, .slice (some ⟨g, 0, none⟩) l.length l.length] 27) := ⟨_, rfl⟩
  have HW4 := Lib.hid hW4
  have hbW4 : Below w4.heap.size w4 W4 := by rw [hW4]; exact Below.one _ _
  have xf : Box W4 w4.heap.size 27 (.int .i64 l.length) (.slice (some ⟨g, 0, none⟩) l.length l.length) := by rw [hW4]; exact Box.new _ _ _ _
  have s4 : W4.heap.size = w4.heap.size + 1 := by rw [hW4]; simp
  have xt5 := xt4.below hbW4 xt4.lt
  have hgl := (ho4.lt g rfl)
  clear c0
  have c0 := xt5.c0
  have c1 := xt5.c1
  rw [HW4.out] at c0 c1
  clear hW4
  gi_wp2_with fail
  refine ⟨trivial, ?_⟩
  rw [← HW4.out]
  refine (callsIn_wide.2 (games_any _ a l.length cap W4)).mono ?_
  rintro e W6 ⟨rfl, hW6⟩
  have x6 : Box W6 W4.heap.size 27 (.int .i64 l.length) (.slice a l.length cap) := by rw [hW6]; exact Box.new _ _ _ _
  have hb6 : Below W4.heap.size W4 W6 := by rw [hW6]; exact Below.one _ _
  have s6 : W6.heap.size = W4.heap.size + 1 := by rw [hW6]; simp
  have hrow6 := (hrow4.below hbW4 (Nat.le_refl _)).below hb6 (Nat.le_refl _)
  have ho6 := (own_below (own_below ho4 hbW4) hb6).mono B2.size
  have xf6 := xf.below hb6 xf.lt
  have xr6 := (xr4.below hbW4 xr4.lt).below hb6 (Nat.lt_of_lt_of_le xr4.lt hbW4.size)
  have xn6 := obj_below (obj_below xn4 hbW4) hb6
  have B6 := (B4.trans (hbW4.mono B4.size)).trans (hb6.mono (B4.trans (hbW4.mono B4.size)).size)
  have hBg : W4.heap.size ≠ g := by omega
  have hag : blk a ≠ some g := by
    intro e
    rcases hrow2 with h | ⟨b, off, rfl, hbl, _⟩
    · rw [h] at hl1; simp at hl1
    · simp [blk] at e; omega
  have hxr := xr2.lt
  have hng : w.heap.size + 1 ≠ g := by omega
  have hfg : g ≠ w4.heap.size := by omega
  have hrg : g ≠ w.heap.size + 1 + 1 := by omega
  have hg6 : g < W6.heap.size := by omega
  have hwg : w.heap.size ≤ g := by have := B2.size; omega
  have hw6 : w.heap.size ≤ W6.heap.size := B6.size
  have X6 := Lib.hid x6
  have HR6 := Lib.hid hrow6
  have HO6 := Lib.hid ho6
  have XF6 := Lib.hid xf6
  have XR6 := Lib.hid xr6
  have XN6 := Lib.hid xn6
  have BB6 := Lib.hid B6
  clear hW6 x6 hb6 hrow6 ho6 xf6 xr6 xn6 B6 hbW4 hrow4 hrown4 xt4 xt5 xr4 xn4 B4 hb4 ho4 hrow2 hrown2 xt2 xr2 xn2 B2 hb2 hrow1 hrown1 xt1 xr1 xn1 B1 hb1 hba c0 c1 hgl s4 xf xt xr xn hrowa hrown hxr
  gi_wp2
  refine wpIn_rangeFunc_ownG (F := Fence.wide) rfl (by omega) (gf := 149) (lb := #[.pointer (some ⟨W4.heap.size, 0, none⟩)]) rfl trivial (enters_of Try.func149 (by kernel_rfl) rfl)
    (games_stops 7 (by omega) W4.heap.size g _ a cap l HK.out W6 X6.out HR6.out hBg hag hg6) (fun h k => h.trans k) (fun W l o o' _ h hc _ => KeepsBut.put g W l o o' h hc) (Below.refl _ _) (fun _ => rfl)
    (fun pre W => (W.ownsRow w.heap.size 3 1 (.slice (some ⟨g, 0, none⟩) l.length l.length) l.length ((renF ns pre).map nv) ∧ Box W w4.heap.size 27 (.int .i64 l.length) (.slice (some ⟨g, 0, none⟩) l.length l.length) ∧ Box W (w.heap.size + 1 + 1) 27 (.int .i64 0) (.slice none 0 0) ∧ W.heap[w.heap.size + 1]? = some (.cells #[.slice an ns.length cn] 22 (0, 0))) ∧ Below w.heap.size w W)
    (fun _ _ _ => False)
    (OwnFrom.and (Own.from (fun s A B row hs hg hr => ⟨own_abides hs.1 hg hr, hs.2.1.abides hg hr, hs.2.2.1.abides hg hr, obj_abides hs.2.2.2 rfl hg hr⟩) _) (ownFrom_below (Nat.le_refl _) hw6))
    (fun _ _ _ _ _ hs _ _ => hs)
    ⟨⟨HO6.out, XF6.out, XR6.out, XN6.out⟩, BB6.out⟩
    (fun x => { tmps := #[.agg #[.int .i64 l.length, .slice a l.length cap], .slice an ns.length cn, .pointer (some ⟨w.heap.size, 0, none⟩), .pointer (some ⟨w.heap.size + 1, 0, none⟩), .pointer (some ⟨w.heap.size + 1 + 1, 0, none⟩), .bool false, .pointer (some ⟨w4.heap.size, 0, none⟩), .int .i64 (x.1.val : Int), .int .i64 (x.2.val : Int), .agg #[.int .i64 l.length, .slice a l.length cap], .bool true, .bool false, .bool false, .slice an ns.length cn, .pointer (some ⟨w.heap.size, 0, none⟩), .int .i64 l.length, .bool true, .bool false, .bool false, undef, .pointer (some ⟨w.heap.size, 0, none⟩), .int .i64 l.length, .agg #[.int .i64 l.length, .slice (some ⟨g, 0, none⟩) l.length l.length], .agg #[.int .i64 l.length, .slice a l.length cap], .func (.func 149) #[] #[.pointer (some ⟨W4.heap.size, 0, none⟩)], .int .i64 (x.1.val : Int), .int .i64 (x.2.val : Int), undef, undef, undef, undef, undef, undef, undef, undef, undef, undef, undef], defers := [] }) ?assign ?body ?done ?stop
  case assign =>
    intro ly x W K hK
    unfold encP
    gi_wp2
    exact hK
  case body =>
    rintro ly pre x W ⟨⟨ho, hx, hxr, hxn⟩, hB⟩ _
    have d0 := hx.c0
    have d1 := hx.c1
    have n0 := cell1 hxn
    have hx1 : x.1.val < ns.length := by have := x.1.isLt; have := HNN.out; omega
    have hx2 : x.2.val < ns.length := by have := x.2.isLt; have := HNN.out; omega
    have hRW := HRN0.out.below hB (Nat.le_refl _)
    obtain ⟨b, off, he1, _, hc1⟩ := hRW.at hx1
    obtain ⟨b', off', he2, _, hc2⟩ := hRW.at hx2
    rw [he1] at he2
    obtain ⟨rfl, rfl⟩ : b = b' ∧ off = off' := by simpa using he2
    subst he1
    rw [(nm_val HP.out x.1.isLt).1] at hc1
    rw [(nm_val HP.out x.2.isLt).1] at hc2
    obtain ⟨v1, hv1⟩ : ∃ v1, v1 = nm ns x.1.val := ⟨_, rfl⟩
    obtain ⟨v2, hv2⟩ : ∃ v2, v2 = nm ns x.2.val := ⟨_, rfl⟩
    have hl1' : v1 < l.length := by rw [hv1]; exact (nm_val HP.out x.1.isLt).2
    have hl2' : v2 < l.length := by rw [hv2]; exact (nm_val HP.out x.2.isLt).2
    rw [← hv1] at hc1
    rw [← hv2] at hc2
    have hi1 : (x.1.val : Int) < (ns.length : Int) := by omega
    have hi2 : (x.2.val : Int) < (ns.length : Int) := by omega
    have hstep : Hid (renF ns (pre ++ [x]) = (renF ns pre).set v1 ((renF ns pre).getD v1 0 ||| 2 ^ v2)) := by show _ = _; rw [renF_snoc, hv1, hv2]; rfl
    have H1 := Lib.hid ho
    have H2 := Lib.hid hx
    have H3 := Lib.hid hxr
    have H5 := Lib.hid hxn
    have H4 := Lib.hid hB
    have hlt256 := Lib.hid (renF_lt hl8 HP.out pre)
    clear ho hx hxr hxn hB hRW hv1 hv2 he2
    have hmx : Try.prog.follows .mixedOrders = true := by kernel_rfl
    have hd : 1 ≤ 8 - 1 - 1 := by omega
    have ADD : Hid (Calls Try.prog 82 #[.agg #[.int .i64 (l.length : Int), .slice (some ⟨g, 0, none⟩) l.length l.length], .int .i64 v1, .int .i64 v2] W.drew fun e W' => ∃ v, e = .returned v ∧ Hid (W'.ownsRow w.heap.size 3 1 (.slice (some ⟨g, 0, none⟩) l.length l.length) l.length ((renF ns (pre ++ [x])).map nv) ∧ Below w.heap.size W W' ∧ W.grownBy W' (some g))) := by
      refine (addWin_g w.heap.size g l.length l.length v1 v2 (renF ns pre) W.drew (by omega) hl1' (by omega) hlt256.out H4.out.size H1.out.drew).mono ?_
      rintro e W' ⟨⟨v, rfl⟩, ho', hb', hg'⟩
      have h0 : W.grownBy W.drew (some g) := ⟨rfl, rfl, rfl, Nat.le_refl _, fun _ _ _ => rfl⟩
      exact ⟨v, rfl, by rw [hstep.out]; exact ho', (Below.refl _ W).drew.trans hb', h0.trans hg'⟩
    gi_wp2
    apply once0 (S := fun W' => Hid (W'.ownsRow w.heap.size 3 1 (.slice (some ⟨g, 0, none⟩) l.length l.length) l.length ((renF ns (pre ++ [x])).map nv) ∧ Below w.heap.size W W' ∧ W.grownBy W' (some g)))
    case main =>
      intro REST
      refine wpIn_region_any hmx ?_
      refine reads9 W.drew (fun b0 b1 b2 b3 b4 b5 b6 b7 b8 => { tmps := #[.agg #[.int .i64 l.length, .slice a l.length cap], .slice (some ⟨b, off, none⟩) ns.length cn, .pointer (some ⟨w.heap.size, 0, none⟩), .pointer (some ⟨w.heap.size + 1, 0, none⟩), .pointer (some ⟨w.heap.size + 1 + 1, 0, none⟩), .bool false, .pointer (some ⟨w4.heap.size, 0, none⟩), .int .i64 (x.1.val : Int), .int .i64 (x.2.val : Int), .agg #[.int .i64 l.length, .slice a l.length cap], .bool true, .bool false, .bool false, .slice (some ⟨b, off, none⟩) ns.length cn, .pointer (some ⟨w.heap.size, 0, none⟩), .int .i64 l.length, .bool true, .bool false, .bool false, undef, .pointer (some ⟨w.heap.size, 0, none⟩), .int .i64 l.length, .agg #[.int .i64 l.length, .slice (some ⟨g, 0, none⟩) l.length l.length], .agg #[.int .i64 l.length, .slice a l.length cap], .func (.func 149) #[] #[.pointer (some ⟨W4.heap.size, 0, none⟩)], .int .i64 (x.1.val : Int), .int .i64 (x.2.val : Int), (bif b0 then .agg #[.int .i64 l.length, .slice (some ⟨g, 0, none⟩) l.length l.length] else undef), (bif b1 then .slice (some ⟨b, off, none⟩) ns.length cn else undef), (bif b2 then .int .i64 (x.1.val : Int) else undef), (bif b3 then .pointer (some ⟨b, off + x.1.val, none⟩) else undef), (bif b4 then .int .i64 v1 else undef), (bif b5 then .slice (some ⟨b, off, none⟩) ns.length cn else undef), (bif b6 then .int .i64 (x.2.val : Int) else undef), (bif b7 then .pointer (some ⟨b, off + x.2.val, none⟩) else undef), (bif b8 then .int .i64 v2 else undef), undef, undef], defers := [] }) (by decide +kernel) (by decide +kernel) (by decide +kernel) ?r0 ?r1 ?r2 ?r3 ?r4 ?r5 ?r6 ?r7 ?r8 ?r9 10 false false false false false false false false false rfl rfl
      case r0 =>
        intro _ _ _ _ _ _ _ _ K hK
        unfold wpOpIn
        go_simp
        exact hK
      case r1 =>
        intro _ _ _ _ _ _ _ _ K hK
        unfold wpOpIn
        go_simp
        exact hK
      case r2 =>
        intro _ _ _ _ _ _ _ _ K hK
        unfold wpOpIn
        go_simp
        exact hK
      case r3 =>
        intro _ _ _ _ _ _ K hK
        unfold wpOpIn
        go_simp
        exact hK
      case r4 =>
        intro _ _ _ _ _ _ _ K hK
        unfold wpOpIn
        go_simp
        exact hK
      case r5 =>
        intro _ _ _ _ _ _ _ _ K hK
        unfold wpOpIn
        go_simp
        exact hK
      case r6 =>
        intro _ _ _ _ _ _ _ _ K hK
        unfold wpOpIn
        go_simp
        exact hK
      case r7 =>
        intro _ _ _ _ _ _ K hK
        unfold wpOpIn
        go_simp
        exact hK
      case r8 =>
        intro _ _ _ _ _ _ _ K hK
        unfold wpOpIn
        go_simp
        exact hK
      case r9 =>
        intro K hK
        unfold wpOpIn
        go_simp
        refine ⟨trivial, ?_⟩
        refine (CallsIn.inRound ly (callsIn_wide.2 ADD.out)).mono ?_
        rintro e W' ⟨v, rfl, HS⟩
        exact hK _ _ (REST v W' HS)
    case rest =>
      intro v W' HS
      have G2 := Lib.hid (H2.out.grown HS.out.2.2 (by simp; omega))
      have G3 := Lib.hid (H3.out.grown HS.out.2.2 (by simp; omega))
      have G7 : Hid (W'.heap[w.heap.size + 1]? = some (.cells #[.slice (some ⟨b, off, none⟩) ns.length cn] 22 (0, 0))) := (HS.out.2.2.block _ (lt_of_heap H5.out) (by simp; omega)).trans H5.out
      have G4 := Lib.hid (H4.out.trans HS.out.2.1)
      have G5 := Lib.hid (KeepsFrom.of_grownBy HS.out.2.2 (B := W6.heap.size) (fun j e => by cases e; exact hg6))
      have G6 := Lib.hid (KeepsBut.grown HS.out.2.2)
      gi_wp2
      exact ⟨G5.out, G6.out, ⟨HS.out.1, G2.out, G3.out, G7.out⟩, G4.out⟩
  case done =>
    rintro D ys W hD rfl ⟨⟨ho, hx, hxr, hxn⟩, hB⟩ hK
    have d0 := hx.c0
    have d1 := hx.c1
    have e0 := hxr.c0
    have e1 := hxr.c1
    have e2 := hxr.f0
    have e3 := hxr.f1
    have H1 := Lib.hid ho
    have H3 := Lib.hid hxr
    have H4 := Lib.hid hB
    have H5 := Lib.hid hK
    clear ho hx hxr hB hK hxn
    gi_wp2
    have hK1 := ((KeepsOthers.setCell W ⟨w.heap.size + 1 + 1, 0, none⟩ (.int .i64 (l.length : Int))).trans (KeepsOthers.setCell _ ⟨w.heap.size + 1 + 1, 1, none⟩ (.slice (some ⟨g, 0, none⟩) l.length l.length))).same D _ H5.out rfl
    refine ⟨by simp, .inl ⟨_, _, rfl, run_takeDeferred hK1, ?_⟩⟩
    have hput := grownBy_putObj' ((W.setCell ⟨w.heap.size + 1 + 1, 0, none⟩ (.int .i64 (l.length : Int))).setCell ⟨w.heap.size + 1 + 1, 1, none⟩ (.slice (some ⟨g, 0, none⟩) l.length l.length)) D (.deferred none)
    have hno : ∀ r, some D = some r → ∃ o : Obj, ((W.setCell ⟨w.heap.size + 1 + 1, 0, none⟩ (.int .i64 (l.length : Int))).setCell ⟨w.heap.size + 1 + 1, 1, none⟩ (.slice (some ⟨g, 0, none⟩) l.length l.length)).heap[r]? = some o ∧ o.isCells = false := fun r e => by cases e; exact ⟨_, hK1, rfl⟩
    have xz := ((H3.out.set0 (.int .i64 (l.length : Int))).set1 (.slice (some ⟨g, 0, none⟩) l.length l.length)).abides hput hno
    have oz := own_abides (own_other (own_other H1.out ⟨w.heap.size + 1 + 1, 0, none⟩ (.int .i64 (l.length : Int)) hrg) ⟨w.heap.size + 1 + 1, 1, none⟩ (.slice (some ⟨g, 0, none⟩) l.length l.length) hrg) hput hno
    have hn : renN l.length l ns = l.length := by unfold renN; rw [HE.out]; rfl
    have hr : renR l.length l ns = (renF ns (gamesL l.length l)).map Int.ofNat := by unfold renR; rw [HE.out]; rfl
    have hlen : ((renF ns (gamesL l.length l)).map Int.ofNat).length = l.length := by simp [renF_len]
    refine ⟨.tuple #[.agg #[.int .i64 l.length, .slice (some ⟨g, 0, none⟩) l.length l.length], .bool true], Box.res2 rfl _ rfl rfl xz, ⟨some ⟨g, 0, none⟩, l.length, ?_, ?_⟩, ?_⟩
    · rw [hn, hr, hlen, HE.out]
    · rw [hr, hlen, ← nv_iv]; exact oz
    · exact ((H4.out.setCell (p := ⟨w.heap.size + 1 + 1, 0, none⟩) (by show w.heap.size ≤ w.heap.size + 1 + 1; omega) _).setCell (p := ⟨w.heap.size + 1 + 1, 1, none⟩) (by show w.heap.size ≤ w.heap.size + 1 + 1; omega) _).grown hput (by simp; have := H4.out.size; omega) (fun k e => by cases e; omega)
  case stop =>
    rintro D c pre W _ _ h _
    exact h.elim
end Go.Proofs.Yteiadhfjpohmdaa
