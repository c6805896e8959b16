/-
  What the laws do with slices of numbers and with tours: measure, copy, compare, mark, look again. No conditions but the bounds that Go gives a slice.
-/
import Derived.Test.YteiadhfjpohmdaaA
import Derived.Deep.QuietTactic
import Derived.WalkSmall
import Derived.Deep.Onto
import Derived.Maps.AppendAt
import Derived.OwnWalk
import Derived.Laws.ResultCell
namespace Go.Proofs.Yteiadhfjpohmdaa
open Go.ChangeShapes Go.WideShapes Go.ChangeAt Go.RowKit
set_option linter.unusedVariables false

theorem infoInt : (Try.prog.info? 3).map (fun i => (i.zero, i.size, i.bytes)) = some (some (.int .i64 0), 1, 8) := by kernel_rfl
def iv (x : Int) : Value := .int .i64 x

theorem own_below {w w' : World} {B : Nat} {e : TypeId} {size : Nat} {v : Value} {n : Nat} {xs : List Value} (h : w.ownsRow B e size v n xs) (hb : Below w.heap.size w w') : w'.ownsRow B e size v n xs := by
  have hg : w.grownBy w' (some w.heap.size) := ⟨hb.os, hb.tape, hb.output, hb.size, fun k hk _ => hb.block k hk⟩
  refine h.kept hg (.inr ?_)
  intro e
  have := (h.lt w.heap.size e).2
  omega

theorem IntRow.of_own {w : World} {B g cap : Nat} {l : List Int} (h : w.ownsRow B 3 1 (.slice (some ⟨g, 0, none⟩) l.length cap) l.length (l.map iv)) : IntRow w (some ⟨g, 0, none⟩) l := by
  refine .inr ⟨g, 0, rfl, (h.lt g rfl).2, fun j hj => ?_⟩
  rw [Nat.zero_add, h.cellAt j (by omega)]
  simp [List.getElem?_eq_getElem hj, iv]
/-- A row of the call's own, or the nil slice, read as numbers. -/
theorem own_read {w : World} {B : Nat} {v : Value} {l : List Int} (h : w.ownsRow B 3 1 v l.length (l.map iv)) : ∃ a cap, v = .slice a l.length cap ∧ IntRow w a l ∧ (a = none ∨ ∃ g, a = some ⟨g, 0, none⟩ ∧ B ≤ g ∧ g < w.heap.size) := by
  have h0 := h
  rcases h.2 with ⟨rfl, hx⟩ | ⟨g, cap, cur, rfl, hb, hg, _⟩
  · have : l = [] := by
      have := h.1; simp at this
      cases l with
      | nil => rfl
      | cons a l => simp at hx
    subst this
    exact ⟨none, 0, rfl, .inl rfl, .inl rfl⟩
  · exact ⟨_, cap, rfl, IntRow.of_own h0, .inr ⟨g, rfl, hb, (h0.lt g rfl).2⟩⟩

theorem szInt (a : Option Addr) (cap : Nat) (l : List Int) (q : Int) (w : World) (hl : l.length ≤ maxLen) (hq : 0 ≤ q) (hq2 : q ≤ 1048576) :
    Calls Try.prog 85 #[.slice a l.length cap, .int .i64 q] w fun e w' => e = .returned (.int .i64 (if q < l.length then -1 else q - l.length)) ∧ w = w' := by
  unfold maxLen at hl
  by_cases h : q < l.length
  · have h' : q - l.length < 0 := by omega
    rw [if_pos h]
    go_enter Try.func85, Try.ntmps85
    go_wp2
    go_ret
    exact ⟨rfl, rfl⟩
  · have h' : ¬ q - l.length < 0 := by omega
    rw [if_neg h]
    go_enter Try.func85, Try.ntmps85
    go_wp2
    go_ret
    exact ⟨rfl, rfl⟩

/-- What 'szTour' answers. -/
def szR (q : Int) (l : List Int) : Int := if q < l.length then -1 else q - l.length
theorem szT (n : Int) (a : Option Addr) (cap : Nat) (l : List Int) (q : Int) (w : World) (hl : l.length ≤ maxLen) (hq : 0 ≤ q) (hq2 : q ≤ 1048576) :
    Calls Try.prog 26 #[.agg #[.int .i64 n, .slice a l.length cap], .int .i64 q] w fun e w' => e = .returned (.int .i64 (szR q l)) ∧ Below w.heap.size w w' := by
  have HL := Lib.hid hl
  unfold maxLen at hl
  by_cases h : q < l.length
  · have HR : Hid ((if q < l.length then -1 else q - l.length) = -1) := if_pos h
    have HR2 : Hid (szR q l = -1) := if_pos h
    go_enter Try.func26, Try.ntmps26
    go_wp2_with fail
    refine (szInt a cap l q _ HL.out hq hq2).mono ?_
    rintro e w' ⟨rfl, rfl⟩
    rw [HR.out]
    go_wp2
    go_ret
    exact ⟨by rw [HR2.out]; rfl, (Below.refl _ _).alloc (Nat.le_refl _) _⟩
  · obtain ⟨r, hr⟩ : ∃ r, r = q - l.length := ⟨_, rfl⟩
    have HR : Hid ((if q < l.length then -1 else q - l.length) = r) := by rw [hr]; exact if_neg h
    have HR2 : Hid (szR q l = r) := by rw [hr]; exact if_neg h
    have hr0 : ¬ r < 0 := by omega
    clear hr
    go_enter Try.func26, Try.ntmps26
    go_wp2_with fail
    refine (szInt a cap l q _ HL.out hq hq2).mono ?_
    rintro e w' ⟨rfl, rfl⟩
    rw [HR.out]
    go_wp2
    go_ret
    exact ⟨by rw [HR2.out]; rfl, (Below.refl _ _).alloc (Nat.le_refl _) _⟩

/-- The cells of a new row while the numbers of l are copied into it one by one. -/
def cpTo (l : List Int) (k : Nat) : List Value := (l.take k).map iv ++ List.replicate (l.length - k) (iv 0)
theorem cpTo_len (l : List Int) (k : Nat) (h : k ≤ l.length) : (cpTo l k).length = l.length := by simp [cpTo]; omega
theorem cpTo_set (l : List Int) (k : Nat) (h : k < l.length) : (cpTo l k).set k (iv (l.getD k 0)) = cpTo l (k + 1) := by
  unfold cpTo
  rw [List.set_append, if_neg (by simp; omega)]
  have e1 : k - ((l.take k).map iv).length = 0 := by simp; omega
  have e2 : l.length - k = (l.length - (k + 1)) + 1 := by omega
  rw [e1, e2, List.replicate_succ, List.set_cons_zero, List.take_succ_eq_append_getElem h, List.map_append, List.append_assoc, List.getD_eq_getElem?_getD, List.getElem?_eq_getElem h]
  rfl
theorem cpTo_all (l : List Int) : cpTo l l.length = l.map iv := by simp [cpTo]

set_option maxHeartbeats 400000 in
/-- A copy of a slice of numbers: a new row, the call's own. -/
theorem toInt (a : Option Addr) (cap : Nat) (l : List Int) (w : World) (hl : l.length ≤ 1048576) (hrow : IntRow w a l) :
    Calls Try.prog 15 #[.slice a l.length cap] w fun e w' => (∃ g, e = .returned (.slice (some ⟨g, 0, none⟩) l.length l.length) ∧ w'.ownsRow w.heap.size 3 1 (.slice (some ⟨g, 0, none⟩) l.length l.length) l.length (l.map iv)) ∧ Below w.heap.size w w' := by
  obtain ⟨i0, hi, hz0, hz1, hz2⟩ := info_parts infoInt
  go_enter Try.func15, Try.ntmps15
  go_wp2_with (refine wpList_make_full _ rfl _ _ 22 rfl w.heap.size 3 i0 (.int .i64 0) 1 Try.underlying22 hi hz0 hz1 .i64 .i64 _ _ l.length rfl rfl rfl rfl ?c1 ?c2 ?c3 ?_)
  case c1 => rw [hz2]; omega
  case c2 => unfold maxLen; omega
  case c3 => exact Nat.le_refl _
  intro w1 hown hg
  have hb1 : Below w.heap.size w w1 := (Below.refl _ w).grown hg (Nat.le_refl _) (fun k hk => by cases hk)
  have hown1 : w1.ownsRow w.heap.size 3 1 (.slice (some ⟨w.heap.size, 0, none⟩) l.length l.length) l.length (cpTo l 0) := by
    have e : (madeCells #[Value.int .i64 0] l.length).toList = cpTo l 0 := by
      rw [toList_madeCells_one]; simp [cpTo, iv]
    rw [e] at hown; exact hown
  clear hown hg
  go_wp2
  go_loopw [4] (fun i wr => ∃ k : Nat, k ≤ l.length ∧ i = .int .i64 k ∧ wr.ownsRow w.heap.size 3 1 (.slice (some ⟨w.heap.size, 0, none⟩) l.length l.length) l.length (cpTo l k) ∧ Below w.heap.size w wr) (fun i _ => l.length - (intOf i).toNat)
  case atStart => exact ⟨0, Nat.zero_le _, rfl, hown1, hb1⟩
  case round =>
    obtain ⟨k, hk, rfl, hown, hb⟩ := hrel
    by_cases hlt : k < l.length
    · obtain ⟨b, off, rfl, hbl, hc⟩ := hrow.at hlt
      have hst := hown.stored k (iv (l.getD k 0))
      rw [cpTo_set l k hlt] at hst
      obtain ⟨x, hx⟩ : ∃ x, x = l.getD k 0 := ⟨_, rfl⟩
      rw [← hx] at hst hc
      unfold iv at hst
      have hcx : wr.cell? ⟨b, off + k, none⟩ = some (.int .i64 x) := (hb.cell hbl).trans hc
      have hcy := hown.cellAt k (by omega)
      have hfr := hown.frozenAt k
      obtain ⟨u, hu⟩ : ∃ u, (cpTo l k)[k]? = some u := ⟨_, List.getElem?_eq_getElem (by rw [cpTo_len l k hk]; omega)⟩
      rw [hu] at hcy
      obtain ⟨ho2, hg2⟩ := hst
      have H2 := Lib.hid ho2
      have hb2 : Below w.heap.size w (wr.setCell ⟨w.heap.size, k, none⟩ (.int .i64 x)) := hb.setCell (p := ⟨w.heap.size, k, none⟩) (Nat.le_refl _) _
      clear hc hx hu ho2 hg2
      go_wp2
      go_roundw
      case rel => exact ⟨k + 1, by omega, by go_num, H2.out, hb2⟩
      case measure => simp [intOf]; omega
    · obtain rfl : k = l.length := by omega
      rw [cpTo_all] at hown
      go_wp2
      go_ret
      exact ⟨⟨_, rfl, hown⟩, hb⟩

set_option maxHeartbeats 400000 in
/-- Two slices with the same numbers are equal. -/
theorem eqInt_same (a b : Option Addr) (ca cb : Nat) (l : List Int) (w : World) (hl : l.length ≤ maxLen) (ha : IntRow w a l) (hb : IntRow w b l) :
    Calls Try.prog 17 #[.slice a l.length ca, .slice b l.length cb] w fun e w' => e = .returned (.bool true) ∧ Below w.heap.size w w' := by
  unfold maxLen at hl
  go_enter Try.func17, Try.ntmps17
  go_wp2
  go_loopw [5] (fun i wr => ∃ k : Nat, k ≤ l.length ∧ i = .int .i64 k ∧ Below w.heap.size w wr) (fun i _ => l.length - (intOf i).toNat)
  case atStart => exact ⟨0, Nat.zero_le _, rfl, Below.refl _ _⟩
  case round =>
    obtain ⟨k, hk, rfl, hb1⟩ := hrel
    by_cases hlt : k < l.length
    · obtain ⟨b1, o1, rfl, hl1, hx1⟩ := ha.at hlt
      obtain ⟨b2, o2, rfl, hl2, hx2⟩ := hb.at hlt
      obtain ⟨x, hx⟩ : ∃ x, x = l.getD k 0 := ⟨_, rfl⟩
      rw [← hx] at hx1 hx2
      have hy1 : wr.cell? ⟨b1, o1 + k, none⟩ = some (.int .i64 x) := (hb1.cell hl1).trans hx1
      have hy2 : wr.cell? ⟨b2, o2 + k, none⟩ = some (.int .i64 x) := (hb1.cell hl2).trans hx2
      have hi0 : (0 : Int) ≤ (k : Int) ∧ (k : Int) < (l.length : Int) := by omega
      clear hx1 hx2 hx
      go_wp2
      go_quiet (fail)
      go_wp2
      exact ⟨⟨k + 1, by omega, by go_num, below_drewN hb1 _⟩, by simp [intOf]; omega⟩
    · obtain rfl : k = l.length := by omega
      go_wp2
      go_ret
      exact ⟨rfl, hb1⟩

theorem eqT_same (n : Int) (a b : Option Addr) (ca cb : Nat) (l : List Int) (w : World) (hl : l.length ≤ maxLen) (ha : IntRow w a l) (hb : IntRow w b l) :
    Calls Try.prog 20 #[.agg #[.int .i64 n, .slice a l.length ca], .agg #[.int .i64 n, .slice b l.length cb]] w fun e w' => e = .returned (.bool true) ∧ Below w.heap.size w w' := by
  obtain ⟨W1, hW1⟩ : ∃ W1, W1 = (w.alloc (.cells #[.int .i64 n, .slice a l.length ca] 27)).alloc (.cells #[.int .i64 n, .slice b l.length cb] 27) := ⟨_, rfl⟩
  have hb1 : Below w.heap.size w W1 := by rw [hW1]; exact ((Below.refl _ _).alloc (Nat.le_refl _) _).alloc (by simp) _
  have HW := Lib.hid hW1
  have HL := Lib.hid hl
  clear hW1 hl
  go_enter Try.func20, Try.ntmps20
  go_wp2_with fail
  rw [← HW.out]
  refine (eqInt_same a b ca cb l W1 HL.out (ha.below hb1 (Nat.le_refl _)) (hb.below hb1 (Nat.le_refl _))).mono ?_
  rintro e w' ⟨rfl, hb2⟩
  go_wp2
  go_ret
  exact ⟨rfl, hb1.trans (hb2.mono hb1.size)⟩

/-- A block of two cells: a variable of a struct's type. -/
def Box (w : World) (g : Nat) (t : TypeId) (v0 v1 : Value) : Prop := w.heap[g]? = some (.cells #[v0, v1] t (0, 0))
theorem Box.new (w : World) (t : TypeId) (v0 v1 : Value) : Box (w.alloc (.cells #[v0, v1] t)) w.heap.size t v0 v1 := heap_alloc_new w _
section
variable {w w' : World} {g : Nat} {t : TypeId} {v0 v1 : Value}
theorem Box.lt (h : Box w g t v0 v1) : g < w.heap.size := by
  rcases Nat.lt_or_ge g w.heap.size with h' | h'
  · exact h'
  · unfold Box at h; simp [Array.getElem?_eq_none h'] at h
theorem Box.below (h : Box w g t v0 v1) {B : Nat} (hb : Below B w w') (hg : g < B) : Box w' g t v0 v1 := (hb.block g hg).trans h
theorem Box.c0 (h : Box w g t v0 v1) : w.cell? ⟨g, 0, none⟩ = some v0 := by unfold World.cell?; simp only; rw [h]; rfl
theorem Box.c1 (h : Box w g t v0 v1) : w.cell? ⟨g, 1, none⟩ = some v1 := by unfold World.cell?; simp only; rw [h]; rfl
theorem Box.f0 (h : Box w g t v0 v1) : w.frozen? ⟨g, 0, none⟩ = false := by unfold World.frozen?; simp only; rw [h]; rfl
theorem Box.f1 (h : Box w g t v0 v1) : w.frozen? ⟨g, 1, none⟩ = false := by unfold World.frozen?; simp only; rw [h]; rfl
theorem Box.set0 (h : Box w g t v0 v1) (u : Value) : Box (w.setCell ⟨g, 0, none⟩ u) g t u v1 := heap_setCell_same w g 0 _ t u h
theorem Box.set1 (h : Box w g t v0 v1) (u : Value) : Box (w.setCell ⟨g, 1, none⟩ u) g t v0 u := heap_setCell_same w g 1 _ t u h
theorem Box.other (h : Box w g t v0 v1) (p : Addr) (u : Value) (hp : g ≠ p.block) : Box (w.setCell p u) g t v0 v1 := (heap_setCell_other w p g u hp).trans h
theorem Box.res1 {fn : Func} {p : Tmp} (hf : fn.results = #[.cell p 27]) (tmps : Array Value) (hp : tmps.getD p undef = .pointer (some ⟨g, 0, none⟩)) (h : Box w g t v0 v1) :
    (results fn tmps).run Try.prog w = .ok (.agg #[v0, v1]) w := results_cell_row hf tmps w g t _ _ _ hp h Try.underlying27 rfl (by kernel_rfl)
theorem asAddr_ptr (P : Program) (w : World) (x : Addr) : (asAddr (.pointer (some x))).run P w = .ok x w := rfl
theorem Box.res2 {fn : Func} {p u : Tmp} {x : Value} (hf : fn.results = #[.cell p 27, .tmp u]) (tmps : Array Value) (hp : tmps.getD p undef = .pointer (some ⟨g, 0, none⟩)) (hu : tmps.getD u undef = x) (h : Box w g t v0 v1) :
    (results fn tmps).run Try.prog w = .ok (.tuple #[.agg #[v0, v1], x]) w := by
  rw [results_cell_tmp hf, hp, hu, asAddr_ptr]
  simp only [Result.andThen, run_loadVar_row w g t 27 _ _ _ h Try.underlying27 rfl (by kernel_rfl)]
end
theorem own_set {w : World} {B : Nat} {e : TypeId} {size : Nat} {v : Value} {n : Nat} {xs : List Value} (h : w.ownsRow B e size v n xs) (p : Addr) (u : Value) (hp : p.block < B) : (w.setCell p u).ownsRow B e size v n xs := by
  have hg : w.grownBy (w.setCell p u) (some p.block) := ⟨rfl, rfl, rfl, by simp [World.setCell], fun k hk hn => heap_setCell_other w p k u (fun e => hn (by rw [e]))⟩
  refine h.kept hg (.inr ?_)
  intro e
  have := (h.lt p.block e).1
  omega

set_option maxHeartbeats 400000 in
theorem toT (n : Int) (a : Option Addr) (cap : Nat) (l : List Int) (w : World) (hl : l.length ≤ 1048576) (hrow : IntRow w a l) :
    Calls Try.prog 28 #[.agg #[.int .i64 n, .slice a l.length cap]] w fun e w' => (∃ g, e = .returned (.agg #[.int .i64 n, .slice (some ⟨g, 0, none⟩) l.length l.length]) ∧ w'.ownsRow w.heap.size 3 1 (.slice (some ⟨g, 0, none⟩) l.length l.length) l.length (l.map iv)) ∧ Below w.heap.size w w' := by
  obtain ⟨Wa, hWa⟩ : ∃ Wa, Wa = w.alloc (.cells #[.int .i64 n, .slice a l.length cap] 35) := ⟨_, rfl⟩
  obtain ⟨Wb, hWb⟩ : ∃ Wb, Wb = Wa.alloc (.cells #[.int .i64 0, .slice none 0 0] 27) := ⟨_, rfl⟩
  obtain ⟨Wc, hWc⟩ : ∃ Wc, Wc = Wb.alloc (.cells #[.int .i64 n, .slice none 0 0] 27) := ⟨_, rfl⟩
  have sa : Wa.heap.size = w.heap.size + 1 := by rw [hWa]; simp
  have sb : Wb.heap.size = w.heap.size + 1 + 1 := by rw [hWb]; simp [sa]
  have sc : Wc.heap.size = w.heap.size + 1 + 1 + 1 := by rw [hWc]; simp [sb]
  have hba : Below w.heap.size w Wa := by rw [hWa]; exact (Below.refl _ _).alloc (Nat.le_refl _) _
  have hbb : Below Wa.heap.size Wa Wb := by rw [hWb]; exact (Below.refl _ _).alloc (Nat.le_refl _) _
  have hbc : Below Wb.heap.size Wb Wc := by rw [hWc]; exact (Below.refl _ _).alloc (Nat.le_refl _) _
  have x1 : Box Wb (w.heap.size + 1) 27 (.int .i64 0) (.slice none 0 0) := by rw [hWb, ← sa]; exact Box.new _ _ _ _
  have x2 : Box Wc (w.heap.size + 1 + 1) 27 (.int .i64 n) (.slice none 0 0) := by rw [hWc, ← sb]; exact Box.new _ _ _ _
  have hW : Hid (Wc = ((w.alloc (.cells #[.int .i64 n, .slice a l.length cap] 35)).alloc (.cells #[.int .i64 0, .slice none 0 0] 27)).alloc (.cells #[.int .i64 n, .slice none 0 0] 27)) := by
    rw [hWc, hWb, hWa]; exact rfl
  have hb0 : Below w.heap.size w Wc := (hba.trans (hbb.mono (by omega))).trans (hbc.mono (by omega))
  have hrow1 : IntRow Wc a l := hrow.below hb0 (Nat.le_refl _)
  clear hWa hWb hWc hba hbb
  go_enter Try.func28, Try.ntmps28
  go_wp2_with fail
  rw [← hW.out]
  refine (toInt a cap l Wc hl hrow1).mono ?_
  rintro e w1 ⟨⟨g, rfl, ho⟩, hb1⟩
  have y2 : Box w1 (w.heap.size + 1 + 1) 27 (.int .i64 n) (.slice none 0 0) := x2.below hb1 (by omega)
  have y1 : Box w1 (w.heap.size + 1) 27 (.int .i64 0) (.slice none 0 0) := (x1.below hbc (by omega)).below hb1 (by omega)
  have c20 := y2.c0
  have c21 := y2.c1
  have f21 := y2.f1
  have c10 := y1.c0
  have c11 := y1.c1
  have f10 := y1.f0
  have f11 := y1.f1
  have Y1 := Lib.hid y1
  have HO := Lib.hid ho
  clear y1 y2 x1 x2 ho
  go_wp2
  refine bodyPost_ret (v := .agg #[.int .i64 n, .slice (some ⟨g, 0, none⟩) l.length l.length]) (Box.res1 rfl _ rfl (((Y1.out.other ⟨w.heap.size + 1 + 1, 1, none⟩ _ (by simp)).set0 _).set1 _)) rfl ⟨⟨g, rfl, ?_⟩, ?_⟩
  · exact (((own_set HO.out ⟨w.heap.size + 1 + 1, 1, none⟩ _ (by show w.heap.size + 1 + 1 < _; omega)) |> fun h => own_set (own_set h ⟨w.heap.size + 1, 0, none⟩ _ (by show w.heap.size + 1 < _; omega)) ⟨w.heap.size + 1, 1, none⟩ _ (by show w.heap.size + 1 < _; omega)).mono (by omega))
  · exact (((hb0.trans (hb1.mono (by omega))).setCell (p := ⟨w.heap.size + 1 + 1, 1, none⟩) (by show w.heap.size ≤ w.heap.size + 1 + 1; omega) _).setCell (p := ⟨w.heap.size + 1, 0, none⟩) (by show w.heap.size ≤ w.heap.size + 1; omega) _).setCell (p := ⟨w.heap.size + 1, 1, none⟩) (by show w.heap.size ≤ w.heap.size + 1; omega) _

/-- The numbers that 'mark' writes, from k on. -/
def marks (k n : Nat) : List Int := (List.range n).map fun i => ((k + i : Nat) : Int)
theorem marks_len (k n : Nat) : (marks k n).length = n := by simp [marks]
theorem marks_at (k n i : Nat) (h : i < n) : ((marks k n).map iv)[i]? = some (.int .i64 ((k + i : Nat) : Int)) := by simp [marks, h, iv]
def mkRow (k : Nat) (l : List Value) (i : Nat) : List Value := (marks k i).map iv ++ l.drop i
theorem mkRow_zero (k : Nat) (l : List Value) : mkRow k l 0 = l := by simp [mkRow, marks]
theorem mkRow_len (k : Nat) (l : List Value) (i : Nat) (h : i ≤ l.length) : (mkRow k l i).length = l.length := by simp [mkRow, marks]; omega
theorem mkRow_all (k : Nat) (l : List Value) : mkRow k l l.length = (marks k l.length).map iv := by simp [mkRow]
theorem mkRow_set (k : Nat) (l : List Value) (i : Nat) (h : i < l.length) : (mkRow k l i).set i (.int .i64 ((k + i : Nat) : Int)) = mkRow k l (i + 1) := by
  unfold mkRow
  rw [List.set_append, if_neg (by simp [marks])]
  have e1 : i - ((marks k i).map iv).length = 0 := by simp [marks]
  rw [e1, List.drop_eq_getElem_cons h, List.set_cons_zero]
  simp [marks, List.range_succ, iv]

set_option maxHeartbeats 400000 in
/-- Every number of a list of the call's own is overwritten by its mark. -/
theorem markInt (B n k : Nat) (v : Value) (l : List Value) (w : World) (hn : n ≤ 1048577) (hk : k ≤ 4194304) (hown : w.ownsRow B 3 1 v n l) :
    Calls Try.prog 21 #[v, .int .i64 k] w fun e w' => e = .returned (.int .i64 ((k + n : Nat) : Int)) ∧ w'.ownsRow B 3 1 v n ((marks k n).map iv) ∧ Below B w w' ∧ w.grownBy w' v.ownBlock := by
  have hlen : l.length = n := by simpa using hown.1
  have H0 : Hid (l.length = n) := hlen
  rcases hown.2 with ⟨rfl, hx⟩ | ⟨g, cap, cur, rfl, hgB, hg, _⟩
  · have hn0 : n = 0 := hx
    subst hn0
    have hm : Hid ((marks k 0).map iv = l) := by show _ = _; rw [List.eq_nil_of_length_eq_zero hlen]; rfl
    clear hlen hx
    go_enter Try.func21, Try.ntmps21
    go_wp2
    go_loopw [1, 5] (fun q i wr => i = .int .i64 0 ∧ q = .int .i64 k ∧ wr = w) (fun _ _ _ => 0)
    case atStart => exact ⟨rfl, rfl, rfl⟩
    case round =>
      obtain ⟨rfl, rfl, rfl⟩ := hrel
      go_wp2
      go_ret
      exact ⟨rfl, by rw [hm.out]; exact hown, Below.refl _ _, World.grownBy.refl _ _⟩
  · clear hlen
    rw [← mkRow_zero k l] at hown
    go_enter Try.func21, Try.ntmps21
    go_wp2
    go_loopw [1, 5] (fun q i wr => ∃ j : Nat, j ≤ n ∧ i = .int .i64 j ∧ q = .int .i64 ((k + j : Nat) : Int) ∧ wr.ownsRow B 3 1 (.slice (some ⟨g, 0, none⟩) n cap) n (mkRow k l j) ∧ Below B w wr ∧ Hid (w.grownBy wr (some g))) (fun _ i _ => n - (intOf i).toNat)
    case atStart => exact ⟨0, Nat.zero_le _, rfl, rfl, hown, Below.refl _ _, World.grownBy.refl _ _⟩
    case round =>
      clear hown
      obtain ⟨j, hj, rfl, rfl, hown, hb, hgr⟩ := hrel
      by_cases hlt : j < n
      · have hst := hown.stored j (.int .i64 ((k + j : Nat) : Int))
        rw [mkRow_set k l j (by have := H0.out; omega)] at hst
        have hcy := hown.cellAt j (by omega)
        have hfr := hown.frozenAt j
        obtain ⟨u, hu⟩ : ∃ u, (mkRow k l j)[j]? = some u := ⟨_, List.getElem?_eq_getElem (by rw [mkRow_len k l j (by have := H0.out; omega)]; have := H0.out; omega)⟩
        rw [hu] at hcy
        have H2 := Lib.hid hst.1
        have H3 := Lib.hid (hgr.out.trans hst.2)
        have hb4 : Below B w (wr.setCell ⟨g, j, none⟩ (.int .i64 ((k + j : Nat) : Int))) := hb.setCell (p := ⟨g, j, none⟩) hgB _
        clear hst hu hown hb
        go_wp2
        go_roundw
        case rel => exact ⟨j + 1, by omega, by go_num, by go_num, by simpa using H2.out, by simpa using hb4, by have := H3.out; simpa [Hid] using this⟩
        case measure => simp [intOf]; omega
      · obtain rfl : j = n := by omega
        have hm : Hid (mkRow k l j = (marks k j).map iv) := by
          show _ = _
          have := mkRow_all k l; rwa [H0.out] at this
        rw [hm.out] at hown
        go_wp2
        go_ret
        exact ⟨rfl, hown, hb, hgr.out⟩

set_option maxHeartbeats 400000 in
/-- Every number of the list is its mark. -/
theorem heldInt (B n k : Nat) (v : Value) (w : World) (hn : n ≤ 1048577) (hk : k ≤ 4194304) (hown : w.ownsRow B 3 1 v n ((marks k n).map iv)) :
    Calls Try.prog 83 #[v, .int .i64 k] w fun e w' => e = .returned (.int .i64 ((k + n : Nat) : Int)) ∧ Below w.heap.size w w' := by
  rcases hown.2 with ⟨rfl, hx⟩ | ⟨g, cap, cur, rfl, hgB, hg, _⟩
  · have hn0 : n = 0 := hx
    subst hn0
    clear hx hown
    go_enter Try.func83, Try.ntmps83
    go_wp2
    go_loopw [1, 5] (fun q i wr => i = .int .i64 0 ∧ q = .int .i64 k ∧ wr = w) (fun _ _ _ => 0)
    case atStart => exact ⟨rfl, rfl, rfl⟩
    case round =>
      obtain ⟨rfl, rfl, rfl⟩ := hrel
      go_wp2
      go_ret
      exact ⟨rfl, Below.refl _ _⟩
  · have hgl : g < w.heap.size := (hown.lt g rfl).2
    have HO := Lib.hid hown
    clear hown hg
    go_enter Try.func83, Try.ntmps83
    go_wp2
    go_loopw [1, 5] (fun q i wr => ∃ j : Nat, j ≤ n ∧ i = .int .i64 j ∧ q = .int .i64 ((k + j : Nat) : Int) ∧ Below w.heap.size w wr) (fun _ i _ => n - (intOf i).toNat)
    case atStart => exact ⟨0, Nat.zero_le _, rfl, rfl, Below.refl _ _⟩
    case round =>
      obtain ⟨j, hj, rfl, rfl, hb⟩ := hrel
      by_cases hlt : j < n
      · obtain ⟨x, hx⟩ : ∃ x, x = ((k + j : Nat) : Int) := ⟨_, rfl⟩
        have hcx : wr.cell? ⟨g, j, none⟩ = some (.int .i64 x) := by
          rw [hb.cell (p := ⟨g, j, none⟩) hgl, HO.out.cellAt j (by omega), marks_at k n j hlt, hx]
        have hi0 : (0 : Int) ≤ (j : Int) ∧ (j : Int) < (n : Int) := by omega
        have hx1 : Hid (((k + (j + 1) : Nat) : Int) = x + 1) := by show _ = _; omega
        have hx2 : x ≤ 9999999 := by omega
        have hx3 : 0 ≤ x := by omega
        rw [← hx]
        clear hx
        go_wp2
        exact ⟨⟨j + 1, by omega, by go_num, by rw [hx1.out], hb⟩, by simp [intOf]; omega⟩
      · obtain rfl : j = n := by omega
        go_wp2
        go_ret
        exact ⟨rfl, hb⟩

theorem markT (n0 : Int) (B n k : Nat) (a : Option Addr) (cap : Nat) (l : List Value) (w : World) (hn : n ≤ 1048577) (hk : k ≤ 4194304) (hB : B ≤ w.heap.size) (hown : w.ownsRow B 3 1 (.slice a n cap) n l) :
    Calls Try.prog 22 #[.agg #[.int .i64 n0, .slice a n cap], .int .i64 k] w fun e w' => e = .returned (.int .i64 ((k + n : Nat) : Int)) ∧ w'.ownsRow B 3 1 (.slice a n cap) n ((marks k n).map iv) ∧ Below B w w' ∧ w.grownBy w' (Value.slice a n cap).ownBlock := by
  obtain ⟨W1, hW1⟩ : ∃ W1, W1 = w.alloc (.cells #[.int .i64 n0, .slice a n cap] 27) := ⟨_, rfl⟩
  have hb1 : Below w.heap.size w W1 := by rw [hW1]; exact (Below.refl _ _).alloc (Nat.le_refl _) _
  have ho1 := own_below hown hb1
  have hg1 : w.grownBy W1 (Value.slice a n cap).ownBlock := by rw [hW1]; exact World.grownBy_alloc _ _ _
  have HW := Lib.hid hW1
  clear hW1 hown
  go_enter Try.func22, Try.ntmps22
  go_wp2_with fail
  rw [← HW.out]
  refine (markInt B n k _ l W1 hn hk ho1).mono ?_
  rintro e w2 ⟨rfl, ho2, hb2, hg2⟩
  have HG := Lib.hid (hg1.trans hg2)
  clear hg1 hg2
  go_wp2
  go_ret
  exact ⟨rfl, ho2, (hb1.mono hB).trans hb2, HG.out⟩

theorem heldT (n0 : Int) (B n k : Nat) (a : Option Addr) (cap : Nat) (w : World) (hn : n ≤ 1048577) (hk : k ≤ 4194304) (hown : w.ownsRow B 3 1 (.slice a n cap) n ((marks k n).map iv)) :
    Calls Try.prog 23 #[.agg #[.int .i64 n0, .slice a n cap], .int .i64 k] w fun e w' => e = .returned (.int .i64 ((k + n : Nat) : Int)) ∧ Below w.heap.size w w' := by
  obtain ⟨W1, hW1⟩ : ∃ W1, W1 = w.alloc (.cells #[.int .i64 n0, .slice a n cap] 27) := ⟨_, rfl⟩
  have hb1 : Below w.heap.size w W1 := by rw [hW1]; exact (Below.refl _ _).alloc (Nat.le_refl _) _
  have ho1 := own_below hown hb1
  have HW := Lib.hid hW1
  have hneg : ¬ ((k + n : Nat) : Int) < 0 := by omega
  clear hW1 hown
  go_enter Try.func23, Try.ntmps23
  go_wp2_with fail
  rw [← HW.out]
  refine (heldInt B n k _ W1 hn hk ho1).mono ?_
  rintro e w2 ⟨rfl, hb2⟩
  go_wp2
  go_ret
  exact ⟨rfl, hb1.trans (hb2.mono hb1.size)⟩
end Go.Proofs.Yteiadhfjpohmdaa
