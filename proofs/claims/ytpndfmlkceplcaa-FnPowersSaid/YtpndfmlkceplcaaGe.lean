/-
  'sumsOfBeaten' of the program: for each player of a valid tour the sum of numbers over those whom they beat. Conditions: numbers up to 2^45, and the bounds that Go gives a slice.
-/
import Derived.Test.YtpndfmlkceplcaaM
import Derived.Test.YtpndfmlkceplcaaGc
namespace Go.Proofs.Ytpndfmlkceplcaa
open Go.ChangeShapes Go.WideShapes Go.ChangeAt Go.RowKit Go.Shelf
attribute [local go_sem] Oper.semAt_some
set_option linter.unusedVariables false

/-- The sums while the games come in. -/
def sumStep {m : Nat} (xs ys : List Nat) (x : Pl m) : List Nat := ys.set x.1.val (ys.getD x.1.val 0 + xs.getD x.2.val 0)
def sumF {m : Nat} (xs : List Nat) (pre : List (Pl m)) : List Nat := pre.foldl (sumStep xs) (List.replicate m 0)
theorem sumF_snoc {m : Nat} (xs : List Nat) (pre : List (Pl m)) (x : Pl m) : sumF xs (pre ++ [x]) = sumStep xs (sumF xs pre) x := by simp [sumF]
theorem sumF_len {m : Nat} (xs : List Nat) (pre : List (Pl m)) : (sumF xs pre).length = m := by
  have : ∀ (L : List (Pl m)) (ys : List Nat), (L.foldl (sumStep xs) ys).length = ys.length := by
    intro L
    induction L with
    | nil => intro ys; rfl
    | cons x L ih => intro ys; rw [List.foldl_cons, ih]; simp [sumStep]
  rw [sumF, this]; simp
theorem getD_le (xs : List Nat) (M : Nat) (h : ∀ x ∈ xs, x ≤ M) (i : Nat) : xs.getD i 0 ≤ M := by
  rw [List.getD_eq_getElem?_getD]
  rcases Nat.lt_or_ge i xs.length with hi | hi
  · rw [List.getElem?_eq_getElem hi]; exact h _ (List.getElem_mem _)
  · rw [List.getElem?_eq_none hi]; exact Nat.zero_le _
theorem sumF_le {m : Nat} (xs : List Nat) (M : Nat) (h : ∀ x ∈ xs, x ≤ M) (pre : List (Pl m)) : ∀ y ∈ sumF xs pre, y ≤ pre.length * M := by
  have : ∀ (L : List (Pl m)) (ys : List Nat) (B : Nat), (∀ y ∈ ys, y ≤ B) → ∀ y ∈ L.foldl (sumStep xs) ys, y ≤ B + L.length * M := by
    intro L
    induction L with
    | nil => intro ys B hB y hy; have := hB y hy; simpa using this
    | cons x L ih =>
      intro ys B hB y hy
      have := ih (sumStep xs ys x) (B + M) (by
        intro z hz
        rcases List.mem_or_eq_of_mem_set hz with h1 | h1
        · have := hB z h1; omega
        · rw [h1]; have := getD_le xs M h x.2.val; have := getD_le ys B hB x.1.val; omega) y hy
      rw [List.length_cons, Nat.add_mul]; omega
  intro y hy
  have := this pre (List.replicate m 0) 0 (by intro y hy; rw [List.eq_of_mem_replicate hy]; exact Nat.le_refl _) y hy
  omega

/-- What both sides answer: sums over those whom a player beats. -/
def sumsL (l : List Int) (xs : List Nat) : List Nat := l.map fun w => ((elems w.toNat).map fun b => xs.getD b 0).sum
theorem sumF_at {m : Nat} (xs : List Nat) (i : Nat) : ∀ (G : List (Pl m)) (ys : List Nat), i < ys.length →
    (G.foldl (sumStep xs) ys).getD i 0 = ys.getD i 0 + ((G.filter fun x => x.1.val == i).map fun x => xs.getD x.2.val 0).sum := by
  intro G
  induction G with
  | nil => intro ys _; simp
  | cons x G ih =>
    intro ys hi
    rw [List.foldl_cons, ih _ (by simpa [sumStep] using hi)]
    have e : (sumStep xs ys x).getD i 0 = if x.1.val = i then ys.getD i 0 + xs.getD x.2.val 0 else ys.getD i 0 := by
      unfold sumStep
      rw [List.getD_eq_getElem?_getD, List.getElem?_set]
      by_cases h : x.1.val = i
      · rw [if_pos h, if_pos (by rw [h]; exact hi), if_pos h, h]; rfl
      · rw [if_neg h, if_neg h, ← List.getD_eq_getElem?_getD]
    rw [e]
    by_cases h : x.1.val = i
    · rw [if_pos h, List.filter_cons_of_pos (by simpa using h), List.map_cons, List.sum_cons]; omega
    · rw [if_neg h, List.filter_cons_of_neg (by simpa using h)]
theorem games_of (m : Nat) (l : List Int) (i : Nat) (hi : i < m) : ∀ k, k ≤ m → (gamesTo m l k).filter (fun x => x.1.val == i) = if i < k then rowG m l ⟨i, hi⟩ else []
  | 0, _ => by simp [gamesTo]
  | k + 1, hk => by
    rw [gamesTo_succ m l k (by omega), List.filter_append, games_of m l i hi k (by omega)]
    have hrow : (rowG m l ⟨k, by omega⟩).filter (fun x => x.1.val == i) = if k = i then rowG m l ⟨k, by omega⟩ else [] := by
      unfold rowG
      by_cases h : k = i
      · rw [if_pos h]
        apply List.filter_eq_self.2
        intro x hx
        obtain ⟨b, _, rfl⟩ := List.mem_map.1 hx
        simpa using h
      · rw [if_neg h]
        apply List.filter_eq_nil_iff.2
        intro x hx
        obtain ⟨b, _, rfl⟩ := List.mem_map.1 hx
        simpa using h
    rw [hrow]
    by_cases h1 : i < k
    · rw [if_pos h1, if_neg (by omega), if_pos (by omega), List.append_nil]
    · rw [if_neg h1]
      by_cases h2 : k = i
      · subst h2; rw [if_pos rfl, if_pos (by omega), List.nil_append]
      · rw [if_neg h2, if_neg (by omega)]; rfl
theorem sumF_all {n : Int} {l : List Int} (hok : Ok n l) (xs : List Nat) : sumF xs (gamesL l.length l) = sumsL l xs := by
  have hl8 : l.length ≤ 8 := by have := hok.2.1; have := hok.2.2.1; omega
  apply List.ext_getElem (by rw [sumF_len]; simp [sumsL])
  intro i h1 h2
  have hi : i < l.length := by rw [sumF_len] at h1; exact h1
  have e1 : (sumF xs (gamesL l.length l))[i] = (sumF xs (gamesL l.length l)).getD i 0 := by rw [List.getD_eq_getElem?_getD, List.getElem?_eq_getElem h1]; rfl
  obtain ⟨x, hx, hin, hx8⟩ := hok.nat hi
  rw [e1, sumF, sumF_at xs i _ _ (by simpa using hi), gamesL, games_of l.length l i hi l.length (Nat.le_refl _), if_pos hi]
  have hxl : l[i] = (x : Int) := by rw [← hx, List.getD_eq_getElem?_getD, List.getElem?_eq_getElem hi]; rfl
  simp only [sumsL, List.getElem_map]
  have hlt : x < 2 ^ l.length := by
    first | exact hin | (have := (hok.2.2.2 i hi).1; rw [hx] at this; simpa using this)
  rw [hxl, Int.toNat_natCast, elems_losers l.length l i x hl8 hx hlt]
  unfold rowG
  rw [List.map_map, List.map_map]
  simp [List.getD_eq_getElem?_getD, List.getElem?_replicate, Function.comp_def]
  split <;> rfl

theorem wpIn_thenG {F : Fence} {n : Nat} {P : Program} {c : Code} {K : Act → World → Prop} {Q : Exit → Act → World → Prop} {a : Act} {w : World} (h : c.wpIn F n P (Exit.then K (fun _ _ _ => False)) a w) (hq : ∀ a w, K a w → Q .normal a w) : c.wpIn F n P Q a w :=
  wpIn_mono h (fun e a w hk => by
    cases e with
    | normal => exact hq a w hk
    | _ => exact hk.elim)
theorem games_lenG (m : Nat) (l : List Int) : ∀ k, k ≤ m → (gamesTo m l k).length ≤ k * m
  | 0, _ => by simp [gamesTo]
  | k + 1, hk => by
    rw [gamesTo_succ m l k (by omega), List.length_append, Nat.add_mul]
    have h1 := games_lenG m l k (by omega)
    have h2 : (rowG m l ⟨k, by omega⟩).length ≤ m := by
      unfold rowG losers
      rw [List.length_map]
      exact Nat.le_trans (List.length_filter_le _ _) (by simp)
    omega
theorem games_64 {m : Nat} (l : List Int) (h : m ≤ 8) : (gamesL m l).length ≤ 64 := by
  have h1 := games_lenG m l m (Nat.le_refl _)
  have h2 : m * m ≤ 8 * 8 := Nat.mul_le_mul h h
  unfold gamesL
  omega
theorem Boxed.turnG {A C : World} {row : Option Nat} {b : Nat} {t : TypeId} {v : Value} (h : Boxed A b t v) (hg : A.grownBy C row) (hr : ∀ r, row = some r → ∃ o : Obj, A.heap[r]? = some o ∧ o.isCells = false) : Boxed C b t v :=
  boxed_own (β := Unit) b t (fun _ => v) () A C row h hg hr
theorem sums_step (m : Nat) (ys : List Nat) (i : Nat) (z : Nat) : (ys.map nv).set i (nv z) = (ys.set i z).map nv := by rw [List.map_set]

theorem make_rowG (m : Nat) (hm : m ≤ 64) (W : World) : (Instr.makeSlice 22 (.int .i64 (m : Int)) (.int .i64 (m : Int))).run Try.prog W = .ok (.slice (some ⟨W.heap.size, 0, none⟩) m m) (W.alloc (.cells (madeCells #[.int .i64 0] m) 3)) := by
  obtain ⟨i0, hi, hz0, hz1, hz2⟩ := info_parts infoInt
  have := run_makeSlice (P := Try.prog) (w := W) 22 3 i0 (.int .i64 0) Try.underlying22 hi hz0 .i64 .i64 (m : Int) (m : Int) (by omega) (Int.le_refl _) (by rw [hz1]; simp; omega) (by rw [hz2]; omega) (by omega)
  rw [hz1] at this
  have e : (Value.int IntKind.i64 0).cells = #[.int .i64 0] := rfl
  simpa [e] using this

set_option maxRecDepth 100000 in
set_option maxHeartbeats 40000000 in
theorem sumsOfBeaten_any (n : Int) (a : Option Addr) (l : List Int) (cap : Nat) (b : Option Addr) (xs : List Nat) (cb M : Nat) (w : World) (hrow : IntRow w a l) (hok : Ok n l) (hrb : IntRow w b (xs.map Int.ofNat)) (hxl : xs.length = l.length) (hM : ∀ x ∈ xs, x ≤ M) (hM2 : M ≤ 2 ^ 45) :
    Calls Try.prog 98 #[.agg #[.int .i64 n, .slice a l.length cap], .slice b l.length cb] w fun e w' => (∃ g, e = .returned (.slice (some ⟨g, 0, none⟩) l.length l.length) ∧ w'.ownsRow w.heap.size 3 1 (.slice (some ⟨g, 0, none⟩) l.length l.length) l.length ((sumsL l xs).map nv)) ∧ Below w.heap.size w w' := by
  obtain ⟨Wb, hWb⟩ : ∃ Wb, Wb = w.alloc (.cells #[.int .i64 n, .slice a l.length cap] 27) := ⟨_, rfl⟩
  obtain ⟨Wa, hWa⟩ : ∃ Wa, Wa = Wb.alloc (.cells #[.slice b l.length cb] 22) := ⟨_, rfl⟩
  have sb : Wb.heap.size = w.heap.size + 1 := by rw [hWb]; simp
  have sa : Wa.heap.size = w.heap.size + 1 + 1 := by rw [hWa]; simp [sb]
  have hbb : Below w.heap.size w Wb := by rw [hWb]; exact (Below.refl _ _).alloc (Nat.le_refl _) _
  have hba : Below w.heap.size w Wa := by rw [hWa]; exact hbb.alloc hbb.size _
  have xt : Box Wa w.heap.size 27 (.int .i64 n) (.slice a l.length cap) := by
    rw [hWa]; exact (show Box Wb w.heap.size 27 (.int .i64 n) (.slice a l.length cap) by rw [hWb]; exact Box.new _ _ _ _).below ((Below.refl Wb.heap.size Wb).alloc (Nat.le_refl _) _) (by omega)
  have xr : Boxed Wa (w.heap.size + 1) 22 (.slice b l.length cb) := by rw [hWa, ← sb]; exact Boxed.new _ _ _
  have HWa : Hid (Wa = (w.alloc (.cells #[.int .i64 n, .slice a l.length cap] 27)).alloc (.cells #[.slice b l.length cb] 22)) := by rw [hWa, hWb]; exact rfl
  have hrowa : IntRow Wa a l := hrow.below hba (Nat.le_refl _)
  have HRW := Lib.hid hrow
  have HRB := Lib.hid hrb
  have HMM := Lib.hid hM
  have HM2 := Lib.hid hM2
  have HXL := Lib.hid hxl
  clear hrow hWa hWb hbb hrb hM hM2 hxl
  have HK : Hid (Ok n l) := hok
  have hnl := HK.out.2.2.1
  have hl8 : l.length ≤ 8 := by have := HK.out.2.1; omega
  have hl1 : 1 ≤ l.length := by have := HK.out.1; omega
  subst hnl
  clear hok
  obtain ⟨i0, hi, hz0, hz1, hz2⟩ := info_parts infoInt
  have t0 := xt.c0
  refine (callsIn_wide (n := 8)).1 ?_
  refine callsIn_of_wp_marks Try.func98 rfl trivial ?_ rfl
  simp only [Try.ntmps98, List.size_toArray, List.length_cons, List.length_nil, Nat.reduceAdd, Nat.reduceSub, Array.replicate_succ, Array.replicate_zero, List.push_toArray, List.append_toArray, List.nil_append, List.cons_append]
  obtain ⟨cs, hcs⟩ : ∃ cs, cs = madeCells #[.int .i64 0] l.length := ⟨_, rfl⟩
  have hmk : ∀ W : World, (Instr.makeSlice 22 (.int .i64 (l.length : Int)) (.int .i64 (l.length : Int))).run Try.prog W = .ok (.slice (some ⟨W.heap.size, 0, none⟩) l.length l.length) (W.alloc (.cells cs 3)) := fun W => by rw [hcs]; exact make_rowG l.length (by omega) W
  have hcz : cs.toList = (List.replicate l.length 0).map nv := by rw [hcs]; exact zeros _
  have HCZ := Lib.hid hcz
  clear hcs hcz
  obtain ⟨W4, hW4⟩ : ∃ W4, W4 = (Wa.alloc (.cells cs 3)).alloc (.cells #[.slice (some ⟨w.heap.size + 1 + 1, 0, none⟩) l.length l.length] 22) := ⟨_, rfl⟩
  obtain ⟨g, hg⟩ : ∃ g, g = w.heap.size + 1 + 1 := ⟨_, rfl⟩
  obtain ⟨ps, hps⟩ : ∃ ps, ps = w.heap.size + 1 + 1 + 1 := ⟨_, rfl⟩
  have hcsz : cs.size = l.length := by have := congrArg List.length HCZ.out; simpa using this
  have hb4 : Below Wa.heap.size Wa W4 := by rw [hW4]; exact ((Below.refl _ _).alloc (Nat.le_refl _) _).alloc (by simp) _
  have hrow4 : W4.heap[g]? = some (.cells cs 3 (0, 0)) := by
    rw [hW4, hg, ← sa]
    exact ((World.grownBy_alloc (Wa.alloc (.cells cs 3)) (.cells #[.slice (some ⟨Wa.heap.size, 0, none⟩) l.length l.length] 22) none).block Wa.heap.size (by simp) (by simp)).trans (World.alloc_heap_new Wa _)
  have hs4 : W4.heap.size = ps + 1 := by rw [hW4, hps]; simp [sa]
  have xf4 : Boxed W4 ps 22 (.slice (some ⟨g, 0, none⟩) l.length l.length) := by
    have := Boxed.new (Wa.alloc (.cells cs 3)) 22 (.slice (some ⟨w.heap.size + 1 + 1, 0, none⟩) l.length l.length)
    rw [← hW4] at this
    rw [hg, hps]; simpa [sa] using this
  have ho4 : W4.ownsRow w.heap.size 3 1 (.slice (some ⟨g, 0, none⟩) l.length l.length) l.length ((List.replicate l.length 0).map nv) :=
    ⟨by simp, .inr ⟨g, l.length, cs, rfl, by omega, hrow4, Nat.le_refl _, by unfold maxLen; omega, by omega, by rw [Nat.mul_one, List.take_of_length_le (by rw [Array.length_toList, hcsz]; exact Nat.le_refl _)]; exact HCZ.out⟩⟩
  have xr4 := xr.kept (grown_of_below hb4) (by simp)
  have hrw4 := hrowa.below hb4 (Nat.le_refl _)
  have B4 := hba.trans (hb4.mono hba.size)
  have HW4 : Hid (W4 = (((w.alloc (.cells #[.int .i64 l.length, .slice a l.length cap] 27)).alloc (.cells #[.slice b l.length cb] 22)).alloc (.cells cs 3)).alloc (.cells #[.slice (some ⟨w.heap.size + 1 + 1, 0, none⟩) l.length l.length] 22)) := by rw [hW4, HWa.out]; exact rfl
  have hag : blk a ≠ some g := by
    intro e
    rcases hrowa with h | ⟨ba, off, rfl, hbl, _⟩
    · rw [h] at hl1; simp at hl1
    · simp only [blk] at e
      have e2 : ba = g := by simpa using e
      rcases HRW.out with h | ⟨bb, off2, he, hbl2, _⟩
      · rw [h] at hl1; simp at hl1
      · simp only [Option.some.injEq, Addr.mk.injEq] at he; omega
  clear hW4 hrow4 xt xr hrowa
  gi_wp2_with fail
  refine ⟨trivial, ?_⟩
  rw [← HW4.out, ← hps, ← hg]
  refine (callsIn_wide.2 (games_any _ a l.length cap W4)).mono ?_
  rintro e W6 ⟨rfl, hW6⟩
  have x6 : Box W6 W4.heap.size 27 (.int .i64 l.length) (.slice a l.length cap) := by rw [hW6]; exact Box.new _ _ _ _
  have hb6 : Below W4.heap.size W4 W6 := by rw [hW6]; exact (Below.refl _ _).alloc (Nat.le_refl _) _
  have s6 : W6.heap.size = W4.heap.size + 1 := by rw [hW6]; simp
  have hrow6 := hrw4.below hb6 (Nat.le_refl _)
  have ho6 := own_below ho4 hb6
  have xf6 := xf4.kept (grown_of_below hb6) (by simp)
  have xr6 := xr4.kept (grown_of_below hb6) (by simp)
  have B6 := B4.trans (hb6.mono B4.size)
  have hBg : W4.heap.size ≠ g := by omega
  have hg6 : g < W6.heap.size := by omega
  have hwg : w.heap.size ≤ g := by omega
  have hw6 : w.heap.size ≤ W6.heap.size := by omega
  have hpg : ps ≠ g := by omega
  have hrg : w.heap.size + 1 ≠ g := by omega
  have X6 := Lib.hid x6
  have HR6 := Lib.hid hrow6
  have HO6 := Lib.hid ho6
  have XF6 := Lib.hid xf6
  have XR6 := Lib.hid xr6
  have BB6 := Lib.hid B6
  clear hW6 x6 hb6 hrow6 ho6 xf6 xr6 B6 hrw4 ho4 xf4 xr4 B4 hb4 hcsz hmk t0 hg hps sa sb hba HWa HCZ hs4 s6
  gi_wp2
  refine wpIn_rangeFunc_ownG (F := Fence.wide) rfl (by omega) (gf := 159) (lb := #[.pointer (some ⟨W4.heap.size, 0, none⟩)]) rfl trivial (enters_of Try.func159 (by kernel_rfl) rfl)
    (games_stops 7 (by omega) W4.heap.size g _ a cap l HK.out W6 X6.out HR6.out hBg hag hg6) (fun h k => h.trans k) (fun W l o o' _ h hc _ => KeepsBut.put g W l o o' h hc) (Below.refl _ _) (fun _ => rfl)
    (fun pre W => (W.ownsRow w.heap.size 3 1 (.slice (some ⟨g, 0, none⟩) l.length l.length) l.length ((sumF xs pre).map nv) ∧ Boxed W ps 22 (.slice (some ⟨g, 0, none⟩) l.length l.length) ∧ Boxed W (w.heap.size + 1) 22 (.slice b l.length cb)) ∧ Below w.heap.size w W)
    (fun _ _ _ => False)
    (OwnFrom.and (Own.from (fun s A B row hs hg hr => ⟨own_abides hs.1 hg hr, Boxed.turnG hs.2.1 hg hr, Boxed.turnG hs.2.2 hg hr⟩) _) (ownFrom_below (Nat.le_refl _) hw6))
    (fun _ _ _ _ _ hs _ _ => hs)
    ⟨⟨HO6.out, XF6.out, XR6.out⟩, BB6.out⟩
    (fun x => { tmps := #[.agg #[.int .i64 l.length, .slice a l.length cap], .slice b l.length cb, .pointer (some ⟨w.heap.size, 0, none⟩), .pointer (some ⟨w.heap.size + 1, 0, none⟩), .slice none 0 0, .pointer (some ⟨ps, 0, none⟩), .int .i64 (x.1.val : Int), .int .i64 (x.2.val : Int), .pointer (some ⟨w.heap.size, 0, none⟩), .int .i64 l.length, .slice (some ⟨g, 0, none⟩) l.length l.length, .agg #[.int .i64 l.length, .slice a l.length cap], .func (.func 159) #[] #[.pointer (some ⟨W4.heap.size, 0, none⟩)], .int .i64 (x.1.val : Int), .int .i64 (x.2.val : Int), undef, undef, undef, undef, undef, undef, undef, undef, undef, undef, undef], defers := [] }) ?assign ?body ?done ?stop
  case assign =>
    intro ly x W K hK
    unfold encP
    gi_wp2
    exact hK
  case body =>
    rintro ly pre x W ⟨⟨ho, hx, hxr⟩, hB⟩ hroom
    obtain ⟨⟨i1, hi1⟩, ⟨i2, hi2⟩⟩ := x
    have h64 : pre.length < 64 := Nat.lt_of_lt_of_le hroom (games_64 l hl8)
    obtain ⟨bb, off, rfl, hbb, hcb⟩ := row_at HRB.out (show i2 < (xs.map Int.ofNat).length by rw [List.length_map, HXL.out]; exact hi2)
    have hcx := (hB.cell (p := ⟨bb, off + i2, none⟩) hbb).trans (hcb i2 (by rw [List.length_map, HXL.out]; exact hi2))
    have hxd : (xs.map Int.ofNat).getD i2 0 = ((xs.getD i2 0 : Nat) : Int) := by
      rw [List.getD_eq_getElem?_getD, List.getD_eq_getElem?_getD, List.getElem?_map, List.getElem?_eq_getElem (by rw [HXL.out]; exact hi2)]; rfl
    rw [hxd] at hcx
    obtain ⟨v, hv⟩ : ∃ v, v = xs.getD i2 0 := ⟨_, rfl⟩
    have hvM : v ≤ 2 ^ 45 := by rw [hv]; exact Nat.le_trans (getD_le xs M HMM.out _) HM2.out
    obtain ⟨y, hy⟩ : ∃ y, y = (sumF xs pre).getD i1 0 := ⟨_, rfl⟩
    have hyM : y ≤ 64 * 2 ^ 45 := by
      rw [hy]
      have h1 := getD_le (sumF xs pre) (pre.length * M) (sumF_le xs M HMM.out pre) i1
      have h2 : pre.length * M ≤ 64 * 2 ^ 45 := Nat.mul_le_mul (by omega) HM2.out
      omega
    rw [← hv] at hcx
    have hi1i : (i1 : Int) < (l.length : Int) := by omega
    have hi2i : (i2 : Int) < (l.length : Int) := by omega
    have hcy : W.cell? ⟨g, i1, none⟩ = some (.int .i64 (y : Int)) := by
      rw [ho.cellAt i1 (by omega), List.getElem?_map, List.getElem?_eq_getElem (by rw [sumF_len]; exact hi1), hy, List.getD_eq_getElem?_getD, List.getElem?_eq_getElem (by rw [sumF_len]; exact hi1)]; rfl
    have hfy := ho.frozenAt i1
    have hwr : IntKind.i64.wrap ((y : Int) + (v : Int)) = (y : Int) + (v : Int) := by rw [IntKind.wrap_i64]; omega
    have hst := ho.stored i1 (nv (y + v))
    rw [sums_step] at hst
    have e0 : nv (y + v) = .int .i64 ((y : Int) + (v : Int)) := by unfold nv; congr 1
    rw [e0] at hst
    have hgr : W.grownBy (W.setCell ⟨g, i1, none⟩ (.int .i64 ((y : Int) + (v : Int)))).drew (some g) := hst.2.trans ⟨rfl, rfl, rfl, Nat.le_refl _, fun _ _ _ => rfl⟩
    have hsm : (sumF xs pre).set i1 (y + v) = sumF xs (pre ++ [(⟨i1, hi1⟩, ⟨i2, hi2⟩)]) := by rw [sumF_snoc]; show (sumF xs pre).set i1 (y + v) = (sumF xs pre).set i1 ((sumF xs pre).getD i1 0 + xs.getD i2 0); rw [ ← hy, ← hv]
    rw [hsm] at hst
    have h5 := hx.cell
    have h3 := hxr.cell
    have G1 := Lib.hid hst.1.drew
    have G2 := Lib.hid (hx.kept hgr (by simp; omega))
    have G3 := Lib.hid (hxr.kept hgr (by simp; omega))
    have G4 : Hid (Below w.heap.size w (W.setCell ⟨g, i1, none⟩ (.int .i64 ((y : Int) + (v : Int)))).drew) := (hB.setCell (p := ⟨g, i1, none⟩) hwg _).drew
    have G5 := Lib.hid (KeepsFrom.of_grownBy hgr (B := W6.heap.size) (fun j e => by cases e; exact hg6))
    have G6 := Lib.hid (KeepsBut.grown hgr)
    clear hst hgr hsm e0 hx hxr hB ho hcb hbb hv hy hxd hroom h64
    have mixed : Try.prog.follows .mixedOrders = true := by kernel_rfl
    gi_wp2_with fail
    refine wpIn_thenG (K := fun a' w' => a' = { tmps := #[.agg #[.int .i64 l.length, .slice a l.length cap], .slice (some ⟨bb, off, none⟩) l.length cb, .pointer (some ⟨w.heap.size, 0, none⟩), .pointer (some ⟨w.heap.size + 1, 0, none⟩), .slice none 0 0, .pointer (some ⟨ps, 0, none⟩), .int .i64 (i1 : Int), .int .i64 (i2 : Int), .pointer (some ⟨w.heap.size, 0, none⟩), .int .i64 l.length, .slice (some ⟨g, 0, none⟩) l.length l.length, .agg #[.int .i64 l.length, .slice a l.length cap], .func (.func 159) #[] #[.pointer (some ⟨W4.heap.size, 0, none⟩)], .int .i64 (i1 : Int), .int .i64 (i2 : Int), .slice (some ⟨g, 0, none⟩) l.length l.length, .int .i64 (i1 : Int), .pointer (some ⟨g, i1, none⟩), .int .i64 (y : Int), .slice (some ⟨bb, off, none⟩) l.length cb, .int .i64 (i2 : Int), .pointer (some ⟨bb, off + i2, none⟩), .int .i64 (v : Int), .int .i64 ((y : Int) + (v : Int)), .pointer (some ⟨g, i1, none⟩), undef], defers := [] } ∧ w' = (W.setCell ⟨g, i1, none⟩ (.int .i64 ((y : Int) + (v : Int)))).drew) ?reg ?_
    case reg =>
      gi_region_with_o (fail)
      all_goals exact ⟨rfl, rfl⟩
    rintro a' w' ⟨rfl, rfl⟩
    · gi_wp2
      exact ⟨G5.out, G6.out, ⟨G1.out, G2.out, G3.out⟩, G4.out⟩
    all_goals exact 0
  case done =>
    rintro D ys W hD rfl ⟨⟨ho, hx, hxr⟩, hB⟩ hK
    have h5 := hx.cell
    have hput := own_abides ho (grownBy_putObj' W D (.deferred none)) (fun r e => by cases e; exact ⟨_, hK, rfl⟩)
    have hbp := hB.grown (grownBy_putObj' W D (.deferred none)) (by have := hB.size; omega) (fun k e => by cases e; omega)
    have hsum := sumF_all HK.out xs
    rw [hsum] at hput
    have H1 := Lib.hid hput
    have H4 := Lib.hid hbp
    have H5 := Lib.hid hK
    clear ho hx hxr hB hput hbp hK hsum
    gi_wp2
    refine ⟨by simp, .inl ⟨_, _, rfl, run_takeDeferred H5.out, ?_⟩⟩
    exact ⟨_, results_tmp rfl _ _ _, ⟨g, rfl, H1.out⟩, H4.out⟩
  case stop =>
    rintro D c pre W _ _ h _
    exact h.elim
end Go.Proofs.Ytpndfmlkceplcaa
