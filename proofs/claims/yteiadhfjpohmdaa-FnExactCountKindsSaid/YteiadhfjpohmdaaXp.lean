/-
  'Tour.renamings' of the program: the iterator's contract: for every loop body that keeps the iterator's rows, the tour by every order of its players comes once, each one in a new row. Condition: the tour is valid, of at most six players.
-/
import Derived.Test.YteiadhfjpohmdaaXo
import Derived.Test.YteiadhfjpohmdaaX
namespace Go.Proofs.Yteiadhfjpohmdaa
open Go.ChangeShapes Go.WideShapes Go.ChangeAt Go.RowKit Go.Shelf
attribute [local go_sem] Oper.semAt_some
set_option linter.unusedVariables false

theorem round_anyX {m m2 : Nat} {P : Program} {l lr : Nat} {f : FuncId} {tmps : Array Value} {assign body : Code} {w : World} {R : Ending → World → Prop}
    (h : RoundIn Fence.wide m P l f tmps assign body w R) : RoundIn (Fence.wide.inRound lr) m2 P l f tmps assign body w R := ⟨h.1, fun c cs _ => h.2 c cs (room_noneX rfl _)⟩

/-- The rows of a tour by an order of its players. -/
def rnL (l : List Int) (o : List Nat) : List Int := (renF (o.map Int.ofNat) (gamesL l.length l)).map Int.ofNat
theorem rnL_len (l : List Int) (o : List Nat) : (rnL l o).length = l.length := by simp [rnL, renF_len]

theorem ren_order {m : Nat} {a : Option Addr} {l : List Int} {cap : Nat} {b : Option Addr} {o : List Nat} {c : Nat} {w : World} (hm : m = l.length) (hok : Ok (m : Int) l) (ho : Rn.isO m o = true) (hrow : IntRow w a l) (hro : IntRow w b (o.map Int.ofNat)) :
    Calls Try.prog 52 #[.agg #[.int .i64 (m : Int), .slice a m cap], .slice b m c] w fun e w' => (∃ g c', e = .returned (.tuple #[.agg #[.int .i64 (m : Int), .slice (some ⟨g, 0, none⟩) m c'], .bool true]) ∧ w'.ownsRow w.heap.size 3 1 (.slice (some ⟨g, 0, none⟩) m c') m ((rnL l o).map iv)) ∧ Below w.heap.size w w' := by
  subst hm
  have hol : (o.map Int.ofNat).length = l.length := by rw [List.length_map]; exact Rn.isO_len ho
  have hl8 : l.length ≤ 8 := by have := hok.2.1; omega
  have hl1 : 1 ≤ l.length := by have := hok.1; omega
  have := implRename (l.length : Int) a l cap b (o.map Int.ofNat) c w hrow (by unfold maxLen; omega) hro (by rw [hol]; unfold maxLen; omega)
  rw [hol] at this
  have hB : renB (l.length : Int) l (o.map Int.ofNat) = true := by unfold renB; rw [okB_true hok, Rn.isO_perm ho]; rfl
  have hR : renR (l.length : Int) l (o.map Int.ofNat) = rnL l o := by unfold renR rnL; rw [hB]; rfl
  have hN : renN (l.length : Int) l (o.map Int.ofNat) = l.length := by unfold renN; rw [hB]; rfl
  rw [hB, hR, hN, rnL_len] at this
  refine this.mono ?_
  rintro e w' ⟨⟨a0, c0, rfl, ho⟩, hb⟩
  refine ⟨?_, hb⟩
  obtain ⟨m', hm'⟩ : ∃ m', l.length = m' + 1 := ⟨l.length - 1, by omega⟩
  rcases ho.2 with ⟨he, h0⟩ | ⟨g, cap', cur, he, q⟩
  · simp only [Value.slice.injEq] at he; omega
  · simp only [Value.slice.injEq, true_and] at he
    obtain ⟨rfl, rfl⟩ := he
    exact ⟨g, c0, rfl, ho⟩

theorem KeepR.weak {R R2 : Nat → Obj → Prop} {A B : World} (h : KeepR R A B) (h1 : ∀ b o, b < A.heap.size → R2 b o → R b o) : KeepR R2 A B :=
  ⟨h.size, fun i o hi hc hg => h.same i o hi hc (h1 i o (Array.getElem?_eq_some_iff.1 hi).1 hg)⟩
/-- A tour that comes: the order; its rows' block and room. -/
abbrev Tn := List Nat × Nat × Nat
def encTn (m : Nat) (x : Tn) : Array Value := #[.agg #[.int .i64 (m : Int), .slice (some ⟨x.2.1, 0, none⟩) m x.2.2]]
/-- What is known of a tour that comes. -/
structure YN (l : List Int) (m B M : Nat) (pre : List Tn) (x : Tn) (W : World) : Prop where
  next : ∃ rest, Rn.allO m = pre.map Prod.fst ++ x.1 :: rest
  own : W.ownsRow B 3 1 (.slice (some ⟨x.2.1, 0, none⟩) m x.2.2) m ((rnL l x.1).map iv)
  after : ∀ y ∈ pre, y.2.1 < x.2.1
  low : M ≤ x.2.1
theorem YN.put {l : List Int} {m B M : Nat} {pre : List Tn} {x : Tn} {W : World} (h : YN l m B M pre x W) (k : Nat) (o o2 : Obj) (ho : W.heap[k]? = some o) (hc : o.isCells = false) : YN l m B M pre x (W.putObj k o2) :=
  ⟨h.next, own_turnX h.own (grownBy_putObj' W k o2) (fun r e => by cases e; exact ⟨o, ho, hc⟩), h.after, h.low⟩

/-- What the rounds hold: the tours that have come, the caller's own, the rows. -/
structure ItM (J : List Tn → World → Prop) (R : Nat → Obj → Prop) (B M : Nat) (W0 : World) (Ls : List (List Nat)) (W : World) : Prop where
  come : ∃ xs : List Tn, xs.map Prod.fst = Ls ∧ (∀ y ∈ xs, y.2.1 < W.heap.size) ∧ J xs W
  keep : KeepR R W0 W
  oth : KeepsFrom B W0 W
  big : M ≤ W.heap.size
section
variable {J : List Tn → World → Prop} {R : Nat → Obj → Prop} {B M : Nat} {W0 W W2 : World} {Ls : List (List Nat)}
theorem ItM.turn (h : ItM J R B M W0 Ls W) {B0 : Nat} (hJ : OwnM B0 M J) (hB : B0 ≤ W0.heap.size) {row : Option Nat} (hg : W.grownBy W2 row) (hr : ∀ r, row = some r → W0.heap.size ≤ r ∧ ∃ o : Obj, W.heap[r]? = some o ∧ (o.isCells = false ∨ r < M)) : ItM J R B M W0 Ls W2 := by
  obtain ⟨xs, h1, h2, h3⟩ := h.come
  have hs := h.keep.size
  refine ⟨⟨xs, h1, fun y hy => Nat.lt_of_lt_of_le (h2 y hy) hg.size, hJ xs W W2 row h3 hg (fun r e => ⟨by have := (hr r e).1; omega, (hr r e).2⟩)⟩, ⟨Nat.le_trans hs hg.size, fun k o hk hc hR => ?_⟩, ⟨Nat.le_trans hs hg.size, fun k o hB hk hc => ?_⟩, Nat.le_trans h.big hg.size⟩
  · have h4 := h.keep.same k o hk hc hR
    have hk1 := (Array.getElem?_eq_some_iff.1 hk).1
    exact (hg.block k (Array.getElem?_eq_some_iff.1 h4).1 (fun e => by have := (hr k e.symm).1; omega)).trans h4
  · have h4 := h.oth.same k o hB hk hc
    have hk1 := (Array.getElem?_eq_some_iff.1 hk).1
    exact (hg.block k (Array.getElem?_eq_some_iff.1 h4).1 (fun e => by have := (hr k e.symm).1; omega)).trans h4
theorem ItM.below (h : ItM J R B M W0 Ls W) {B0 : Nat} (hJ : OwnM B0 M J) (hb : Below W.heap.size W W2) : ItM J R B M W0 Ls W2 := by
  obtain ⟨xs, h1, h2, h3⟩ := h.come
  exact ⟨⟨xs, h1, fun y hy => Nat.lt_of_lt_of_le (h2 y hy) hb.size, hJ xs W W2 none h3 (grown_of_below hb) (by simp)⟩, h.keep.trans (KeepR.below hb), h.oth.trans (kf_below hb), Nat.le_trans h.big hb.size⟩
end

theorem own_intN {w : World} {B m c : Nat} {a : Option Addr} {L : List Int} (hm : L.length = m) (h : w.ownsRow B 3 1 (.slice a m c) m (L.map iv)) : IntRow w a L := by subst hm; exact own_int h
theorem renamings_any (n : Int) (a : Option Addr) (len cap : Nat) (w : World) : Calls Try.prog 95 #[.agg #[.int .i64 n, .slice a len cap]] w fun e w' => e = .returned (.func (.func 137) #[] #[.pointer (some ⟨w.heap.size, 0, none⟩)]) ∧ w' = w.alloc (.cells #[.int .i64 n, .slice a len cap] 27) := by
  go_enter Try.func95, Try.ntmps95
  go_wp2
  go_ret
  exact ⟨rfl, rfl⟩

set_option maxRecDepth 100000 in
set_option maxHeartbeats 2000000 in
theorem renam1 (ly Bt Bz m : Nat) (R : Nat → Nat → Obj → Prop) (a : Option Addr) (cap : Nat) (l : List Int) (hm : m = l.length) (hok : Ok (m : Int) l) (h6 : m ≤ 6) (J Jx : Nat → List Tn → World → Prop) (B0 : Nat) (W : World) (hB0 : B0 ≤ W.heap.size) (hBz : Bz ≤ W.heap.size)
    (hJ : ∀ M, OwnM W.heap.size M (J M)) (hJx : ∀ M, OwnM W.heap.size M (Jx M))
    (hY : ∀ M pre x W1, J M pre W1 → YN l m B0 M pre x W1 → YieldAt Fence.wide 6 Try.prog ly (encTn m x) W1 fun e W' =>
      (e = .returned (.bool true) ∧ J M (pre ++ [x]) W' ∧ KeepR (R M) W1 W' ∧ KeepsFrom Bz W1 W') ∨ (e = .returned (.bool false) ∧ Jx M (pre ++ [x]) W' ∧ KeepsFrom Bz W1 W'))
    (hbox : Box W Bt 27 (.int .i64 (m : Int)) (.slice a m cap)) (hrow : IntRow W a l) (hBt : ∀ M o, R M Bt o) (hag : ∀ M b o, blk a = some b → R M b o) (hfr : ∀ M b o, B0 ≤ b → b < M → R M b o)
    (h0 : ∀ M W1, Below W.heap.size W W1 → W.heap.size ≤ M → M ≤ W1.heap.size → J M [] W1) :
    CallsIn Fence.wide 7 Try.prog 137 #[.func (.yield ly) #[] #[], .pointer (some ⟨Bt, 0, none⟩)] W fun e W' => (∃ v, e = .returned v) ∧
      ((∃ M xs, xs.map Prod.fst = Rn.allO m ∧ J M xs W') ∨ (∃ M pre, (∃ rest, Rn.allO m = pre.map Prod.fst ++ rest) ∧ Jx M pre W')) := by
  have hm1 : 1 ≤ m := by have := hok.1; omega
  obtain ⟨W1, hW1⟩ : ∃ W1, W1 = W.alloc (.cells #[.func (.yield ly) #[] #[]] 37) := ⟨_, rfl⟩
  obtain ⟨W2, hW2⟩ : ∃ W2, W2 = W1.alloc (.cells #[.int .i64 (m : Int)] 3) := ⟨_, rfl⟩
  have s1 : W1.heap.size = W.heap.size + 1 := by rw [hW1]; simp
  have s2 : W2.heap.size = W.heap.size + 1 + 1 := by rw [hW2]; simp [s1]
  have b1 : Below W.heap.size W W1 := by rw [hW1]; exact (Below.refl _ _).alloc (Nat.le_refl _) _
  have b2 : Below W1.heap.size W1 W2 := by rw [hW2]; exact (Below.refl _ _).alloc (Nat.le_refl _) _
  have b12 : Below W.heap.size W W2 := b1.trans (b2.mono (by omega))
  have xy : Boxed W2 W.heap.size 37 (.func (.yield ly) #[] #[]) := by rw [hW2]; exact Boxed.alloc (by rw [hW1]; exact Boxed.new _ _ _) _
  have xn : Boxed W2 W1.heap.size 3 (.int .i64 (m : Int)) := by rw [hW2]; exact Boxed.new _ _ _
  have xt1 : Box W1 Bt 27 (.int .i64 (m : Int)) (.slice a m cap) := hbox.below b1 hbox.lt
  have xt : Box W2 Bt 27 (.int .i64 (m : Int)) (.slice a m cap) := hbox.below b12 hbox.lt
  have hr2 : IntRow W2 a l := hrow.below b12 (Nat.le_refl _)
  have c0 := xt1.c0
  have HW1 := Lib.hid hW1
  have HW2 := Lib.hid hW2
  rw [HW1.out] at c0
  have XY := Lib.hid xy
  have XN := Lib.hid xn
  have XT := Lib.hid xt
  have HR := Lib.hid hr2
  have HOK := Lib.hid hok
  have HM := Lib.hid hm
  have B12 := Lib.hid b12
  have hWM : W.heap.size < W1.heap.size := by omega
  have hW12 : W1.heap.size < W2.heap.size := by omega
  have hb2z : Bz ≤ W2.heap.size := by omega
  clear hW1 hW2 xy xn xt xt1 hr2 hok hbox hrow b1 b2 b12 hm s1 s2
  refine callsIn_of_wp_marks Try.func137 rfl trivial ?_ rfl
  simp only [Try.ntmps137, List.size_toArray, List.length_cons, List.length_nil, Nat.reduceAdd, Nat.reduceSub, Array.replicate_succ, Array.replicate_zero, List.push_toArray, List.append_toArray, List.nil_append, List.cons_append]
  gi_wp2_with fail
  refine ⟨trivial, ?_⟩
  rw [← HW1.out]
  refine (callsIn_wide.2 (allOrders_any (m : Int) W1)).mono ?_
  rintro e w3 ⟨rfl, hw3⟩
  rw [← HW2.out] at hw3
  have hw4 := hw3.symm
  clear hw3
  subst hw4
  clear c0
  gi_wp2
  refine rangeM (F := Fence.wide) rfl (by omega) (gf := 169) (lb := #[.pointer (some ⟨W1.heap.size, 0, none⟩)]) rfl trivial (enters_of Try.func169 (by kernel_rfl) rfl)
    (orders_stops 6 W1.heap.size (W2.heap.size + 2) m hm1 h6 (fun M b _ => W2.heap.size ≤ b ∧ b < M) W2 XN.out (fun M b o h1 h2 => ⟨h1, h2⟩)) (fun h k => h.trans k) (fun M W l o o2 h hc => KeepR.put W l o o2 h hc) (fun M pre x W l o o2 _ ho hc h => h.put l o o2 ho hc) (Below.refl _ _) (fun _ => rfl)
    (fun M pre W' => ItM (J M) (R M) Bz M W2 (pre.map Prod.fst) W' ∧ W2.heap.size + 2 ≤ M)
    (fun M c _ W' => c = .ret ∧ ∃ xs, (∃ rest, Rn.allO m = xs.map Prod.fst ++ rest) ∧ Jx M xs W')
    ?ownI ?ownX ?start
    (fun x => { tmps := #[.func (.yield ly) #[] #[], .pointer (some ⟨Bt, 0, none⟩), .pointer (some ⟨W.heap.size, 0, none⟩), .slice (some ⟨x.2.1, 0, none⟩) x.1.length x.2.2, undef, undef, .pointer (some ⟨Bt, 0, none⟩), .int .i64 (m : Int), .func (.func 169) #[] #[.pointer (some ⟨W1.heap.size, 0, none⟩)], .slice (some ⟨x.2.1, 0, none⟩) x.1.length x.2.2, undef, undef, undef, undef, undef, undef, undef, undef, undef, undef], defers := [] })
    ?assign ?body ?done ?stop
  case ownI => exact fun M s A B row hs hg hr => ⟨hs.1.turn (hJ M) (by omega) hg hr, hs.2⟩
  case ownX =>
    rintro M c s A B row ⟨rfl, xs, h1, h2⟩ hg hr
    exact ⟨rfl, xs, h1, hJx M xs A B row h2 hg (fun r e => ⟨by have := (hr r e).1; omega, (hr r e).2⟩)⟩
  case start =>
    intro M V hb h1 h2
    exact ⟨⟨⟨[], rfl, fun _ h => absurd h (by simp), h0 M V (B12.out.trans (hb.mono B12.out.size)) (by omega) h2⟩, KeepR.below hb, kf_below hb, h2⟩, h1⟩
  case assign =>
    intro lg x W' K hK
    unfold encO
    gi_wp2
    exact hK
  case body =>
    rintro lg M pre ⟨o, go, co⟩ Wr ⟨hI, hMM⟩ hy
    have hol : o.length = m := Rn.isO_len (hy.is h6)
    have hoi := hy.is h6
    have hro : IntRow Wr (some ⟨go, 0, none⟩) (o.map Int.ofNat) := by
      have := hy.own
      rw [nv_iv] at this
      exact own_intN (by simp) this
    have xr := XT.out.keepR hI.keep (hBt M _)
    have hrr := HR.out.keepR hI.keep (hag M)
    have c0 := xr.c0
    have c1 := xr.c1
    have hyn := hy.next
    have HI := Lib.hid hI
    have HYN := Lib.hid hyn
    have XR := Lib.hid xr
    have HREN := Lib.hid (ren_order (cap := cap) (c := co) HM.out HOK.out hoi hrr hro)
    dsimp only
    rw [hol]
    clear hol hoi hro hrr hyn hI hy xr
    gi_wp2_with fail
    refine ⟨trivial, ?_⟩
    refine (CallsIn.inRound lg (callsIn_wide.2 HREN.out)).mono ?_
    rintro e w4 ⟨⟨g4, c4, rfl, ho4⟩, hb4⟩
    obtain ⟨W5, hW5⟩ : ∃ W5, W5 = w4.alloc (.cells #[.int .i64 (m : Int), .slice (some ⟨g4, 0, none⟩) m c4] 27) := ⟨_, rfl⟩
    have hb5 : Below w4.heap.size w4 W5 := by rw [hW5]; exact (Below.refl _ _).alloc (Nat.le_refl _) _
    have hb45 : Below Wr.heap.size Wr W5 := hb4.trans (hb5.mono hb4.size)
    have x5 : Box W5 w4.heap.size 27 (.int .i64 (m : Int)) (.slice (some ⟨g4, 0, none⟩) m c4) := by rw [hW5]; exact Box.new _ _ _ _
    have ho5 : W5.ownsRow Wr.heap.size 3 1 (.slice (some ⟨g4, 0, none⟩) m c4) m ((rnL l o).map iv) := own_below ho4 hb5
    have hg4 := ho4.lt g4 rfl
    obtain ⟨xs, hx1, hx2, hx3⟩ := HI.out.come
    have hj5 : J M xs W5 := hJ M xs Wr W5 none hx3 (grown_of_below hb45) (by simp)
    have hbig := HI.out.big
    have hsz0 := HI.out.keep.size
    have hyt : YN l m B0 M xs (o, g4, c4) W5 := by
      obtain ⟨rest, hr⟩ := HYN.out
      refine ⟨⟨rest, by rw [hx1]; exact hr⟩, ho5.mono (by omega), fun y hy => ?_, ?_⟩
      · have := hx2 y hy
        show y.2.1 < g4
        omega
      · show M ≤ g4
        omega
    obtain ⟨fn, tmps, assign, body, hyy, hR⟩ := hY M xs (o, g4, c4) W5 hj5 hyt
    have HR4 := Lib.hid (round_anyX (m2 := 4) (lr := lg) hR)
    have HW5 := Lib.hid hW5
    have HB45 := Lib.hid hb45
    have dy : W5.cell? ⟨W.heap.size, 0, none⟩ = some (.func (.yield ly) #[] #[]) := (hb45.cell (p := ⟨W.heap.size, 0, none⟩) (by show W.heap.size < Wr.heap.size; omega)).trans (Boxed.cell (HI.out.keep.same _ _ XY.out rfl (hfr M _ _ hB0 (by omega))))
    rw [hW5] at hyy dy
    dsimp only [encTn] at hyy
    have HX : Hid (xs.map Prod.fst = pre.map Prod.fst) := hx1
    have HX2 : Hid (∀ y ∈ xs, y.2.1 < Wr.heap.size) := hx2
    have HG4 := Lib.hid hg4
    have HMM := Lib.hid hMM
    clear hR hW5 hb45 hx1 hx2 hx3 hj5 hyt hb4 hb5 x5 ho4 ho5 hg4 c0 c1 hMM
    gi_wp2_with fail
    rw [← HW5.out]
    refine HR4.out.mono ?_
    rintro e W6 (⟨rfl, hJ6, hk6, ho6⟩ | ⟨rfl, hJx6, ho6⟩)
    · have hs45 := HB45.out.size
      have hs6 := hk6.size
      have hI6 : ItM (J M) (R M) Bz M W2 ((pre ++ [((o, go, co) : Or)]).map Prod.fst) W6 := by
        refine ⟨⟨_, ?_, fun y hy => ?_, hJ6⟩, (HI.out.keep.trans (KeepR.below HB45.out)).trans hk6, (HI.out.oth.trans (kf_below HB45.out)).trans ho6, by omega⟩
        · rw [List.map_append, List.map_append, HX.out]; rfl
        · rcases List.mem_append.1 hy with h | h
          · have := HX2.out y h; omega
          · have : y = (o, g4, c4) := by simpa using h
            subst this
            show g4 < _
            have := HG4.out.2
            have h9 : w4.heap.size ≤ W5.heap.size := by rw [HW5.out]; simp
            omega
      have HI6 := Lib.hid hI6
      have HK6 : Hid (KeepR (fun b _ => W2.heap.size ≤ b ∧ b < M) Wr W6) := ((KeepR.below HB45.out).trans hk6).weak (fun b o _ h => hfr M b o (by omega) h.2)
      have HO6 := Lib.hid ((kf_below (B := Bz) HB45.out).trans ho6)
      clear hI6 hJ6 hk6 ho6 hs45 hs6
      gi_wp2
      exact ⟨kf_mono HO6.out hb2z, HK6.out, HI6.out, HMM.out⟩
    · have HO6 := Lib.hid ((kf_below (B := Bz) HB45.out).trans ho6)
      have HJX := Lib.hid hJx6
      have hrest : ∃ rest, Rn.allO m = (xs ++ [((o, g4, c4) : Tn)]).map Prod.fst ++ rest := by
        obtain ⟨rest, hr⟩ := HYN.out
        exact ⟨rest, by rw [hr, List.map_append, HX.out]; simp⟩
      have HRE := Lib.hid hrest
      clear ho6 hJx6 hrest
      gi_wp2
      exact ⟨kf_mono HO6.out hb2z, rfl, _, HRE.out, HJX.out⟩
  case done =>
    rintro D M ys W' hD hS ⟨hI, _⟩ hK
    obtain ⟨xs, h1, h2, h3⟩ := hI.come
    have hK1 := hK
    have hD2 : W.heap.size ≤ D := by omega
    have hput := (hJ M).from.putObj (.deferred none) h3 hD2 hK rfl
    have HP := Lib.hid hput
    have HX : Hid (xs.map Prod.fst = Rn.allO m) := h1.trans hS
    have HK := Lib.hid hK
    clear hI h1 h2 h3 hK hK1 hput hS
    gi_wp2
    refine ⟨by simp, .inl ⟨_, _, rfl, run_takeDeferred HK.out, ?_⟩⟩
    exact ⟨_, results_none rfl _ _ _, ⟨_, rfl⟩, .inl ⟨M, xs, HX.out, HP.out⟩⟩
  case stop =>
    rintro D M c pre W' hD _ ⟨rfl, xs, hx, hj⟩ hK
    have hD2 : W.heap.size ≤ D := by omega
    have hput := (hJx M).from.putObj (.deferred none) hj hD2 hK rfl
    have HP := Lib.hid hput
    have HX := Lib.hid hx
    have HK := Lib.hid hK
    clear hx hj hK hput
    gi_wp2
    refine ⟨by simp, .inl ⟨_, _, rfl, run_takeDeferred HK.out, ?_⟩⟩
    exact ⟨_, results_none rfl _ _ _, ⟨_, rfl⟩, .inr ⟨M, xs, HX.out, HP.out⟩⟩

/-- The iterator's contract. -/
theorem renam_stops (Bt Bz m : Nat) (R : Nat → Nat → Obj → Prop) (a : Option Addr) (cap : Nat) (l : List Int) (hm : m = l.length) (hok : Ok (m : Int) l) (h6 : m ≤ 6) (w : World)
    (hbox : Box w Bt 27 (.int .i64 (m : Int)) (.slice a m cap)) (hrow : IntRow w a l) (hBt : ∀ M o, R M Bt o) (hag : ∀ M b o, blk a = some b → R M b o) (hfr : ∀ M b o, w.heap.size ≤ b → b < M → R M b o) :
    SeqM Fence.wide 7 Try.prog 137 #[.pointer (some ⟨Bt, 0, none⟩)] (encTn m) (YN l m w.heap.size) (fun M => KeepR (R M)) (fun xs => xs.map Prod.fst = Rn.allO m) (fun pre => ∃ rest, Rn.allO m = pre.map Prod.fst ++ rest) Bz w :=
  fun ly J Jx W hW hBz hJ hJx hY h0 =>
    renam1 ly Bt Bz m R a cap l hm hok h6 J Jx w.heap.size W hW.size hBz hJ hJx hY (hbox.below hW hbox.lt) (hrow.below hW (Nat.le_refl _)) hBt hag hfr h0
end Go.Proofs.Yteiadhfjpohmdaa
