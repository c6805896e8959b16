/-
  Both 'FlipGame'. No conditions but the bounds that Go gives a slice.
-/
import Derived.Test.YteiadhfjpohmdaaG
import Derived.Laws.CopyOwn
namespace Go.Proofs.Yteiadhfjpohmdaa
open Go.ChangeShapes Go.WideShapes Go.ChangeAt Go.RowKit
set_option linter.unusedVariables false

theorem Ok.nats {n : Int} {l : List Int} (h : Ok n l) : ∃ ws : List Nat, l = ws.map Int.ofNat ∧ (∀ y ∈ ws, y < 2 ^ l.length ∧ y < 256) := by
  refine ⟨l.map Int.toNat, ?_, ?_⟩
  · apply List.ext_getElem
    · simp
    · intro i h1 h2
      obtain ⟨x, hx, _⟩ := h.nat h1
      rw [List.getD_eq_getElem?_getD, List.getElem?_eq_getElem h1] at hx
      have hx' : l[i] = (x : Int) := hx
      simp [hx']
  · intro y hy
    obtain ⟨i, hi, rfl⟩ := List.getElem_of_mem hy
    have hi' : i < l.length := by simpa using hi
    obtain ⟨x, hx, h1, h2⟩ := h.nat hi'
    rw [List.getD_eq_getElem?_getD, List.getElem?_eq_getElem hi'] at hx
    have hx' : l[i] = (x : Int) := hx
    simp [hx']
    exact ⟨h1, h2⟩

/-- One bit of one number turned. -/
def flipAt (ys : List Nat) (i j : Nat) : List Nat := ys.set i (ys.getD i 0 ^^^ 2 ^ j)
theorem flipAt_len (ys : List Nat) (i j : Nat) : (flipAt ys i j).length = ys.length := by simp [flipAt]
theorem flipAt_lt (ys : List Nat) (i j : Nat) (hj : j < 8) (h : ∀ y ∈ ys, y < 256) : ∀ y ∈ flipAt ys i j, y < 256 := by
  intro y hy
  rcases List.mem_or_eq_of_mem_set hy with h1 | h1
  · exact h y h1
  · rw [h1]
    have h2 : ys.getD i 0 < 2 ^ 8 := by
      rw [List.getD_eq_getElem?_getD]
      rcases Nat.lt_or_ge i ys.length with hi | hi
      · rw [List.getElem?_eq_getElem hi]; exact h _ (List.getElem_mem _)
      · rw [List.getElem?_eq_none hi]; decide
    have h3 : 2 ^ j < 2 ^ 8 := Nat.pow_lt_pow_right (by decide) hj
    exact Nat.xor_lt_two_pow h2 h3
def flipL (l : List Int) (p q : Nat) : List Int := (flipAt (flipAt (l.map Int.toNat) p q) q p).map Int.ofNat
noncomputable def flipB (n : Int) (l : List Int) (p q : Int) : Bool := okB n l && pl n p && pl n q && !(p == q)
noncomputable def flipR (n : Int) (l : List Int) (p q : Int) : List Int := if flipB n l p q then flipL l p.toNat q.toNat else []
noncomputable def flipN (n : Int) (l : List Int) (p q : Int) : Int := if flipB n l p q then n else 0

theorem own_setRow {w : World} {B g n : Nat} {xs ys : List Value} (h : w.ownsRow B 3 1 (.slice (some ⟨g, 0, none⟩) n n) n xs) (hy : ys.length = n) : (w.setRow g ys.toArray).ownsRow B 3 1 (.slice (some ⟨g, 0, none⟩) n n) n ys := by
  rcases h.2 with ⟨h', _⟩ | ⟨g', cap', cur, h', hb, hg, hnc, hcm, hcs, htake⟩
  · simp at h'
  · simp only [Value.slice.injEq, Option.some.injEq, Addr.mk.injEq, and_true, true_and] at h'
    obtain ⟨rfl, rfl⟩ := h'
    refine ⟨by simpa using hy, .inr ⟨g, n, ys.toArray, rfl, hb, ?_, hnc, hcm, by simpa using hy, by simp [← hy]⟩⟩
    exact setRow_heap w g cur _ 3 _ hg

theorem row_heap {w : World} {B g n : Nat} {xs : List Value} (h : w.ownsRow B 3 1 (.slice (some ⟨g, 0, none⟩) n n) n xs) : w.heap[g]? = some (.cells xs.toArray 3 (0, 0)) := by
  rcases h.2 with ⟨h', _⟩ | ⟨g', cap', cur, h', hb, hg, hnc, hcm, hcs, htake⟩
  · simp at h'
  · simp only [Value.slice.injEq, Option.some.injEq, Addr.mk.injEq, and_true, true_and] at h'
    obtain ⟨rfl, rfl⟩ := h'
    rw [hg, ← htake]
    have : cur.toList.take (n * 1) = cur.toList := by rw [Nat.mul_one]; apply List.take_of_length_le; simp; omega
    rw [this]
theorem row_src {w : World} {ca : Addr} {l : List Int} (h : IntRow w (some ca) l) : ∀ j v, (l.map iv)[j]? = some v → w.cell? (ca.add j) = some v := by
  intro j v hj
  have hjl : j < l.length := by
    rcases Nat.lt_or_ge j l.length with h' | h'
    · exact h'
    · simp [List.getElem?_eq_none h'] at hj
  obtain ⟨b, off, he, _, hc⟩ := h.at hjl
  simp only [Option.some.injEq] at he
  subst he
  have e : (⟨b, off, none⟩ : Addr).add j = ⟨b, off + j, none⟩ := by
    unfold Addr.add; split <;> simp_all
  rw [e, hc]
  simp [List.getElem?_eq_getElem hjl] at hj
  rw [List.getD_eq_getElem?_getD, List.getElem?_eq_getElem hjl, ← hj]
  rfl
/-- 'copy' of a whole row into one of the call's own that is as long. -/
theorem wpList_copy_all {w : World} {ops : Array Oper} {rest : List Oper} {o : Oper} {a : Act} {Q : Exit → Act → World → Prop} (hgd : o.guard = none) (d s : Operand)
    (ho : o.op = .call { callee := .builtin .copy, args := #[d, s], argTypes := #[22, 22] }) (B g n cap : Nat) (ad : Addr) (xs ys : List Value)
    (hd : a.eval d = .slice (some ⟨g, 0, none⟩) n n) (hs : a.eval s = .slice (some ad) n cap) (hown : w.ownsRow B 3 1 (.slice (some ⟨g, 0, none⟩) n n) n xs) (hy : ys.length = n)
    (hsrc : ∀ j v, ys[j]? = some v → w.cell? (ad.add j) = some v) (h1 : ∀ v ∈ ys, v.oneCell' = true)
    (h : ∀ w', w'.ownsRow B 3 1 (.slice (some ⟨g, 0, none⟩) n n) n ys → w.grownBy w' (some g) → Below B w w' → wpList Try.prog ops Q rest (a.put o.dst (goInt n)) w') : wpList Try.prog ops Q (o :: rest) a w := by
  have hg := row_heap hown
  have hx : xs.length = n := by simpa using hown.1
  refine wpList_copy_own hgd d s 22 22 ho 3 Try.underlying22 (by kernel_rfl) g 0 n n ad n cap hd hs xs.toArray 3 hg ys (by rw [hy]; exact (Nat.min_self n).symm) hsrc (by simp; omega) h1 ?_
  have e : (xs.toArray.toList.take 0 ++ (ys ++ xs.toArray.toList.drop (0 + ys.length))).toArray = ys.toArray := by
    rw [show xs.toArray.toList.drop (0 + ys.length) = [] from List.drop_eq_nil_of_le (by simp; omega)]; simp
  rw [e, hy]
  exact h _ (own_setRow hown hy) ⟨rfl, rfl, rfl, by simp [World.setRow], fun k _ hk => setRow_other w g k _ (fun e => hk (by rw [e]))⟩
    (below_setRow (Below.refl B w) (hown.lt g rfl).1 _)
/-- A row's cell that is met by '^='. -/
theorem flip_at {w : World} {B g m cap i j : Nat} {ys : List Nat} (hm : m ≤ 64) (hi : i < m) (hj : j < 8) (hy : ∀ y ∈ ys, y < 256)
    (hown : w.ownsRow B 3 1 (.slice (some ⟨g, 0, none⟩) m cap) m (ys.map nv)) :
    ∃ x z : Int, w.cell? ⟨g, i, none⟩ = some (.int .i64 x) ∧ w.frozen? ⟨g, i, none⟩ = false ∧ bits .xor .i64 x (wrap64 (2 ^ j)) = z ∧
      (w.setCell ⟨g, i, none⟩ (.int .i64 z)).ownsRow B 3 1 (.slice (some ⟨g, 0, none⟩) m cap) m ((flipAt ys i j).map nv) := by
  have hlen : ys.length = m := by simpa using hown.1
  have hy256 : ys.getD i 0 < 256 := by rw [List.getD_eq_getElem?_getD, List.getElem?_eq_getElem (by omega)]; exact hy _ (List.getElem_mem _)
  have hc := hown.cellAt i (by omega)
  rw [List.getElem?_map, show ys[i]? = some (ys.getD i 0) by rw [List.getD_eq_getElem?_getD, List.getElem?_eq_getElem (by omega)]; rfl] at hc
  have hp8 := pow_le j (by omega)
  refine ⟨(ys.getD i 0 : Nat), ((ys.getD i 0 ^^^ 2 ^ j : Nat) : Int), hc, hown.frozenAt i, ?_, ?_⟩
  · rw [wrapPow j (by omega)]; exact i64_xor _ _ (by omega) (by omega)
  · have := (hown.stored i (nv (ys.getD i 0 ^^^ 2 ^ j))).1
    rw [← List.map_set] at this
    exact this
theorem flip_tail (ws : List Nat) (l : List Int) (h : l = ws.map Int.ofNat) (i j : Nat) : ((flipAt (flipAt ws i j) j i).map nv) = (flipL l i j).map iv ∧ (flipL l i j).length = l.length := by
  subst h
  constructor
  · have e : (ws.map Int.ofNat).map Int.toNat = ws := by simp [List.map_map, Function.comp_def]
    unfold flipL; rw [nv_iv, e]
  · simp [flipL, flipAt_len]

set_option maxHeartbeats 1000000 in
theorem implFlip (n : Int) (a : Option Addr) (l : List Int) (cap : Nat) (p q : Int) (w : World) (hrow : IntRow w a l) (hl : l.length ≤ maxLen) :
    Calls Try.prog 66 #[.agg #[.int .i64 n, .slice a l.length cap], .int .i64 p, .int .i64 q] w fun e w' => (∃ a0 c0, e = .returned (.tuple #[.agg #[.int .i64 (flipN n l p q), .slice a0 (flipR n l p q).length c0], .bool (flipB n l p q)]) ∧ w'.ownsRow w.heap.size 3 1 (.slice a0 (flipR n l p q).length c0) (flipR n l p q).length ((flipR n l p q).map iv)) ∧ Below w.heap.size w w' := by
  obtain ⟨Wb, hWb⟩ : ∃ Wb, Wb = w.alloc (.cells #[.int .i64 n, .slice a l.length cap] 27) := ⟨_, rfl⟩
  obtain ⟨Wa, hWa⟩ : ∃ Wa, Wa = Wb.alloc (.cells #[.int .i64 0, .slice none 0 0] 27) := ⟨_, rfl⟩
  have sb : Wb.heap.size = w.heap.size + 1 := by rw [hWb]; simp
  have sa : Wa.heap.size = w.heap.size + 1 + 1 := by rw [hWa]; simp [sb]
  have hbb : Below w.heap.size w Wb := by rw [hWb]; exact (Below.refl _ _).alloc (Nat.le_refl _) _
  have hba : Below w.heap.size w Wa := by rw [hWa]; exact hbb.alloc hbb.size _
  have xt : Box Wa w.heap.size 27 (.int .i64 n) (.slice a l.length cap) := by
    rw [hWa]; exact (show Box Wb w.heap.size 27 (.int .i64 n) (.slice a l.length cap) by rw [hWb]; exact Box.new _ _ _ _).below ((Below.refl Wb.heap.size Wb).alloc (Nat.le_refl _) _) (by omega)
  have xr : Box Wa (w.heap.size + 1) 27 (.int .i64 0) (.slice none 0 0) := by rw [hWa, ← sb]; exact Box.new _ _ _ _
  have HWa : Hid (Wa = (w.alloc (.cells #[.int .i64 n, .slice a l.length cap] 27)).alloc (.cells #[.int .i64 0, .slice none 0 0] 27)) := by rw [hWa, hWb]; exact rfl
  have hrowa : IntRow Wa a l := hrow.below hba (Nat.le_refl _)
  have HL := Lib.hid hl
  clear hl hrow hWa hWb hbb
  cases hok : okB n l
  · have HO := Lib.hid hok
    have HE : Hid (flipB n l p q = false) := by show _ = _; unfold flipB; rw [hok]; rfl
    clear hok
    go_enter Try.func66, Try.ntmps66
    go_wp2_with fail
    rw [← HWa.out]
    refine (implTourOk n a l cap Wa hrowa HL.out).mono ?_
    rintro e w1 ⟨rfl, hb1⟩
    rw [HO.out]
    have B1 := hba.trans (hb1.mono hba.size)
    have xr1 := xr.below hb1 xr.lt
    have xt1 := xt.below hb1 xt.lt
    have hrow1 := hrowa.below hb1 (Nat.le_refl _)
    clear xr xt hrowa
    have c0 := xr1.c0
    have c1 := xr1.c1
    have f0 := xr1.f0
    have f1 := xr1.f1
    have X := Lib.hid xr1
    have BB := Lib.hid (B1)
    clear xr1
    go_wp2
    refine bodyPost_ret (v := .tuple #[.agg #[.int .i64 0, .slice none 0 0], .bool false]) (Box.res2 rfl _ rfl rfl ((X.out.set0 _).set1 _)) rfl ?_
    refine ⟨⟨none, 0, ?_, ?_⟩, ?_⟩
    · unfold flipN flipR; rw [HE.out]; rfl
    · unfold flipR; rw [HE.out]; exact World.ownsRow_nil _ _ _ _
    · exact (BB.out.setCell (p := ⟨w.heap.size + 1, 0, none⟩) (Nat.le_succ _) _).setCell (p := ⟨w.heap.size + 1, 1, none⟩) (Nat.le_succ _) _
  have HO := Lib.hid hok
  have HK : Hid (Ok n l) := okB_iff.1 hok
  cases hp : pl n p
  · have HP := Lib.hid hp
    have HE : Hid (flipB n l p q = false) := by show _ = _; unfold flipB; rw [hp]; simp
    clear hok hp
    go_enter Try.func66, Try.ntmps66
    go_wp2_with fail
    rw [← HWa.out]
    refine (implTourOk n a l cap Wa hrowa HL.out).mono ?_
    rintro e w1 ⟨rfl, hb1⟩
    rw [HO.out]
    have B1 := hba.trans (hb1.mono hba.size)
    have xr1 := xr.below hb1 xr.lt
    have xt1 := xt.below hb1 xt.lt
    have hrow1 := hrowa.below hb1 (Nat.le_refl _)
    clear xr xt hrowa
    have c0 := xt1.c0
    have c1 := xt1.c1
    go_wp2_with fail
    refine (hasPlayer_pl n a _ cap p w1).mono ?_
    rintro e w2 ⟨rfl, hb2⟩
    rw [HP.out]
    have B2 := B1.trans (hb2.mono B1.size)
    have xr2 := xr1.below hb2 xr1.lt
    have xt2 := xt1.below hb2 xt1.lt
    have hrow2 := hrow1.below hb2 (Nat.le_refl _)
    clear xr1 xt1 hrow1 c0 c1
    have c0 := xr2.c0
    have c1 := xr2.c1
    have f0 := xr2.f0
    have f1 := xr2.f1
    have X := Lib.hid xr2
    have BB := Lib.hid (B2)
    clear xr2
    go_wp2
    refine bodyPost_ret (v := .tuple #[.agg #[.int .i64 0, .slice none 0 0], .bool false]) (Box.res2 rfl _ rfl rfl ((X.out.set0 _).set1 _)) rfl ?_
    refine ⟨⟨none, 0, ?_, ?_⟩, ?_⟩
    · unfold flipN flipR; rw [HE.out]; rfl
    · unfold flipR; rw [HE.out]; exact World.ownsRow_nil _ _ _ _
    · exact (BB.out.setCell (p := ⟨w.heap.size + 1, 0, none⟩) (Nat.le_succ _) _).setCell (p := ⟨w.heap.size + 1, 1, none⟩) (Nat.le_succ _) _
  have HP := Lib.hid hp
  cases hq : pl n q
  · have HQ := Lib.hid hq
    have HE : Hid (flipB n l p q = false) := by show _ = _; unfold flipB; rw [hq]; simp
    clear hok hp hq
    go_enter Try.func66, Try.ntmps66
    go_wp2_with fail
    rw [← HWa.out]
    refine (implTourOk n a l cap Wa hrowa HL.out).mono ?_
    rintro e w1 ⟨rfl, hb1⟩
    rw [HO.out]
    have B1 := hba.trans (hb1.mono hba.size)
    have xr1 := xr.below hb1 xr.lt
    have xt1 := xt.below hb1 xt.lt
    have hrow1 := hrowa.below hb1 (Nat.le_refl _)
    clear xr xt hrowa
    have c0 := xt1.c0
    have c1 := xt1.c1
    go_wp2_with fail
    refine (hasPlayer_pl n a _ cap p w1).mono ?_
    rintro e w2 ⟨rfl, hb2⟩
    rw [HP.out]
    have B2 := B1.trans (hb2.mono B1.size)
    have xr2 := xr1.below hb2 xr1.lt
    have xt2 := xt1.below hb2 xt1.lt
    have hrow2 := hrow1.below hb2 (Nat.le_refl _)
    clear xr1 xt1 hrow1 c0 c1
    have c0 := xt2.c0
    have c1 := xt2.c1
    go_wp2_with fail
    refine (hasPlayer_pl n a _ cap q w2).mono ?_
    rintro e w3 ⟨rfl, hb3⟩
    rw [HQ.out]
    have B3 := B2.trans (hb3.mono B2.size)
    have xr3 := xr2.below hb3 xr2.lt
    have xt3 := xt2.below hb3 xt2.lt
    have hrow3 := hrow2.below hb3 (Nat.le_refl _)
    clear xr2 xt2 hrow2 c0 c1
    have c0 := xr3.c0
    have c1 := xr3.c1
    have f0 := xr3.f0
    have f1 := xr3.f1
    have X := Lib.hid xr3
    have BB := Lib.hid (B3)
    clear xr3
    go_wp2
    refine bodyPost_ret (v := .tuple #[.agg #[.int .i64 0, .slice none 0 0], .bool false]) (Box.res2 rfl _ rfl rfl ((X.out.set0 _).set1 _)) rfl ?_
    refine ⟨⟨none, 0, ?_, ?_⟩, ?_⟩
    · unfold flipN flipR; rw [HE.out]; rfl
    · unfold flipR; rw [HE.out]; exact World.ownsRow_nil _ _ _ _
    · exact (BB.out.setCell (p := ⟨w.heap.size + 1, 0, none⟩) (Nat.le_succ _) _).setCell (p := ⟨w.heap.size + 1, 1, none⟩) (Nat.le_succ _) _
  have HQ := Lib.hid hq
  cases hpq : (p == q)
  case true =>
    have HE : Hid (flipB n l p q = false) := by show _ = _; unfold flipB; rw [hpq]; simp
    clear hok hp hq
    go_enter Try.func66, Try.ntmps66
    go_wp2_with fail
    rw [← HWa.out]
    refine (implTourOk n a l cap Wa hrowa HL.out).mono ?_
    rintro e w1 ⟨rfl, hb1⟩
    rw [HO.out]
    have B1 := hba.trans (hb1.mono hba.size)
    have xr1 := xr.below hb1 xr.lt
    have xt1 := xt.below hb1 xt.lt
    have hrow1 := hrowa.below hb1 (Nat.le_refl _)
    clear xr xt hrowa
    have c0 := xt1.c0
    have c1 := xt1.c1
    go_wp2_with fail
    refine (hasPlayer_pl n a _ cap p w1).mono ?_
    rintro e w2 ⟨rfl, hb2⟩
    rw [HP.out]
    have B2 := B1.trans (hb2.mono B1.size)
    have xr2 := xr1.below hb2 xr1.lt
    have xt2 := xt1.below hb2 xt1.lt
    have hrow2 := hrow1.below hb2 (Nat.le_refl _)
    clear xr1 xt1 hrow1 c0 c1
    have c0 := xt2.c0
    have c1 := xt2.c1
    go_wp2_with fail
    refine (hasPlayer_pl n a _ cap q w2).mono ?_
    rintro e w3 ⟨rfl, hb3⟩
    rw [HQ.out]
    have B3 := B2.trans (hb3.mono B2.size)
    have xr3 := xr2.below hb3 xr2.lt
    have xt3 := xt2.below hb3 xt2.lt
    have hrow3 := hrow2.below hb3 (Nat.le_refl _)
    clear xr2 xt2 hrow2 c0 c1
    have c0 := xr3.c0
    have c1 := xr3.c1
    have f0 := xr3.f0
    have f1 := xr3.f1
    have X := Lib.hid xr3
    have BB := Lib.hid (B3)
    clear xr3
    go_wp2
    refine bodyPost_ret (v := .tuple #[.agg #[.int .i64 0, .slice none 0 0], .bool false]) (Box.res2 rfl _ rfl rfl ((X.out.set0 _).set1 _)) rfl ?_
    refine ⟨⟨none, 0, ?_, ?_⟩, ?_⟩
    · unfold flipN flipR; rw [HE.out]; rfl
    · unfold flipR; rw [HE.out]; exact World.ownsRow_nil _ _ _ _
    · exact (BB.out.setCell (p := ⟨w.heap.size + 1, 0, none⟩) (Nat.le_succ _) _).setCell (p := ⟨w.heap.size + 1, 1, none⟩) (Nat.le_succ _) _
  case false =>
    have HE : Hid (flipB n l p q = true) := by show _ = _; unfold flipB; rw [hok, hp, hq, hpq]; rfl
    have hp2 := pl_iff.1 hp
    have hq2 := pl_iff.1 hq
    obtain ⟨i, rfl⟩ : ∃ i : Nat, p = i := ⟨p.toNat, by omega⟩
    obtain ⟨j, rfl⟩ : ∃ j : Nat, q = j := ⟨q.toNat, by omega⟩
    have hnl := HK.out.2.2.1
    have hn8 := HK.out.2.1
    obtain ⟨ws, hws, hlt⟩ := HK.out.nats
    have hlw : ws.length = l.length := by rw [hws]; simp
    subst hnl
    have hil : i < l.length := by omega
    have hjl : j < l.length := by omega
    have hl8 : l.length ≤ 8 := by omega
    have HWS := Lib.hid hws
    have HLT := Lib.hid hlt
    clear hok hp hq hp2 hq2 hws hlt
    go_enter Try.func66, Try.ntmps66
    go_wp2_with fail
    rw [← HWa.out]
    refine (implTourOk _ a l cap Wa hrowa HL.out).mono ?_
    rintro e w1 ⟨rfl, hb1⟩
    rw [HO.out]
    have B1 := hba.trans (hb1.mono hba.size)
    have xr1 := xr.below hb1 xr.lt
    have xt1 := xt.below hb1 xt.lt
    have hrow1 := hrowa.below hb1 (Nat.le_refl _)
    clear xr xt hrowa
    have c0 := xt1.c0
    have c1 := xt1.c1
    go_wp2_with fail
    refine (hasPlayer_pl _ a _ cap i w1).mono ?_
    rintro e w2 ⟨rfl, hb2⟩
    rw [HP.out]
    have B2 := B1.trans (hb2.mono B1.size)
    have xr2 := xr1.below hb2 xr1.lt
    have xt2 := xt1.below hb2 xt1.lt
    have hrow2 := hrow1.below hb2 (Nat.le_refl _)
    clear xr1 xt1 hrow1 c0 c1
    have c0 := xt2.c0
    have c1 := xt2.c1
    go_wp2_with fail
    refine (hasPlayer_pl _ a _ cap j w2).mono ?_
    rintro e w3 ⟨rfl, hb3⟩
    rw [HQ.out]
    have B3 := B2.trans (hb3.mono B2.size)
    have xr3 := xr2.below hb3 xr2.lt
    have xt3 := xt2.below hb3 xt2.lt
    have hrow3 := hrow2.below hb3 (Nat.le_refl _)
    clear xr2 xt2 hrow2 c0 c1
    have c0 := xt3.c0
    have c1 := xt3.c1
    go_wp2_with fail
    refine (newTour_any l.length w3 (by omega)).mono ?_
    rintro e w4 ⟨⟨g, rfl, ho4⟩, hb4⟩
    have B4 := B3.trans (hb4.mono B3.size)
    have xr4 := xr3.below hb4 xr3.lt
    have xt4 := xt3.below hb4 xt3.lt
    have hrow4 := hrow3.below hb4 (Nat.le_refl _)
    obtain ⟨W4, hW4⟩ : ∃ W4, W4 = w4.alloc (.cells #[.int .i64 l.length, .slice (some ⟨g, 0, none⟩) l.length l.length] 27) := ⟨_, rfl⟩
    have HW4 := Lib.hid hW4
    have hbW4 : Below w4.heap.size w4 W4 := by rw [hW4]; exact (Below.refl _ _).alloc (Nat.le_refl _) _
    have xf : Box W4 w4.heap.size 27 (.int .i64 l.length) (.slice (some ⟨g, 0, none⟩) l.length l.length) := by rw [hW4]; exact Box.new _ _ _ _
    have xr5 := xr4.below hbW4 xr4.lt
    have xt5 := xt4.below hbW4 xt4.lt
    have hrow5 := hrow4.below hbW4 (Nat.le_refl _)
    have ho5 := own_below ho4 hbW4
    have B5 := B4.trans (hbW4.mono B4.size)
    have hgl := (ho4.lt g rfl)
    clear c0 c1
    have c0 := xt5.c0
    have c1 := xt5.c1
    rw [HW4.out] at c0 c1
    clear hW4
    obtain ⟨ca, rfl⟩ : ∃ ca, a = some ca := by
      rcases hrow5 with h | ⟨b, off, h, _⟩
      · exfalso; rw [h] at hil; simp at hil
      · exact ⟨_, h⟩
    have ho6 := ho5
    have hsrc := row_src hrow5
    rw [HW4.out] at ho6 hsrc
    have HO6 := Lib.hid ho6
    have HSR := Lib.hid hsrc
    clear ho6 hsrc ho4 ho5
    go_wp2_with (refine wpList_copy_all rfl _ _ rfl w3.heap.size g l.length cap ca _ (l.map iv) rfl rfl HO6.out (by simp) HSR.out (by intro v hv; obtain ⟨x, _, rfl⟩ := List.mem_map.1 hv; rfl) ?_)
    rw [← HW4.out]
    intro w6 ho6 hg6 hb6
    have B6 := B5.trans (hb6.mono B3.size)
    have xf6 := xf.grown hg6 (by have := hgl.2; intro e; simp at e; omega)
    have xr6 := xr5.grown hg6 (by have := hgl.1; have := B3.size; have := xr3.lt; intro e; simp at e; omega)
    rw [HWS.out, ← nv_iv] at ho6
    have hlt6 : ∀ y ∈ ws, y < 256 := fun y hy => (HLT.out y hy).2
    obtain ⟨x1, z1, hx1, hf1, hz1, ho7⟩ := flip_at (by omega) hil (show j < 8 by omega) hlt6 (show w6.ownsRow w3.heap.size 3 1 (.slice (some ⟨g, 0, none⟩) l.length l.length) l.length (ws.map nv) from by rw [← hlw]; simpa [hlw] using ho6)
    have d0 := xf6.c0
    have d1 := xf6.c1
    have XF := Lib.hid xf6
    have XR := Lib.hid xr6
    have H6 := Lib.hid ho6
    have H7 := Lib.hid ho7
    have hil2 : (i : Int) < (l.length : Int) := by omega
    have hjl2 : (j : Int) < (l.length : Int) := by omega
    have hgx : Hid (g ≠ w4.heap.size) := by have := hgl.2; show g ≠ _; omega
    have hgr : Hid (g ≠ w.heap.size + 1) := by have := hgl.1; have := B3.size; have := xr3.lt; show g ≠ _; omega
    have BB6 := Lib.hid B6
    have hw3 : Hid (w.heap.size ≤ w3.heap.size) := B3.size
    have hgB : Hid (w3.heap.size ≤ g) := hgl.1
    have HB3 : Hid (w.heap.size + 1 < w3.heap.size) := xr3.lt
    clear ho6 ho7 xf6 xr6 c0 c1 hg6 hb6 B6 xt3 xt4 xt5 xr3 xr4 xr5 hrow3 hrow4 hrow5 hb1 hb2 hb3 hb4 hbW4 B1 B2 B3 B4 B5 hgl xf hlt6
    go_wp2
    go_region
    all_goals
      obtain ⟨w7, hw7⟩ : ∃ w7, w7 = (w6.setCell ⟨g, i, none⟩ (.int .i64 z1)).drew := ⟨_, rfl⟩
      rw [← hw7]
      have ho7 : w7.ownsRow w3.heap.size 3 1 (.slice (some ⟨g, 0, none⟩) l.length l.length) l.length ((flipAt ws i j).map nv) := by rw [hw7]; exact H7.out.drew
      have xf7 : Box w7 w4.heap.size 27 (.int .i64 l.length) (.slice (some ⟨g, 0, none⟩) l.length l.length) := by rw [hw7]; exact XF.out.other ⟨g, i, none⟩ _ (fun e => hgx.out e.symm)
      have xr7 : Box w7 (w.heap.size + 1) 27 (.int .i64 0) (.slice none 0 0) := by rw [hw7]; exact XR.out.other ⟨g, i, none⟩ _ (fun e => hgr.out e.symm)
      have B7 : Below w.heap.size w w7 := by rw [hw7]; exact (BB6.out.setCell (p := ⟨g, i, none⟩) (Nat.le_trans hw3.out hgB.out) _).drew
      obtain ⟨x2, z2, hx2, hf2, hz2, ho8⟩ := flip_at (by omega) hjl (show i < 8 by omega) (flipAt_lt ws i j (by omega) (fun y hy => (HLT.out y hy).2)) ho7
      have H8 := Lib.hid ho8
      have XF7 := Lib.hid xf7
      have XR7 := Lib.hid xr7
      have BB7 := Lib.hid B7
      clear hw7 d0 d1 hx1 hf1 ho7 ho8
      have d0 := xf7.c0
      have d1 := xf7.c1
      clear xf7 xr7 B7
      go_wp2
      go_region
      all_goals
        obtain ⟨w8, hw8⟩ : ∃ w8, w8 = (w7.setCell ⟨g, j, none⟩ (.int .i64 z2)).drew := ⟨_, rfl⟩
        rw [← hw8]
        have ho8 : w8.ownsRow w3.heap.size 3 1 (.slice (some ⟨g, 0, none⟩) l.length l.length) l.length ((flipAt (flipAt ws i j) j i).map nv) := by rw [hw8]; exact H8.out.drew
        have xf8 : Box w8 w4.heap.size 27 (.int .i64 l.length) (.slice (some ⟨g, 0, none⟩) l.length l.length) := by rw [hw8]; exact XF7.out.other ⟨g, j, none⟩ _ (fun e => hgx.out e.symm)
        have xr8 : Box w8 (w.heap.size + 1) 27 (.int .i64 0) (.slice none 0 0) := by rw [hw8]; exact XR7.out.other ⟨g, j, none⟩ _ (fun e => hgr.out e.symm)
        have B8 : Below w.heap.size w w8 := by rw [hw8]; exact (BB7.out.setCell (p := ⟨g, j, none⟩) (Nat.le_trans hw3.out hgB.out) _).drew
        have H9 := Lib.hid ho8
        have XR8 := Lib.hid xr8
        have BB8 := Lib.hid B8
        clear hw8 d0 d1 hx2 hf2 ho8
        have d0 := xf8.c0
        have d1 := xf8.c1
        have e0 := xr8.c0
        have e1 := xr8.c1
        have e2 := xr8.f0
        have e3 := xr8.f1
        clear xf8 xr8 B8
        go_wp2
        obtain ⟨ht1, ht2⟩ := flip_tail ws l HWS.out i j
        refine bodyPost_ret (v := .tuple #[.agg #[.int .i64 l.length, .slice (some ⟨g, 0, none⟩) l.length l.length], .bool true]) (Box.res2 rfl _ rfl rfl ((XR8.out.set0 _).set1 _)) rfl ?_
        refine ⟨⟨some ⟨g, 0, none⟩, l.length, ?_, ?_⟩, ?_⟩
        · have hn : flipN l.length l i j = l.length := by unfold flipN; rw [HE.out]; rfl
          have hr : flipR l.length l i j = flipL l i j := by unfold flipR; rw [HE.out]; rfl
          rw [hn, hr, ht2, HE.out]
        · have hr : flipR l.length l i j = flipL l i j := by unfold flipR; rw [HE.out]; rfl
          rw [hr, ht2, ← ht1]
          exact (own_set (own_set H9.out ⟨w.heap.size + 1, 0, none⟩ _ (by have := XR8.out.lt; have := hgB.out; have := hgr.out; have := HB3.out; show w.heap.size + 1 < _; omega)) ⟨w.heap.size + 1, 1, none⟩ _ (by have := HB3.out; show w.heap.size + 1 < _; omega)).mono hw3.out
        · exact (BB8.out.setCell (p := ⟨w.heap.size + 1, 0, none⟩) (Nat.le_succ _) _).setCell (p := ⟨w.heap.size + 1, 1, none⟩) (Nat.le_succ _) _
end Go.Proofs.Yteiadhfjpohmdaa
