/-
  'SquareTour' of the program and of the model. No conditions.
-/
import Derived.Test.YteiadhfjpohmdaaXg
import Derived.Test.YteiadhfjpohmdaaK
namespace Go.Proofs.Yteiadhfjpohmdaa
open Go.ChangeShapes Go.WideShapes Go.ChangeAt Go.RowKit
set_option linter.unusedVariables false

/-- The remainders of squares below a number, as a set. -/
def sqs (p : Nat) : Nat → Nat
  | 0 => 0
  | k + 1 => if k = 0 then 0 else sqs p k ||| 2 ^ (k * k % p)
def isSq (p : Int) : Bool := p == 3 || p == 7
def sqL (p : Int) : List Int := if p == 3 then [1] else [1, 2, 4]
def sqR (p : Int) : List Int := if isSq p then rtR p (sqL p) else []
def sqN (p : Int) : Int := if isSq p then p else 0
theorem sqR_le (p : Int) : (sqR p).length ≤ 8 := by
  unfold sqR
  split
  · exact rtR_le _ _
  · simp
theorem con3 : Ct.conB 3 [1] = true := by decide +kernel
theorem con7 : Ct.conB 7 [1, 2, 4] = true := by decide +kernel
theorem sq_is {p : Int} (h : p = 3 ∨ p = 7) : isSq p = true ∧ Ct.conB p (sqL p) = true ∧ sqR p = rtR p (sqL p) ∧ sqN p = p ∧ rtN p (sqL p) = p := by
  rcases h with rfl | rfl
  · exact ⟨rfl, con3, rfl, rfl, by unfold rtN; rw [show sqL 3 = [1] from rfl, con3]; rfl⟩
  · exact ⟨rfl, con7, rfl, rfl, by unfold rtN; rw [show sqL 7 = [1, 2, 4] from rfl, con7]; rfl⟩

/-- What either gives for a number. -/
def SqP (p : Int) (w : World) (e : Ending) (w' : World) : Prop := (∃ a0 c0, e = .returned (.tuple #[.agg #[.int .i64 (sqN p), .slice a0 (sqR p).length c0], .bool (isSq p)]) ∧ w'.ownsRow w.heap.size 3 1 (.slice a0 (sqR p).length c0) (sqR p).length ((sqR p).map iv)) ∧ Below w.heap.size w w'
theorem lit_row (w : World) (L : List Int) : IntRow (w.alloc (.cells (L.map iv).toArray 3)) (some ⟨w.heap.size, 0, none⟩) L := by
  refine .inr ⟨w.heap.size, 0, rfl, by simp, fun j hj => ?_⟩
  rw [cell_of_row _ _ _ _ _ _ (World.alloc_heap_new w (.cells (L.map iv).toArray 3))]
  rw [List.getElem?_toArray, List.getElem?_map, Nat.zero_add, List.getElem?_eq_getElem hj, List.getD_eq_getElem?_getD, List.getElem?_eq_getElem hj]
  rfl

theorem sq_no {p : Int} {w w1 : World} (HE : isSq p = false) (hb : Below w.heap.size w w1) : SqP p w (.returned (.tuple #[.agg #[.int .i64 0, .slice none 0 0], .bool false])) w1 := by
  refine ⟨⟨none, 0, ?_, ?_⟩, hb⟩
  · unfold sqN sqR; rw [HE]; rfl
  · unfold sqR; rw [HE]; exact World.ownsRow_nil _ _ _ _
theorem sq_yes {p : Int} {w w1 : World} {a0 : Option Addr} {c0 B : Nat} (h : p = 3 ∨ p = 7) (ho : w1.ownsRow B 3 1 (.slice a0 (rtR p (sqL p)).length c0) (rtR p (sqL p)).length ((rtR p (sqL p)).map iv)) (hB : w.heap.size ≤ B) (hb : Below w.heap.size w w1) :
    SqP p w (.returned (.tuple #[.agg #[.int .i64 (rtN p (sqL p)), .slice a0 (rtR p (sqL p)).length c0], .bool true])) w1 := by
  obtain ⟨h1, h2, h3, h4, h5⟩ := sq_is h
  unfold SqP
  rw [h1, h3, h4, h5]
  exact ⟨⟨a0, c0, rfl, ho.mono hB⟩, hb⟩

set_option maxRecDepth 100000 in
set_option maxHeartbeats 2000000 in
theorem specSquareTour (p : Int) (w : World) : Calls Try.prog 24 #[.int .i64 p] w (SqP p w) := by
  obtain ⟨Wa, hWa⟩ : ∃ Wa, Wa = w.alloc (.cells #[.int .i64 0, .slice none 0 0] 27) := ⟨_, rfl⟩
  have hba : Below w.heap.size w Wa := by rw [hWa]; exact (Below.refl _ _).alloc (Nat.le_refl _) _
  have xa : Box Wa w.heap.size 27 (.int .i64 0) (.slice none 0 0) := by rw [hWa]; exact Box.new _ _ _ _
  have sa : Wa.heap.size = w.heap.size + 1 := by rw [hWa]; simp
  have HWa := Lib.hid hWa
  clear hWa
  by_cases h3 : p = 3
  · obtain ⟨Wb, hWb⟩ : ∃ Wb, Wb = Wa.alloc (.cells #[.int .i64 1] 3) := ⟨_, rfl⟩
    have hbb : Below Wa.heap.size Wa Wb := by rw [hWb]; exact (Below.refl _ _).alloc (Nat.le_refl _) _
    have HWb := Lib.hid hWb
    have hrow : IntRow Wb (some ⟨w.heap.size + 1, 0, none⟩) [1] := by rw [hWb, ← sa]; exact lit_row Wa [1]
    have HP : Hid (p = 3 ∨ p = 7) := .inl h3
    have HC : Hid (Calls Try.prog 18 #[.int .i64 3, .slice (some ⟨w.heap.size + 1, 0, none⟩) 1 1] Wb fun e w' => (∃ a0 c0, e = .returned (.tuple #[.agg #[.int .i64 (rtN p (sqL p)), .slice a0 (rtR p (sqL p)).length c0], .bool true]) ∧ w'.ownsRow Wb.heap.size 3 1 (.slice a0 (rtR p (sqL p)).length c0) (rtR p (sqL p)).length ((rtR p (sqL p)).map iv)) ∧ Below Wb.heap.size Wb w') := by
      have := specRotationalTour 3 (some ⟨w.heap.size + 1, 0, none⟩) [1] 1 Wb hrow (by unfold maxLen; decide)
      rw [con3] at this
      rw [h3]; exact this
    have xb := xa.below hbb xa.lt
    have Bb := hba.trans (hbb.mono hba.size)
    clear hWb hbb hrow sa xa hba
    subst h3
    go_enter Try.func24, Try.ntmps24
    go_wp2_with fail
    rw [← HWa.out, ← HWb.out]
    refine HC.out.mono ?_
    rintro e w1 ⟨⟨a0, c0', rfl, ho⟩, hb1⟩
    have x1 := xb.below hb1 xb.lt
    have B1 := Bb.trans (hb1.mono Bb.size)
    have f0 := x1.f0
    have f1 := x1.f1
    have c0 := x1.c0
    have c1 := x1.c1
    have X := Lib.hid x1
    have XB := Lib.hid xb
    have HO := Lib.hid ho
    have HB := Lib.hid B1
    have HBb := Lib.hid Bb
    clear x1 xb ho B1 Bb hb1
    go_wp2
    refine bodyPost_ret (v := .tuple #[.agg #[.int .i64 (rtN 3 (sqL 3)), .slice a0 (rtR 3 (sqL 3)).length c0'], .bool true]) (Box.res2 rfl _ rfl rfl ((X.out.set0 _).set1 _)) rfl ?_
    have hlt := XB.out.lt
    exact sq_yes (.inl rfl) (own_set (own_set HO.out ⟨w.heap.size, 0, none⟩ _ hlt) ⟨w.heap.size, 1, none⟩ _ hlt) HBb.out.size ((HB.out.setCell (p := ⟨w.heap.size, 0, none⟩) (Nat.le_refl _) _).setCell (p := ⟨w.heap.size, 1, none⟩) (Nat.le_refl _) _)
  by_cases h7 : p = 7
  · obtain ⟨Wb, hWb⟩ : ∃ Wb, Wb = Wa.alloc (.cells #[.int .i64 1, .int .i64 2, .int .i64 4] 3) := ⟨_, rfl⟩
    have hbb : Below Wa.heap.size Wa Wb := by rw [hWb]; exact (Below.refl _ _).alloc (Nat.le_refl _) _
    have HWb := Lib.hid hWb
    have hrow : IntRow Wb (some ⟨w.heap.size + 1, 0, none⟩) [1, 2, 4] := by rw [hWb, ← sa]; exact lit_row Wa [1, 2, 4]
    have HP : Hid (p = 3 ∨ p = 7) := .inr h7
    have HC : Hid (Calls Try.prog 18 #[.int .i64 7, .slice (some ⟨w.heap.size + 1, 0, none⟩) 3 3] Wb fun e w' => (∃ a0 c0, e = .returned (.tuple #[.agg #[.int .i64 (rtN p (sqL p)), .slice a0 (rtR p (sqL p)).length c0], .bool true]) ∧ w'.ownsRow Wb.heap.size 3 1 (.slice a0 (rtR p (sqL p)).length c0) (rtR p (sqL p)).length ((rtR p (sqL p)).map iv)) ∧ Below Wb.heap.size Wb w') := by
      have := specRotationalTour 7 (some ⟨w.heap.size + 1, 0, none⟩) [1, 2, 4] 3 Wb hrow (by unfold maxLen; decide)
      rw [con7] at this
      rw [h7]; exact this
    have xb := xa.below hbb xa.lt
    have Bb := hba.trans (hbb.mono hba.size)
    clear hWb hbb hrow sa xa hba h3
    subst h7
    go_enter Try.func24, Try.ntmps24
    go_wp2_with fail
    rw [← HWa.out, ← HWb.out]
    refine HC.out.mono ?_
    rintro e w1 ⟨⟨a0, c0', rfl, ho⟩, hb1⟩
    have x1 := xb.below hb1 xb.lt
    have B1 := Bb.trans (hb1.mono Bb.size)
    have f0 := x1.f0
    have f1 := x1.f1
    have c0 := x1.c0
    have c1 := x1.c1
    have X := Lib.hid x1
    have XB := Lib.hid xb
    have HO := Lib.hid ho
    have HB := Lib.hid B1
    have HBb := Lib.hid Bb
    clear x1 xb ho B1 Bb hb1
    go_wp2
    refine bodyPost_ret (v := .tuple #[.agg #[.int .i64 (rtN 7 (sqL 7)), .slice a0 (rtR 7 (sqL 7)).length c0'], .bool true]) (Box.res2 rfl _ rfl rfl ((X.out.set0 _).set1 _)) rfl ?_
    have hlt := XB.out.lt
    exact sq_yes (.inr rfl) (own_set (own_set HO.out ⟨w.heap.size, 0, none⟩ _ hlt) ⟨w.heap.size, 1, none⟩ _ hlt) HBb.out.size ((HB.out.setCell (p := ⟨w.heap.size, 0, none⟩) (Nat.le_refl _) _).setCell (p := ⟨w.heap.size, 1, none⟩) (Nat.le_refl _) _)
  have e3 : (p == 3) = false := by simpa using h3
  have e7 : (p == 7) = false := by simpa using h7
  have HE : Hid (isSq p = false) := by show _ = _; unfold isSq; rw [e3, e7]; rfl
  have X := Lib.hid xa
  have BB := Lib.hid hba
  clear h3 h7 xa hba
  go_enter Try.func24, Try.ntmps24
  go_wp2
  rw [← HWa.out]
  refine bodyPost_ret (v := .tuple #[.agg #[.int .i64 0, .slice none 0 0], .bool false]) (Box.res2 rfl _ rfl rfl X.out) rfl ?_
  exact sq_no HE.out BB.out

theorem sqs_succ (m k : Nat) (h : k ≠ 0) : sqs m (k + 1) = sqs m k ||| 2 ^ (k * k % m) := by show (if k = 0 then _ else _) = _; rw [if_neg h]
theorem sq_elems {m : Nat} (h : m = 3 ∨ m = 7) : sqs m m < 256 ∧ (elems (sqs m m)).map Int.ofNat = sqL m := by
  rcases h with rfl | rfl
  · exact ⟨by decide +kernel, by decide +kernel⟩
  · exact ⟨by decide +kernel, by decide +kernel⟩

set_option maxRecDepth 100000 in
set_option maxHeartbeats 2000000 in
theorem implSquareTour (p : Int) (w : World) : Calls Try.prog 25 #[.int .i64 p] w (SqP p w) := by
  obtain ⟨Wa, hWa⟩ : ∃ Wa, Wa = w.alloc (.cells #[.int .i64 0, .slice none 0 0] 27) := ⟨_, rfl⟩
  have hba : Below w.heap.size w Wa := by rw [hWa]; exact (Below.refl _ _).alloc (Nat.le_refl _) _
  have xa : Box Wa w.heap.size 27 (.int .i64 0) (.slice none 0 0) := by rw [hWa]; exact Box.new _ _ _ _
  have HWa := Lib.hid hWa
  clear hWa
  by_cases h37 : p = 3 ∨ p = 7
  case neg =>
    have h3 : ¬ p = 3 := fun e => h37 (.inl e)
    have h7 : ¬ p = 7 := fun e => h37 (.inr e)
    have e3 : (p == 3) = false := by simpa using h3
    have e7 : (p == 7) = false := by simpa using h7
    have b3 : (p != 3) = true := by rw [bne, e3]; rfl
    have b7 : (p != 7) = true := by rw [bne, e7]; rfl
    have HE : Hid (isSq p = false) := by show _ = _; unfold isSq; rw [e3, e7]; rfl
    have X := Lib.hid xa
    have BB := Lib.hid hba
    clear h3 h7 h37 xa hba
    go_enter Try.func25, Try.ntmps25
    go_wp2
    rw [← HWa.out]
    refine bodyPost_ret (v := .tuple #[.agg #[.int .i64 0, .slice none 0 0], .bool false]) (Box.res2 rfl _ rfl rfl X.out) rfl ?_
    exact sq_no HE.out BB.out
  obtain ⟨m, rfl⟩ : ∃ m : Nat, p = m := ⟨p.toNat, by omega⟩
  have hm37 : m = 3 ∨ m = 7 := by omega
  have hm1 : 1 ≤ m := by omega
  have hm7 : m ≤ 7 := by omega
  have HP : Hid ((m : Int) = 3 ∨ (m : Int) = 7) := h37
  obtain ⟨hsm, hse⟩ := sq_elems hm37
  have HSE := Lib.hid hse
  have HSM := Lib.hid hsm
  have HC : Hid (∀ (a : Option Addr) (c : Nat) (W : World), IntRow W a (sqL m) → Calls Try.prog 19 #[.int .i64 (m : Int), .slice a (sqL m).length c] W fun e w' => (∃ a0 c0, e = .returned (.tuple #[.agg #[.int .i64 (rtN m (sqL m)), .slice a0 (rtR m (sqL m)).length c0], .bool true]) ∧ w'.ownsRow W.heap.size 3 1 (.slice a0 (rtR m (sqL m)).length c0) (rtR m (sqL m)).length ((rtR m (sqL m)).map iv)) ∧ Below W.heap.size W w') := by
    intro a c W hr
    have := implRotationalTour m a (sqL m) c W hr (by unfold maxLen sqL; split <;> decide)
    rw [(sq_is h37).2.1] at this
    exact this
  have hne : ((m : Int) != 3) = false ∨ ((m : Int) != 3) = true ∧ ((m : Int) != 7) = false := by
    rcases hm37 with rfl | rfl
    · exact .inl rfl
    · exact .inr ⟨rfl, rfl⟩
  have main : ∀ (Q : Exit → Act → World → Prop), True := fun _ => trivial
  clear hsm hse main
  rcases hne with hne | ⟨hne, hne7⟩
  · clear h37 hm37
    go_enter Try.func25, Try.ntmps25
    go_wp2
    rw [← HWa.out]
    go_loopw [4, 5] (fun s i wr => ∃ k q : Nat, 1 ≤ k ∧ k ≤ m ∧ i = .int .i64 (k : Int) ∧ s = .int .i64 (q : Int) ∧ q < 256 ∧ Hid (q = sqs m k) ∧ Hid (Below Wa.heap.size Wa wr)) (fun _ i _ => m - (intOf i).toNat)
    case atStart => exact ⟨1, 0, Nat.le_refl _, hm1, rfl, rfl, by omega, rfl, Below.refl _ _⟩
    case round =>
      obtain ⟨k, q, hk1, hk, rfl, rfl, hq8, hq, hb⟩ := hrel
      by_cases hlt : k < m
      · have hki : (k : Int) < (m : Int) := by omega
        obtain ⟨s, hs⟩ : ∃ s, s = k * k := ⟨_, rfl⟩
        obtain ⟨z, hz⟩ : ∃ z, z = s % m := ⟨_, rfl⟩
        have hs49 : s ≤ 49 := by rw [hs]; exact Nat.le_trans (Nat.mul_le_mul (show k ≤ 7 by omega) (show k ≤ 7 by omega)) (by decide)
        have hzm : z < m := by rw [hz]; exact Nat.mod_lt _ (by omega)
        have hks : (k : Int) * (k : Int) = (s : Int) := by rw [hs]; exact (Int.natCast_mul k k).symm
        have hwk : wrap64 ((k : Int) * (k : Int)) = (k : Int) * (k : Int) := by rw [hks]; unfold wrap64; omega
        have hr1 : ((k : Int) * (k : Int)).tmod (m : Int) = (z : Int) := by rw [hks, hz, Int.tmod_eq_emod_of_nonneg (Int.natCast_nonneg _), Int.natCast_emod]
        have hr2 : (k : Int) * (k : Int) % (m : Int) = (z : Int) := by rw [hks, hz, Int.natCast_emod]
        have hw64 : Value.int .i64 (wrap64 (2 ^ z)) = Value.int .i64 ((2 ^ z : Nat) : Int) := by rw [wrapPow z (by omega)]
        have hw642 : Value.int .i64 (IntKind.i64.wrap (2 ^ z)) = Value.int .i64 ((2 ^ z : Nat) : Int) := by rw [wrapPow2 z (by omega)]
        have hp8 : 2 ^ z < 256 := Nat.lt_of_lt_of_le (Nat.pow_lt_pow_right (by decide) (show z < 8 by omega)) (Nat.le_refl _)
        have hnx : sqs m (k + 1) = q ||| 2 ^ z := by rw [sqs_succ m k (by omega), hz, hs, hq.out]
        obtain ⟨v, hv⟩ : ∃ v, v = 2 ^ z := ⟨_, rfl⟩
        rw [← hv] at hw64 hw642 hp8 hnx
        have hor : bits .or .i64 (q : Int) (v : Int) = ((q ||| v : Nat) : Int) := i64_or _ _ (Nat.lt_trans hq8 (by decide)) (Nat.lt_trans hp8 (by decide))
        have hqv : q ||| v < 256 := Nat.or_lt_two_pow (n := 8) hq8 hp8
        obtain ⟨y, hy⟩ : ∃ y, y = q ||| v := ⟨_, rfl⟩
        rw [← hy] at hor hqv hnx
        have hN : Hid (y = sqs m (k + 1)) := hnx.symm
        clear hks hs hz hnx hv hy hq
        go_wp2
        go_roundw
        case rel => exact ⟨k + 1, y, by omega, by omega, by go_num, rfl, hqv, hN, hb⟩
        case measure => simp [intOf]; omega
      · obtain rfl : k = m := by omega
        obtain ⟨es, hes⟩ : ∃ es, es = elems q := ⟨_, rfl⟩
        have hL : es.map Int.ofNat = sqL k := by rw [hes, hq.out]; exact HSE.out
        have hEL : es.length = (sqL k).length := by rw [← hL, List.length_map]
        have HELM : Hid (Calls Try.prog 84 #[.int .i64 (q : Int)] wr fun e w' => (∃ g c, e = .returned (.slice (some ⟨g, 0, none⟩) (sqL k).length c) ∧ IntRow w' (some ⟨g, 0, none⟩) (sqL k)) ∧ Below wr.heap.size wr w') := by
          refine (elementsOf_any q hq8 wr).mono ?_
          rintro e w' ⟨⟨g, c, he, ho⟩, hb'⟩
          rw [← hes, hEL] at he
          rw [← hes, nv_iv, hL] at ho
          refine ⟨⟨g, c, he, ?_⟩, hb'⟩
          have h9 : es.length = (sqL k).length := hEL
          rw [h9] at ho
          exact IntRow.of_own ho
        have XA : Hid (Box Wa w.heap.size 27 (.int .i64 0) (.slice none 0 0)) := xa
        have BA : Hid (Below w.heap.size w Wa) := hba
        clear hes hL hEL xa hba
        go_wp2_with fail
        refine HELM.out.mono ?_
        rintro e w2 ⟨⟨g2, c2, rfl, hr2⟩, hb2⟩
        go_wp2_with fail
        refine (HC.out _ _ w2 hr2).mono ?_
        rintro e w3 ⟨⟨a0, c0', rfl, ho⟩, hb3⟩
        have x1 := ((XA.out.below hb.out XA.out.lt).below hb2 (XA.out.below hb.out XA.out.lt).lt).below hb3 (by have := XA.out.lt; have := hb.out.size; have := hb2.size; omega)
        have B2 : Below w.heap.size w w2 := (BA.out.trans (hb.out.mono BA.out.size)).trans (hb2.mono (Nat.le_trans BA.out.size hb.out.size))
        have B3 := B2.trans (hb3.mono B2.size)
        have f0 := x1.f0
        have f1 := x1.f1
        have c0 := x1.c0
        have c1 := x1.c1
        have X := Lib.hid x1
        have HO := Lib.hid ho
        have HB := Lib.hid B3
        have HB2 := Lib.hid B2
        have hlt2 : Hid (w.heap.size < w2.heap.size) := (show _ < _ by have := XA.out.lt; have := hb.out.size; have := hb2.size; omega)
        clear x1 ho B2 B3 hb3 hb2 hr2
        go_wp2
        refine bodyPost_ret (v := .tuple #[.agg #[.int .i64 (rtN k (sqL k)), .slice a0 (rtR k (sqL k)).length c0'], .bool true]) (Box.res2 rfl _ rfl rfl ((X.out.set0 _).set1 _)) rfl ?_
        exact sq_yes HP.out (own_set (own_set HO.out ⟨w.heap.size, 0, none⟩ _ hlt2.out) ⟨w.heap.size, 1, none⟩ _ hlt2.out) HB2.out.size ((HB.out.setCell (p := ⟨w.heap.size, 0, none⟩) (Nat.le_refl _) _).setCell (p := ⟨w.heap.size, 1, none⟩) (Nat.le_refl _) _)
  · clear h37 hm37
    go_enter Try.func25, Try.ntmps25
    go_wp2
    rw [← HWa.out]
    go_loopw [4, 5] (fun s i wr => ∃ k q : Nat, 1 ≤ k ∧ k ≤ m ∧ i = .int .i64 (k : Int) ∧ s = .int .i64 (q : Int) ∧ q < 256 ∧ Hid (q = sqs m k) ∧ Hid (Below Wa.heap.size Wa wr)) (fun _ i _ => m - (intOf i).toNat)
    case atStart => exact ⟨1, 0, Nat.le_refl _, hm1, rfl, rfl, by omega, rfl, Below.refl _ _⟩
    case round =>
      obtain ⟨k, q, hk1, hk, rfl, rfl, hq8, hq, hb⟩ := hrel
      by_cases hlt : k < m
      · have hki : (k : Int) < (m : Int) := by omega
        obtain ⟨s, hs⟩ : ∃ s, s = k * k := ⟨_, rfl⟩
        obtain ⟨z, hz⟩ : ∃ z, z = s % m := ⟨_, rfl⟩
        have hs49 : s ≤ 49 := by rw [hs]; exact Nat.le_trans (Nat.mul_le_mul (show k ≤ 7 by omega) (show k ≤ 7 by omega)) (by decide)
        have hzm : z < m := by rw [hz]; exact Nat.mod_lt _ (by omega)
        have hks : (k : Int) * (k : Int) = (s : Int) := by rw [hs]; exact (Int.natCast_mul k k).symm
        have hwk : wrap64 ((k : Int) * (k : Int)) = (k : Int) * (k : Int) := by rw [hks]; unfold wrap64; omega
        have hr1 : ((k : Int) * (k : Int)).tmod (m : Int) = (z : Int) := by rw [hks, hz, Int.tmod_eq_emod_of_nonneg (Int.natCast_nonneg _), Int.natCast_emod]
        have hr2 : (k : Int) * (k : Int) % (m : Int) = (z : Int) := by rw [hks, hz, Int.natCast_emod]
        have hw64 : Value.int .i64 (wrap64 (2 ^ z)) = Value.int .i64 ((2 ^ z : Nat) : Int) := by rw [wrapPow z (by omega)]
        have hw642 : Value.int .i64 (IntKind.i64.wrap (2 ^ z)) = Value.int .i64 ((2 ^ z : Nat) : Int) := by rw [wrapPow2 z (by omega)]
        have hp8 : 2 ^ z < 256 := Nat.lt_of_lt_of_le (Nat.pow_lt_pow_right (by decide) (show z < 8 by omega)) (Nat.le_refl _)
        have hnx : sqs m (k + 1) = q ||| 2 ^ z := by rw [sqs_succ m k (by omega), hz, hs, hq.out]
        obtain ⟨v, hv⟩ : ∃ v, v = 2 ^ z := ⟨_, rfl⟩
        rw [← hv] at hw64 hw642 hp8 hnx
        have hor : bits .or .i64 (q : Int) (v : Int) = ((q ||| v : Nat) : Int) := i64_or _ _ (Nat.lt_trans hq8 (by decide)) (Nat.lt_trans hp8 (by decide))
        have hqv : q ||| v < 256 := Nat.or_lt_two_pow (n := 8) hq8 hp8
        obtain ⟨y, hy⟩ : ∃ y, y = q ||| v := ⟨_, rfl⟩
        rw [← hy] at hor hqv hnx
        have hN : Hid (y = sqs m (k + 1)) := hnx.symm
        clear hks hs hz hnx hv hy hq
        go_wp2
        go_roundw
        case rel => exact ⟨k + 1, y, by omega, by omega, by go_num, rfl, hqv, hN, hb⟩
        case measure => simp [intOf]; omega
      · obtain rfl : k = m := by omega
        obtain ⟨es, hes⟩ : ∃ es, es = elems q := ⟨_, rfl⟩
        have hL : es.map Int.ofNat = sqL k := by rw [hes, hq.out]; exact HSE.out
        have hEL : es.length = (sqL k).length := by rw [← hL, List.length_map]
        have HELM : Hid (Calls Try.prog 84 #[.int .i64 (q : Int)] wr fun e w' => (∃ g c, e = .returned (.slice (some ⟨g, 0, none⟩) (sqL k).length c) ∧ IntRow w' (some ⟨g, 0, none⟩) (sqL k)) ∧ Below wr.heap.size wr w') := by
          refine (elementsOf_any q hq8 wr).mono ?_
          rintro e w' ⟨⟨g, c, he, ho⟩, hb'⟩
          rw [← hes, hEL] at he
          rw [← hes, nv_iv, hL] at ho
          refine ⟨⟨g, c, he, ?_⟩, hb'⟩
          have h9 : es.length = (sqL k).length := hEL
          rw [h9] at ho
          exact IntRow.of_own ho
        have XA : Hid (Box Wa w.heap.size 27 (.int .i64 0) (.slice none 0 0)) := xa
        have BA : Hid (Below w.heap.size w Wa) := hba
        clear hes hL hEL xa hba
        go_wp2_with fail
        refine HELM.out.mono ?_
        rintro e w2 ⟨⟨g2, c2, rfl, hr2⟩, hb2⟩
        go_wp2_with fail
        refine (HC.out _ _ w2 hr2).mono ?_
        rintro e w3 ⟨⟨a0, c0', rfl, ho⟩, hb3⟩
        have x1 := ((XA.out.below hb.out XA.out.lt).below hb2 (XA.out.below hb.out XA.out.lt).lt).below hb3 (by have := XA.out.lt; have := hb.out.size; have := hb2.size; omega)
        have B2 : Below w.heap.size w w2 := (BA.out.trans (hb.out.mono BA.out.size)).trans (hb2.mono (Nat.le_trans BA.out.size hb.out.size))
        have B3 := B2.trans (hb3.mono B2.size)
        have f0 := x1.f0
        have f1 := x1.f1
        have c0 := x1.c0
        have c1 := x1.c1
        have X := Lib.hid x1
        have HO := Lib.hid ho
        have HB := Lib.hid B3
        have HB2 := Lib.hid B2
        have hlt2 : Hid (w.heap.size < w2.heap.size) := (show _ < _ by have := XA.out.lt; have := hb.out.size; have := hb2.size; omega)
        clear x1 ho B2 B3 hb3 hb2 hr2
        go_wp2
        refine bodyPost_ret (v := .tuple #[.agg #[.int .i64 (rtN k (sqL k)), .slice a0 (rtR k (sqL k)).length c0'], .bool true]) (Box.res2 rfl _ rfl rfl ((X.out.set0 _).set1 _)) rfl ?_
        exact sq_yes HP.out (own_set (own_set HO.out ⟨w.heap.size, 0, none⟩ _ hlt2.out) ⟨w.heap.size, 1, none⟩ _ hlt2.out) HB2.out.size ((HB.out.setCell (p := ⟨w.heap.size, 0, none⟩) (Nat.le_refl _) _).setCell (p := ⟨w.heap.size, 1, none⟩) (Nat.le_refl _) _)
end Go.Proofs.Yteiadhfjpohmdaa
