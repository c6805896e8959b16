/-
  'RotationalTour' of the program and of the model. No conditions but the bounds that Go gives a slice.
-/
import Derived.Test.YteiadhfjpohmdaaXf
import Derived.Test.YteiadhfjpohmdaaM
import Derived.Test.YteiadhfjpohmdaaX
namespace Go.Proofs.Yteiadhfjpohmdaa
open Go.ChangeShapes Go.WideShapes Go.ChangeAt Go.RowKit
set_option linter.unusedVariables false

/-- What both answer. -/
def rtR (n : Int) (l : List Int) : List Int := if Ct.conB n l then (Ct.rotL n l).map Int.ofNat else []
def rtN (n : Int) (l : List Int) : Int := if Ct.conB n l then n else 0
theorem rtR_le (n : Int) (l : List Int) : (rtR n l).length ≤ 8 := by
  unfold rtR
  cases h : Ct.conB n l
  · simp
  · have := Ct.odd_size (Ct.con_parts h).1
    simp [Ct.rotL]; omega
/-- The rows while they are filled. -/
def stR (n : Int) (l : List Int) (a j : Nat) : List Nat := (List.range n.toNat).map fun i => if i < a then Ct.rowO n l i l.length else if i = a then Ct.rowO n l a j else 0
theorem stR_len (n : Int) (l : List Int) (a j : Nat) : (stR n l a j).length = n.toNat := by simp [stR]
theorem stR_zero (n : Int) (l : List Int) : stR n l 0 0 = List.replicate n.toNat 0 := by
  apply List.ext_getElem
  · simp [stR]
  · intro i h1 h2
    simp only [stR, List.getElem_map, List.getElem_range, List.getElem_replicate]
    rw [if_neg (by omega)]
    split <;> simp [Ct.rowO]
theorem stR_next (n : Int) (l : List Int) (a : Nat) : stR n l a l.length = stR n l (a + 1) 0 := by
  apply List.ext_getElem
  · simp [stR]
  · intro i h1 h2
    simp only [stR, List.getElem_map, List.getElem_range]
    by_cases h : i < a
    · rw [if_pos h, if_pos (by omega)]
    · rw [if_neg h]
      by_cases e : i = a
      · rw [if_pos e, if_pos (by omega), e]
      · rw [if_neg e, if_neg (by omega)]
        split <;> simp [Ct.rowO]
theorem stR_end (n : Int) (l : List Int) : stR n l n.toNat 0 = Ct.rotL n l := by
  apply List.ext_getElem
  · simp [stR, Ct.rotL]
  · intro i h1 h2
    have hi : i < n.toNat := by simpa [stR] using h1
    simp only [stR, Ct.rotL, List.getElem_map, List.getElem_range]
    rw [if_pos hi]
theorem stR_at (n : Int) (l : List Int) (a j : Nat) (ha : a < n.toNat) : (stR n l a j).getD a 0 = Ct.rowO n l a j := by
  rw [List.getD_eq_getElem?_getD, List.getElem?_eq_getElem (by rw [stR_len]; exact ha)]
  simp [stR]
theorem stR_set (n : Int) (l : List Int) (a j : Nat) (ha : a < n.toNat) : (stR n l a j).set a (Ct.rowO n l a (j + 1)) = stR n l a (j + 1) := by
  apply List.ext_getElem
  · simp [stR]
  · intro i h1 h2
    rw [List.getElem_set]
    simp only [stR, List.getElem_map, List.getElem_range]
    by_cases e : a = i
    · subst e; rw [if_pos rfl, if_neg (by omega), if_pos rfl]
    · rw [if_neg e]
      by_cases h : i < a
      · rw [if_pos h, if_pos h]
      · rw [if_neg h, if_neg h, if_neg (fun x => e x.symm), if_neg (fun x => e x.symm)]
theorem stR_small {n : Int} {l : List Int} (h : Ct.conB n l = true) (a j : Nat) (hj : j ≤ l.length) : ∀ y ∈ stR n l a j, y < 256 := by
  obtain ⟨h1, h2, _⟩ := Ct.con_parts h
  have h7 := Ct.odd_size h1
  have hp : 2 ^ n.toNat ≤ 256 := pow_le _ (by omega)
  intro y hy
  obtain ⟨i, hi, rfl⟩ := List.mem_map.1 hy
  have hi := List.mem_range.1 hi
  split
  · exact Nat.lt_of_lt_of_le (Ct.asc_row h1 h2 hi (Nat.le_refl _)).2 hp
  · split
    · rename_i e; subst e
      exact Nat.lt_of_lt_of_le (Ct.asc_row h1 h2 hi hj).2 hp
    · decide

/-- Where the rows stand. -/
structure SpX (m g q r B : Nat) (w W : World) (ys : List Nat) : Prop where
  own : W.ownsRow B 3 1 (.slice (some ⟨g, 0, none⟩) m m) m (ys.map nv)
  bq : Box W q 27 (.int .i64 (m : Int)) (.slice (some ⟨g, 0, none⟩) m m)
  br : Box W r 27 (.int .i64 0) (.slice none 0 0)
  bl : Below r w W
theorem mod_sum {a v m : Nat} (hm : 1 ≤ m) : ((a : Int) + (v : Int)).tmod (m : Int) = (((a + v) % m : Nat) : Int) ∧ ((a : Int) + (v : Int)) % (m : Int) = (((a + v) % m : Nat) : Int) := by
  have : ((a : Int) + (v : Int)) = ((a + v : Nat) : Int) := by omega
  rw [this]
  refine ⟨?_, by rw [Int.natCast_emod]⟩
  rw [Int.tmod_eq_emod_of_nonneg (Int.natCast_nonneg _), Int.natCast_emod]

set_option maxRecDepth 100000 in
set_option maxHeartbeats 4000000 in
theorem implRotationalTour (n : Int) (a : Option Addr) (l : List Int) (cap : Nat) (w : World) (hrow : IntRow w a l) (hl : l.length ≤ maxLen) :
    Calls Try.prog 19 #[.int .i64 n, .slice a l.length cap] w fun e w' => (∃ a0 c0, e = .returned (.tuple #[.agg #[.int .i64 (rtN n l), .slice a0 (rtR n l).length c0], .bool (Ct.conB n l)]) ∧ w'.ownsRow w.heap.size 3 1 (.slice a0 (rtR n l).length c0) (rtR n l).length ((rtR n l).map iv)) ∧ Below w.heap.size w w' := by
  obtain ⟨Wa, hWa⟩ : ∃ Wa, Wa = w.alloc (.cells #[.int .i64 0, .slice none 0 0] 27) := ⟨_, rfl⟩
  have hba : Below w.heap.size w Wa := by rw [hWa]; exact (Below.refl _ _).alloc (Nat.le_refl _) _
  have sa : Wa.heap.size = w.heap.size + 1 := by rw [hWa]; simp
  have xa : Box Wa w.heap.size 27 (.int .i64 0) (.slice none 0 0) := by rw [hWa]; exact Box.new _ _ _ _
  have hrowa : IntRow Wa a l := hrow.below hba (Nat.le_refl _)
  have HWa := Lib.hid hWa
  have HL := Lib.hid hl
  unfold maxLen at hl
  clear hWa hrow
  cases hc : Ct.conB n l
  · have HC := Lib.hid hc
    have HE : Hid (rtN n l = 0 ∧ rtR n l = []) := by show _ ∧ _; unfold rtN rtR; rw [hc]; exact ⟨rfl, rfl⟩
    clear hc
    go_enter Try.func19, Try.ntmps19
    go_wp2_with fail
    rw [← HWa.out]
    refine (implIsConnection n a l cap Wa hrowa HL.out).mono ?_
    rintro e w1 ⟨rfl, hb1⟩
    rw [HC.out]
    have B1 := hba.trans (hb1.mono hba.size)
    have xr1 := xa.below hb1 xa.lt
    clear xa hrowa
    have c0 := xr1.c0
    have c1 := xr1.c1
    have f0 := xr1.f0
    have f1 := xr1.f1
    have X := Lib.hid xr1
    have BB := Lib.hid (B1)
    clear xr1
    go_wp2
    refine bodyPost_ret (v := .tuple #[.agg #[.int .i64 0, .slice none 0 0], .bool false]) (Box.res2 rfl _ rfl rfl ((X.out.set0 _).set1 _)) rfl ?_
    refine ⟨⟨none, 0, ?_, ?_⟩, ?_⟩
    · rw [HE.out.1, HE.out.2]; rfl
    · rw [HE.out.2]; exact World.ownsRow_nil _ _ _ _
    · exact (BB.out.setCell (p := ⟨w.heap.size, 0, none⟩) (Nat.le_refl _) _).setCell (p := ⟨w.heap.size, 1, none⟩) (Nat.le_refl _) _
  have HC := Lib.hid hc
  obtain ⟨h1, h2, _⟩ := Ct.con_parts hc
  have h7 := Ct.odd_size h1
  obtain ⟨m, rfl⟩ : ∃ m : Nat, n = m := ⟨n.toNat, by omega⟩
  have hm7 : m ≤ 7 := by omega
  have hm1 : 1 ≤ m := by omega
  have HE : Hid (rtN m l = m ∧ rtR m l = (stR m l m 0).map Int.ofNat) := by
    show _ ∧ _
    refine ⟨by unfold rtN; rw [hc]; rfl, ?_⟩
    have := stR_end m l
    rw [Int.toNat_natCast] at this
    unfold rtR; rw [hc, this]; rfl
  have HSM : Hid (∀ a j, j ≤ l.length → ∀ y ∈ stR m l a j, y < 256) := fun a j hj => stR_small hc a j hj
  have HAS : Hid (∀ j, j < l.length → Ct.prv l j < l.getD j 0 ∧ l.getD j 0 < (m : Int)) := (Ct.asc_iff _ _).1 h2
  have HV : Hid (∀ j, j < l.length → ∃ v : Nat, l.getD j 0 = v ∧ v < 7) := by
    intro j hj
    have hx := (Ct.asc_iff _ _).1 h2
    have h0 : ∀ i, i ≤ j → 0 ≤ Ct.prv l i := by
      intro i
      induction i with
      | zero => intro _; exact Int.le_refl _
      | succ i ih =>
        intro hi
        have := hx i (by omega)
        have := ih (by omega)
        show 0 ≤ l.getD i 0
        omega
    have := hx j hj
    have := h0 j (Nat.le_refl _)
    exact ⟨(l.getD j 0).toNat, by omega, by omega⟩
  have HRW : Hid (∀ a j, a < m → j ≤ l.length → Ct.rowO m l a j = Ct.rowP m l a j ∧ Ct.rowO m l a j < 256) := by
    intro a j ha hj
    obtain ⟨k1, k2⟩ := Ct.asc_row h1 h2 (a := a) (j := j) (by rw [Int.toNat_natCast]; exact ha) hj
    exact ⟨k1, Nat.lt_of_lt_of_le k2 (pow_le _ (by rw [Int.toNat_natCast]; omega))⟩
  clear hc h1 h2 h7
  have HNT : Hid (∀ W, Calls Try.prog 81 #[.int .i64 (m : Int)] W fun e w' => (∃ g, e = .returned (.agg #[.int .i64 m, .slice (some ⟨g, 0, none⟩) m m]) ∧ w'.ownsRow W.heap.size 3 1 (.slice (some ⟨g, 0, none⟩) m m) m ((List.replicate m 0).map nv)) ∧ Below W.heap.size W w') := fun W => newTour_any m W (by omega)
  go_enter Try.func19, Try.ntmps19
  go_wp2_with fail
  rw [← HWa.out]
  refine (implIsConnection m a l cap Wa hrowa HL.out).mono ?_
  rintro e wb ⟨rfl, hbb⟩
  rw [HC.out]
  have Bb := hba.trans (hbb.mono hba.size)
  have xb := xa.below hbb xa.lt
  have hrb := hrowa.below hbb (Nat.le_refl _)
  clear xa hrowa hbb hba sa
  go_wp2_with fail
  refine (HNT.out wb).mono ?_
  rintro e w1 ⟨⟨g, rfl, ho⟩, hb1⟩
  obtain ⟨W1, hW1⟩ : ∃ W1, W1 = w1.alloc (.cells #[.int .i64 (m : Int), .slice (some ⟨g, 0, none⟩) m m] 27) := ⟨_, rfl⟩
  have HW1 := Lib.hid hW1
  have hgl := ho.lt g rfl
  have hbW : Below w1.heap.size w1 W1 := by rw [hW1]; exact (Below.refl _ _).alloc (Nat.le_refl _) _
  have hq : Box W1 w1.heap.size 27 (.int .i64 (m : Int)) (.slice (some ⟨g, 0, none⟩) m m) := by rw [hW1]; exact Box.new _ _ _ _
  have hr : Box W1 w.heap.size 27 (.int .i64 0) (.slice none 0 0) := (xb.below hb1 xb.lt).below hbW (xb.below hb1 xb.lt).lt
  have hgq : g ≠ w1.heap.size := by omega
  have hgr : g ≠ w.heap.size := by have := xb.lt; omega
  obtain ⟨B, hB⟩ : ∃ B, B = wb.heap.size := ⟨_, rfl⟩
  obtain ⟨q, hqq⟩ : ∃ q, q = w1.heap.size := ⟨_, rfl⟩
  have hrg : w.heap.size < B := by rw [hB]; exact xb.lt
  have hS0 : SpX m g q w.heap.size B w W1 (stR m l 0 0) := by
    rw [hB, hqq]
    have b1 := Bb.trans (hb1.mono Bb.size)
    rw [stR_zero, Int.toNat_natCast]
    exact ⟨own_below ho hbW, hq, hr, b1.trans (hbW.mono b1.size)⟩
  have HS0 := Lib.hid hS0
  have hBg : B ≤ g := by rw [hB]; exact hgl.1
  have hrb1 : IntRow W1 a l := (hrb.below hb1 (Nat.le_refl _)).below hbW (Nat.le_refl _)
  have HRB : Hid (w.heap.size < B) := hrg
  have HR1 := Lib.hid hrb1
  have b01 : Hid (Below w.heap.size wb W1) := ((hb1.mono Bb.size).trans (hbW.mono (Nat.le_trans Bb.size hb1.size)))
  rw [← hqq] at hq
  have HQQ := Lib.hid hqq
  have HSTEP : Hid (∀ W ys i j, SpX m g q w.heap.size B w W ys → (∀ y ∈ ys, y < 256) → i < m → j < m → Calls Try.prog 82 #[.agg #[.int .i64 (m : Int), .slice (some ⟨g, 0, none⟩) m m], .int .i64 (i : Int), .int .i64 (j : Int)] W fun e W' => (∃ v, e = .returned v) ∧ SpX m g q w.heap.size B w W' (ys.set i (ys.getD i 0 ||| 2 ^ j)) ∧ W.grownBy W' (some g)) := by
    intro W ys i j hs hsm hi hj
    have hBW : B ≤ W.heap.size := by have := (hs.own.lt g rfl); omega
    refine (addWin_g B g m m i j ys W (by omega) hi (by omega) hsm hBW hs.own).mono ?_
    rintro e W' ⟨hv, ho', hb', hg'⟩
    have hgq2 : g ≠ q := by rw [hqq]; exact hgq
    exact ⟨hv, ⟨ho', hs.bq.grown hg' (fun e => hgq2 (Option.some.inj e)), hs.br.grown hg' (fun e => hgr (Option.some.inj e)), hs.bl.trans (hb'.mono (by omega))⟩, hg'⟩
  have HAG : Hid (∀ b, blk a = some b → l ≠ [] → b ≠ g) := by
    intro b hb hne e
    rcases hrb with h | ⟨b2, off, h3, hlt, _⟩
    · exact hne h
    · rw [h3] at hb; simp [blk] at hb; have := hgl.1; omega
  clear hW1 ho hb1 hgl hbW hq hr hgq hgr hrg hS0 hB hqq xb Bb hrb hrb1 HNT
  go_wp2
  rw [← HQQ.out, ← HW1.out]
  go_loopw [18] (fun i wr => ∃ x : Nat, x ≤ m ∧ i = .int .i64 (x : Int) ∧ Hid (SpX m g q w.heap.size B w wr (stR m l x 0)) ∧ Hid (KeepsBut g W1 wr)) (fun i _ => m - (intOf i).toNat)
  case atStart => exact ⟨0, Nat.zero_le _, rfl, HS0.out, KeepsBut.refl _ _⟩
  case round =>
    clear HS0
    obtain ⟨x, hx, rfl, hst, hkb⟩ := hrel
    by_cases hlt : x < m
    · have hxi : (x : Int) < (m : Int) := by omega
      go_wp2
      go_loopw [23] (fun i wr => ∃ j : Nat, j ≤ l.length ∧ i = .int .i64 (j : Int) ∧ Hid (SpX m g q w.heap.size B w wr (stR m l x j)) ∧ Hid (KeepsBut g W1 wr)) (fun i _ => l.length - (intOf i).toNat)
      case atStart => exact ⟨0, Nat.zero_le _, rfl, hst.out, hkb.out⟩
      case round =>
        clear hst hkb
        obtain ⟨j, hj, rfl, hst, hkb⟩ := hrel
        by_cases hlt2 : j < l.length
        · obtain ⟨v, hv, hv7⟩ := HV.out j hlt2
          obtain ⟨b, off, rfl, hbb, hcx⟩ := HR1.out.at hlt2
          have hcr := cell_but hcx hkb.out (p := ⟨b, off + j, none⟩) (HAG.out b rfl (by intro e; rw [e] at hlt2; simp at hlt2))
          rw [hv] at hcr
          have hji : (j : Int) < (l.length : Int) := by omega
          have hmx : l.length ≤ 9223372036854775807 := by omega
          obtain ⟨z, hz⟩ : ∃ z, z = (x + v) % m := ⟨_, rfl⟩
          have hzm : z < m := by rw [hz]; exact Nat.mod_lt _ (by omega)
          obtain ⟨hr1, hr2⟩ := mod_sum (a := x) (v := v) hm1
          rw [← hz] at hr1 hr2
          have c0 := hst.out.bq.c0
          have c1 := hst.out.bq.c1
          have hnx : Hid ((stR m l x j).set x ((stR m l x j).getD x 0 ||| 2 ^ z) = stR m l x (j + 1)) := by
            show _ = _
            rw [stR_at _ _ _ _ (by rw [Int.toNat_natCast]; exact hlt)]
            have : Ct.rowO m l x (j + 1) = Ct.rowO m l x j ||| 2 ^ z := by
              show Ct.rowO m l x j ||| 2 ^ (((x : Int) + l.getD j 0) % (m : Int)).toNat = _
              rw [hv, hr2]; rfl
            rw [← this]
            exact stR_set _ _ _ _ (by rw [Int.toNat_natCast]; exact hlt)
          have HD : Hid (SpX m g q w.heap.size B w wr.drew (stR m l x j)) := ⟨hst.out.own.drew, hst.out.bq.drew, hst.out.br.drew, hst.out.bl.drew⟩
          have HCALL := Lib.hid (HSTEP.out wr.drew _ x z HD.out (HSM.out x j hj) hlt hzm)
          have HZ := Lib.hid hz
          clear hcx hz hv
          go_wp2_with fail
          go_region_with (go_at_call 82; refine HCALL.out.mono ?_; rintro e w5 ⟨⟨v5, rfl⟩, hs5, hg5⟩; rw [hnx.out] at hs5; have HS5 := Lib.hid hs5; have HK5 : Hid (KeepsBut g W1 w5) := hkb.out.trans (KeepsBut.trans (KeepsBut.below (Below.refl _ wr).drew) (KeepsBut.grown hg5)); clear hs5 hg5)
          all_goals
            clear c0 c1 hcr
            go_wp2
            go_roundw
            case rel => exact ⟨j + 1, by omega, by go_num, HS5.out, HK5.out⟩
            case measure => simp [intOf]; omega
        · obtain rfl : j = l.length := by omega
          have h2 : Hid (SpX m g q w.heap.size B w wr (stR m l (x + 1) 0)) := by rw [← stR_next]; exact hst.out
          clear hst
          go_wp2
          go_roundw
          case rel => exact ⟨x + 1, by omega, by go_num, h2, hkb.out⟩
          case measure => simp [intOf]; omega
    · obtain rfl : x = m := by omega
      have hs := hst.out
      have c0 := hs.bq.c0
      have c1 := hs.bq.c1
      have f0 := hs.br.f0
      have f1 := hs.br.f1
      have d0 := hs.br.c0
      have d1 := hs.br.c1
      clear hs
      go_wp2
      refine bodyPost_ret (v := .tuple #[.agg #[.int .i64 (x : Int), .slice (some ⟨g, 0, none⟩) x x], .bool true]) (Box.res2 rfl _ rfl rfl ((hst.out.br.set0 _).set1 _)) rfl ?_
      have hlen : (rtR x l).length = x := by rw [HE.out.2, List.length_map, stR_len, Int.toNat_natCast]
      refine ⟨⟨some ⟨g, 0, none⟩, x, ?_, ?_⟩, ?_⟩
      · rw [HE.out.1, hlen]
      · have ho := own_set (own_set hst.out.own ⟨w.heap.size, 0, none⟩ (.int .i64 (x : Int)) HRB.out) ⟨w.heap.size, 1, none⟩ (.slice (some ⟨g, 0, none⟩) x x) HRB.out
        rw [nv_iv, ← HE.out.2] at ho
        rw [hlen]
        exact ho.mono (by have := HRB.out; omega)
      · exact (hst.out.bl.setCell (p := ⟨w.heap.size, 0, none⟩) (Nat.le_refl _) _).setCell (p := ⟨w.heap.size, 1, none⟩) (Nat.le_refl _) _

set_option maxRecDepth 100000 in
set_option maxHeartbeats 4000000 in
theorem specRotationalTour (n : Int) (a : Option Addr) (l : List Int) (cap : Nat) (w : World) (hrow : IntRow w a l) (hl : l.length ≤ maxLen) :
    Calls Try.prog 18 #[.int .i64 n, .slice a l.length cap] w fun e w' => (∃ a0 c0, e = .returned (.tuple #[.agg #[.int .i64 (rtN n l), .slice a0 (rtR n l).length c0], .bool (Ct.conB n l)]) ∧ w'.ownsRow w.heap.size 3 1 (.slice a0 (rtR n l).length c0) (rtR n l).length ((rtR n l).map iv)) ∧ Below w.heap.size w w' := by
  obtain ⟨Wa, hWa⟩ : ∃ Wa, Wa = w.alloc (.cells #[.int .i64 0, .slice none 0 0] 27) := ⟨_, rfl⟩
  have hba : Below w.heap.size w Wa := by rw [hWa]; exact (Below.refl _ _).alloc (Nat.le_refl _) _
  have sa : Wa.heap.size = w.heap.size + 1 := by rw [hWa]; simp
  have xa : Box Wa w.heap.size 27 (.int .i64 0) (.slice none 0 0) := by rw [hWa]; exact Box.new _ _ _ _
  have hrowa : IntRow Wa a l := hrow.below hba (Nat.le_refl _)
  have HWa := Lib.hid hWa
  have HL := Lib.hid hl
  unfold maxLen at hl
  clear hWa hrow
  cases hc : Ct.conB n l
  · have HC := Lib.hid hc
    have HE : Hid (rtN n l = 0 ∧ rtR n l = []) := by show _ ∧ _; unfold rtN rtR; rw [hc]; exact ⟨rfl, rfl⟩
    clear hc
    go_enter Try.func18, Try.ntmps18
    go_wp2_with fail
    rw [← HWa.out]
    refine (specIsConnection n a l cap Wa hrowa HL.out).mono ?_
    rintro e w1 ⟨rfl, hb1⟩
    rw [HC.out]
    have B1 := hba.trans (hb1.mono hba.size)
    have xr1 := xa.below hb1 xa.lt
    clear xa hrowa
    have c0 := xr1.c0
    have c1 := xr1.c1
    have f0 := xr1.f0
    have f1 := xr1.f1
    have X := Lib.hid xr1
    have BB := Lib.hid (B1)
    clear xr1
    go_wp2
    refine bodyPost_ret (v := .tuple #[.agg #[.int .i64 0, .slice none 0 0], .bool false]) (Box.res2 rfl _ rfl rfl ((X.out.set0 _).set1 _)) rfl ?_
    refine ⟨⟨none, 0, ?_, ?_⟩, ?_⟩
    · rw [HE.out.1, HE.out.2]; rfl
    · rw [HE.out.2]; exact World.ownsRow_nil _ _ _ _
    · exact (BB.out.setCell (p := ⟨w.heap.size, 0, none⟩) (Nat.le_refl _) _).setCell (p := ⟨w.heap.size, 1, none⟩) (Nat.le_refl _) _
  have HC := Lib.hid hc
  obtain ⟨h1, h2, _⟩ := Ct.con_parts hc
  have h7 := Ct.odd_size h1
  obtain ⟨m, rfl⟩ : ∃ m : Nat, n = m := ⟨n.toNat, by omega⟩
  have hm7 : m ≤ 7 := by omega
  have hm1 : 1 ≤ m := by omega
  have HE : Hid (rtN m l = m ∧ rtR m l = (stR m l m 0).map Int.ofNat) := by
    show _ ∧ _
    refine ⟨by unfold rtN; rw [hc]; rfl, ?_⟩
    have := stR_end m l
    rw [Int.toNat_natCast] at this
    unfold rtR; rw [hc, this]; rfl
  have HSM : Hid (∀ a j, j ≤ l.length → ∀ y ∈ stR m l a j, y < 256) := fun a j hj => stR_small hc a j hj
  have HAS : Hid (∀ j, j < l.length → Ct.prv l j < l.getD j 0 ∧ l.getD j 0 < (m : Int)) := (Ct.asc_iff _ _).1 h2
  have HV : Hid (∀ j, j < l.length → ∃ v : Nat, l.getD j 0 = v ∧ v < 7) := by
    intro j hj
    have hx := (Ct.asc_iff _ _).1 h2
    have h0 : ∀ i, i ≤ j → 0 ≤ Ct.prv l i := by
      intro i
      induction i with
      | zero => intro _; exact Int.le_refl _
      | succ i ih =>
        intro hi
        have := hx i (by omega)
        have := ih (by omega)
        show 0 ≤ l.getD i 0
        omega
    have := hx j hj
    have := h0 j (Nat.le_refl _)
    exact ⟨(l.getD j 0).toNat, by omega, by omega⟩
  have HRW : Hid (∀ a j, a < m → j ≤ l.length → Ct.rowO m l a j = Ct.rowP m l a j ∧ Ct.rowO m l a j < 256) := by
    intro a j ha hj
    obtain ⟨k1, k2⟩ := Ct.asc_row h1 h2 (a := a) (j := j) (by rw [Int.toNat_natCast]; exact ha) hj
    exact ⟨k1, Nat.lt_of_lt_of_le k2 (pow_le _ (by rw [Int.toNat_natCast]; omega))⟩
  clear hc h1 h2 h7
  obtain ⟨i0, hi, hz0, hz1, hz2⟩ := info_parts infoInt
  go_enter Try.func18, Try.ntmps18
  go_wp2_with fail
  rw [← HWa.out]
  refine (specIsConnection m a l cap Wa hrowa HL.out).mono ?_
  rintro e wb ⟨rfl, hbb⟩
  rw [HC.out]
  have Bb := hba.trans (hbb.mono hba.size)
  have xb := xa.below hbb xa.lt
  have hrb := hrowa.below hbb (Nat.le_refl _)
  clear xa hrowa hbb hba sa
  go_wp2_with (refine wpList_make_full _ rfl _ _ 22 rfl wb.heap.size 3 i0 (.int .i64 0) 1 Try.underlying22 hi hz0 hz1 .i64 .i64 _ _ m rfl rfl rfl rfl ?c1 ?c2 ?c3 ?_)
  case c1 => rw [hz2]; omega
  case c2 => unfold maxLen; omega
  case c3 => exact Nat.le_refl _
  intro w1 hown hg
  have hb1 : Below wb.heap.size wb w1 := (Below.refl _ wb).grown hg (Nat.le_refl _) (fun k hk => by cases hk)
  rw [zeros] at hown
  obtain ⟨g, hgg⟩ : ∃ g, g = wb.heap.size := ⟨_, rfl⟩
  have ho : w1.ownsRow wb.heap.size 3 1 (.slice (some ⟨g, 0, none⟩) m m) m ((List.replicate m 0).map nv) := by rw [hgg]; exact hown
  have HGG := Lib.hid hgg
  rw [← hgg]
  obtain ⟨W1, hW1⟩ : ∃ W1, W1 = w1.alloc (.cells #[.int .i64 (m : Int), .slice (some ⟨g, 0, none⟩) m m] 27) := ⟨_, rfl⟩
  have HW1 := Lib.hid hW1
  have hgl := ho.lt g rfl
  have hbW : Below w1.heap.size w1 W1 := by rw [hW1]; exact (Below.refl _ _).alloc (Nat.le_refl _) _
  have hq : Box W1 w1.heap.size 27 (.int .i64 (m : Int)) (.slice (some ⟨g, 0, none⟩) m m) := by rw [hW1]; exact Box.new _ _ _ _
  have hr : Box W1 w.heap.size 27 (.int .i64 0) (.slice none 0 0) := (xb.below hb1 xb.lt).below hbW (xb.below hb1 xb.lt).lt
  have hgq : g ≠ w1.heap.size := by omega
  have hgr : g ≠ w.heap.size := by have := xb.lt; omega
  obtain ⟨B, hB⟩ : ∃ B, B = wb.heap.size := ⟨_, rfl⟩
  obtain ⟨q, hqq⟩ : ∃ q, q = w1.heap.size := ⟨_, rfl⟩
  have hrg : w.heap.size < B := by rw [hB]; exact xb.lt
  have hS0 : SpX m g q w.heap.size B w W1 (stR m l 0 0) := by
    rw [hB, hqq]
    have b1 := Bb.trans (hb1.mono Bb.size)
    rw [stR_zero, Int.toNat_natCast]
    exact ⟨own_below ho hbW, hq, hr, b1.trans (hbW.mono b1.size)⟩
  have HS0 := Lib.hid hS0
  have hBg : B ≤ g := by rw [hB]; exact hgl.1
  have hrb1 : IntRow W1 a l := (hrb.below hb1 (Nat.le_refl _)).below hbW (Nat.le_refl _)
  have HRB : Hid (w.heap.size < B) := hrg
  have HR1 := Lib.hid hrb1
  have b01 : Hid (Below w.heap.size wb W1) := ((hb1.mono Bb.size).trans (hbW.mono (Nat.le_trans Bb.size hb1.size)))
  rw [← hqq] at hq
  have HQQ := Lib.hid hqq
  have HAG : Hid (∀ b, blk a = some b → l ≠ [] → b ≠ g) := by
    intro b hb hne e
    rcases hrb with h | ⟨b2, off, h3, hlt, _⟩
    · exact hne h
    · rw [h3] at hb; simp [blk] at hb; have := hgl.1; omega
  have HGQ : Hid (q ≠ g) := (show q ≠ g by rw [hqq]; exact fun e => hgq e.symm)
  have HGR : Hid (w.heap.size ≠ g) := (show _ ≠ g from fun e => hgr e.symm)
  have HWG : Hid (w.heap.size ≤ g) := (show _ ≤ g by omega)
  clear hW1 ho hb1 hgl hbW hq hr hgq hgr hrg hS0 hB hqq xb Bb hrb hrb1 hown hg hgg
  go_wp2
  rw [← HQQ.out, ← HW1.out]
  go_loopw [7] (fun i wr => ∃ x : Nat, x ≤ m ∧ i = .int .i64 (x : Int) ∧ Hid (SpX m g q w.heap.size B w wr (stR m l x 0)) ∧ Hid (KeepsBut g W1 wr)) (fun i _ => m - (intOf i).toNat)
  case atStart => exact ⟨0, Nat.zero_le _, rfl, HS0.out, KeepsBut.refl _ _⟩
  case round =>
    clear HS0
    obtain ⟨x, hx, rfl, hst, hkb⟩ := hrel
    by_cases hlt : x < m
    · have hxi : (x : Int) < (m : Int) := by omega
      go_wp2
      go_loopw [26] (fun i wr => ∃ j : Nat, j ≤ l.length ∧ i = .int .i64 (j : Int) ∧ Hid (SpX m g q w.heap.size B w wr (stR m l x j)) ∧ Hid (KeepsBut g W1 wr)) (fun i _ => l.length - (intOf i).toNat)
      case atStart => exact ⟨0, Nat.zero_le _, rfl, hst.out, hkb.out⟩
      case round =>
        clear hst hkb
        obtain ⟨j, hj, rfl, hst, hkb⟩ := hrel
        by_cases hlt2 : j < l.length
        · obtain ⟨v, hv, hv7⟩ := HV.out j hlt2
          obtain ⟨b, off, rfl, hbb, hcx⟩ := HR1.out.at hlt2
          have hcr := cell_but hcx hkb.out (p := ⟨b, off + j, none⟩) (HAG.out b rfl (by intro e; rw [e] at hlt2; simp at hlt2))
          rw [hv] at hcr
          have hji : (j : Int) < (l.length : Int) := by omega
          have hmx : l.length ≤ 9223372036854775807 := by omega
          obtain ⟨z, hz⟩ : ∃ z, z = (x + v) % m := ⟨_, rfl⟩
          have hzm : z < m := by rw [hz]; exact Nat.mod_lt _ (by omega)
          obtain ⟨hr1, hr2⟩ := mod_sum (a := x) (v := v) hm1
          rw [← hz] at hr1 hr2
          have c1 := hst.out.bq.c1
          obtain ⟨r, hrr⟩ : ∃ r, r = (stR m l x j).getD x 0 := ⟨_, rfl⟩
          have hr0 : r = Ct.rowO m l x j := by rw [hrr]; exact stR_at _ _ _ _ (by rw [Int.toNat_natCast]; exact hlt)
          have hr8 : r < 256 := by rw [hr0]; exact (HRW.out x j hlt hj).2
          have hcq : wr.cell? ⟨g, x, none⟩ = some (.int .i64 (r : Int)) := by
            rw [hst.out.own.cellAt x (by omega), List.getElem?_map, show (stR m l x j)[x]? = some r by rw [hrr, List.getD_eq_getElem?_getD, List.getElem?_eq_getElem (by rw [stR_len, Int.toNat_natCast]; exact hlt)]; rfl]; rfl
          have hfr := hst.out.own.frozenAt x
          have hw64 : Value.int .i64 (wrap64 (2 ^ z)) = Value.int .i64 ((2 ^ z : Nat) : Int) := by rw [wrapPow z (by omega)]
          have hw642 : Value.int .i64 (IntKind.i64.wrap (2 ^ z)) = Value.int .i64 ((2 ^ z : Nat) : Int) := by rw [wrapPow2 z (by omega)]
          have hp8 : 2 ^ z ≤ 256 := pow_le z (by omega)
          have hnew : r + 2 ^ z = Ct.rowO m l x (j + 1) := by
            have h3 := (HRW.out x (j + 1) hlt (by omega)).1
            rw [h3, hr0, (HRW.out x j hlt hj).1]
            show _ = Ct.rowP m l x j + 2 ^ (((x : Int) + l.getD j 0) % (m : Int)).toNat
            rw [hv, hr2]; rfl
          obtain ⟨p, hp⟩ : ∃ p, p = 2 ^ z := ⟨_, rfl⟩
          rw [← hp] at hw64 hw642 hp8 hnew
          have hst2 := (hst.out.own.stored x (nv (r + p))).1
          rw [← List.map_set, hnew, stR_set _ _ _ _ (by rw [Int.toNat_natCast]; exact hlt), ← hnew] at hst2
          have HST := Lib.hid hst2
          clear hcx hz hv hp hnew hst2 hrr hr0
          go_wp2
          go_region
          all_goals
            obtain ⟨w7, hw7⟩ : ∃ w7, w7 = (wr.setCell ⟨g, x, none⟩ (.int .i64 ((r : Int) + (p : Int)))).drew := ⟨_, rfl⟩
            rw [← hw7]
            have gg : wr.grownBy w7 (some g) := by
              rw [hw7]
              exact ⟨rfl, rfl, rfl, by simp [World.setCell, World.drew], fun i hi hn => heap_setCell_other wr ⟨g, x, none⟩ i _ (fun e => hn (by rw [e]))⟩
            have G1 : Hid (SpX m g q w.heap.size B w w7 (stR m l x (j + 1))) := by
              refine ⟨?_, hst.out.bq.grown gg (fun e => HGQ.out (Option.some.inj e).symm), hst.out.br.grown gg (fun e => HGR.out (Option.some.inj e).symm), ?_⟩
              · rw [hw7]
                have := HST.out
                unfold nv at this
                rw [Int.natCast_add] at this
                exact this.drew
              · rw [hw7]; exact (hst.out.bl.setCell (p := ⟨g, x, none⟩) HWG.out _).drew
            have G2 := Lib.hid (hkb.out.trans (KeepsBut.grown gg))
            clear hw7 gg c1 hcr hcq hfr
            go_wp2
            go_roundw
            case rel => exact ⟨j + 1, by omega, by go_num, G1.out, G2.out⟩
            case measure => simp [intOf]; omega
        · obtain rfl : j = l.length := by omega
          have h2 : Hid (SpX m g q w.heap.size B w wr (stR m l (x + 1) 0)) := by rw [← stR_next]; exact hst.out
          clear hst
          go_wp2
          go_roundw
          case rel => exact ⟨x + 1, by omega, by go_num, h2, hkb.out⟩
          case measure => simp [intOf]; omega
    · obtain rfl : x = m := by omega
      have hs := hst.out
      have c0 := hs.bq.c0
      have c1 := hs.bq.c1
      have f0 := hs.br.f0
      have f1 := hs.br.f1
      have d0 := hs.br.c0
      have d1 := hs.br.c1
      clear hs
      go_wp2
      refine bodyPost_ret (v := .tuple #[.agg #[.int .i64 (x : Int), .slice (some ⟨g, 0, none⟩) x x], .bool true]) (Box.res2 rfl _ rfl rfl ((hst.out.br.set0 _).set1 _)) rfl ?_
      have hlen : (rtR x l).length = x := by rw [HE.out.2, List.length_map, stR_len, Int.toNat_natCast]
      refine ⟨⟨some ⟨g, 0, none⟩, x, ?_, ?_⟩, ?_⟩
      · rw [HE.out.1, hlen]
      · have ho := own_set (own_set hst.out.own ⟨w.heap.size, 0, none⟩ (.int .i64 (x : Int)) HRB.out) ⟨w.heap.size, 1, none⟩ (.slice (some ⟨g, 0, none⟩) x x) HRB.out
        rw [nv_iv, ← HE.out.2] at ho
        rw [hlen]
        exact ho.mono (by have := HRB.out; omega)
      · exact (hst.out.bl.setCell (p := ⟨w.heap.size, 0, none⟩) (Nat.le_refl _) _).setCell (p := ⟨w.heap.size, 1, none⟩) (Nat.le_refl _) _
end Go.Proofs.Yteiadhfjpohmdaa
