/-
  The program's 'ParseTour'. It wants the library's table of powers of ten, its two error values and its variable MaxLen. No conditions else but a bound on the text's length.
-/
import Derived.Test.YtepladakcepgdaaDoor4D
import Derived.Test.YtepladakcepgdaaDoorM
namespace Go.Proofs.YtepladakcepgdaaDoor
open Go.ChangeShapes Go.WideShapes Go.ChangeAt Go.RowKit
set_option linter.unusedVariables false

/-- The world holds the library's variable MaxLen. -/
def HasMax (w : World) : Prop := ∃ m : Int, w.cell? ⟨0, 0, none⟩ = some (.int .i64 m)
theorem HasMax.below {w w' : World} (h : HasMax w) (hb : Below w.heap.size w w') : HasMax w' := by
  obtain ⟨m, hm⟩ := h
  exact ⟨m, (hb.cell (p := ⟨0, 0, none⟩) (block_lt_of_cell hm)).trans hm⟩
def hdOf (S : List UInt8) : ByteArray := ⟨(Lib.cut S [58]).1.toArray⟩
def tlOf (S : List UInt8) : ByteArray := ⟨(Lib.cut S [58]).2.1.toArray⟩
theorem cut_any (s : ByteArray) (w : World) (hs : s.size ≤ 1048576) (hm : HasMax w) :
    Calls Tryd.prog 40 #[.string s, .string ⟨#[58]⟩] w fun e w' => e = .returned (.tuple #[.string (hdOf s.data.toList), .string (tlOf s.data.toList), .bool (Lib.cut s.data.toList [58]).2.2]) ∧ Below w.heap.size w w' := by
  obtain ⟨m, hm⟩ := hm
  refine (Tryd.strings_Cut s ⟨#[58]⟩ m w (by omega) hm).mono ?_
  rintro e w' ⟨rfl, q, rfl⟩
  exact ⟨rfl, below_drewN (Below.refl _ _) _⟩
theorem cut_len (S : List UInt8) : (hdOf S).size ≤ S.length ∧ (tlOf S).size ≤ S.length := by
  unfold hdOf tlOf Lib.cut
  rw [Lib.size_eq, Lib.size_eq]
  split
  · simp only [List.length_take, List.length_drop]; omega
  · simp
/-- The sizes that a text may tell. -/
def goodSz (v : Int × Bool) : Bool := v.2 && isz v.1
theorem text_head {S : List UInt8} {l : List Int} (h : IsText S l) : pin (hdOf S).data.toList = ((l.length : Int), true) ∧ (tlOf S).data.toList = rowsTo l l.length := by
  have h8 : l.length ≤ 8 := by have := h.1.2.1; omega
  unfold hdOf tlOf
  rw [text_cut h]
  refine ⟨?_, rfl⟩
  apply pin_of
  refine ⟨by omega, by omega, ?_⟩
  rw [Lib.itoa_nonneg, dig_one (by omega)]
theorem no_text {S : List UInt8} (h : goodSz (pin (hdOf S).data.toList) = false) : ∀ l, ¬ IsText S l := by
  intro l hl
  rw [(text_head hl).1] at h
  have h1 := hl.1.1
  have h8 := hl.1.2.1
  simp [goodSz, isz] at h
  omega
theorem set_lt256 {ys : List Nat} (i j : Nat) (hj : j < 8) (h : ∀ y ∈ ys, y < 256) : ∀ y ∈ ys.set i (ys.getD i 0 ||| 2 ^ j), y < 256 := by
  intro y hy
  rcases List.mem_or_eq_of_mem_set hy with h1 | h1
  · exact h y h1
  · rw [h1]; exact or_lt256 _ _ (getD_lt256 ys _ h) hj
theorem bitc_one (b : Bool) : (((bitc b).toNat : Int) == 49) = b := by cases b <;> rfl
theorem tl_at {s : ByteArray} {S : List UInt8} (h : s.data.toList = S) {q : Nat} (hq : q < s.size) {c : UInt8} (hc : S[q]? = some c) : s[q] = c := by
  subst h
  have : s.data.toList[q]? = some s[q] := by
    rw [List.getElem?_eq_getElem (by rw [← Lib.size_eq]; exact hq)]; rfl
  rw [this] at hc
  exact Option.some.inj hc

theorem pin_empty : pin [] = (0, false) := by
  apply pin_none
  rintro v ⟨_, _, h⟩
  unfold Lib.itoa at h
  split at h
  · cases h
  · exact dec_ne _ h
theorem no_empty {S : List UInt8} {N : Nat} (h : ((N : Int), true) = pin (hdOf S).data.toList) : S ≠ [] := by
  rintro rfl
  have : (hdOf []).data.toList = [] := by decide
  rw [this, pin_empty] at h
  cases h
theorem fmt_text {S : List UInt8} {l : List Int} (hS : S ≠ []) (h : fmtR (l.length : Int) l = S) : IsText S l := by
  unfold fmtR at h
  cases hok : okB (l.length : Int) l
  · rw [hok] at h; exact absurd h.symm hS
  · rw [hok] at h; exact ⟨okB_iff.1 hok, h.symm⟩
theorem text_fmt {S : List UInt8} {l : List Int} (h : IsText S l) : fmtR (l.length : Int) l = S := by
  unfold fmtR
  rw [okB_true h.1, h.2]
  rfl

/-- What is known of the candidate before the pair (i, j). -/
def Told (S : List UInt8) (i j q : Nat) (ys : List Nat) : Prop := ∀ l, IsText S l → q = (pre2 l i j).length ∧ ys = tellL l i j

set_option maxRecDepth 100000 in
set_option maxHeartbeats 2000000 in
theorem implParse (s : ByteArray) (w : World) (hs : s.size ≤ 1048576) (ht : HasTab w) (he : HasErrs w) (hm : HasMax w) :
    Calls Tryd.prog 16 #[.string s] w fun e w' => (∃ a0 c0, e = .returned (.tuple #[.agg #[.int .i64 (parseL s.data.toList).length, .slice a0 (parseL s.data.toList).length c0], .bool (parseB s.data.toList)]) ∧ w'.ownsRow w.heap.size 3 1 (.slice a0 (parseL s.data.toList).length c0) (parseL s.data.toList).length ((parseL s.data.toList).map iv)) ∧ Below w.heap.size w w' := by
  obtain ⟨S, hS⟩ : ∃ S, S = s.data.toList := ⟨_, rfl⟩
  obtain ⟨W0, hW0⟩ : ∃ W0, W0 = w.alloc (.cells #[.int .i64 0, .slice none 0 0] 25) := ⟨_, rfl⟩
  have hb0 : Below w.heap.size w W0 := by rw [hW0]; exact (Below.refl _ _).alloc (Nat.le_refl _) _
  have xr0 : Box W0 w.heap.size 25 (.int .i64 0) (.slice none 0 0) := by rw [hW0]; exact Box.new _ _ _ _
  have HW0 := Lib.hid hW0
  have ht0 := ht.below hb0
  have HTw := Lib.hid ht
  have he0 := he.below hb0
  have hm0 := hm.below hb0
  have hcut := cut_any s
  have hcl := cut_len S
  have hsl : S.length = s.size := by rw [hS, Lib.size_eq]
  rw [← hS] at hcut ⊢
  have HC := Lib.hid hcut
  have hhd : (hdOf S).size ≤ 1048576 := by omega
  have htl : (tlOf S).size ≤ 1048576 := by omega
  have HS := Lib.hid hS
  have HT0 := Lib.hid ht0
  have HE0 := Lib.hid he0
  have HM0 := Lib.hid hm0
  clear hW0 ht he hm hcut hcl hsl hS ht0 he0 hm0
  obtain ⟨P, hP⟩ : ∃ P, P = pin (hdOf S).data.toList := ⟨_, rfl⟩
  have hpi := fun (W : World) (h1 : HasTab W) (h2 : HasErrs W) => implParseInt (hdOf S) W hhd h1 h2
  unfold PinPost at hpi
  rw [← hP] at hpi
  have HPI : Hid (∀ W, HasTab W → HasErrs W → Calls Tryd.prog 41 #[.string (hdOf S)] W fun e w' => e = .returned (.tuple #[.int .i64 P.1, .bool P.2]) ∧ Below W.heap.size W w') := hpi
  have HP := Lib.hid hP
  clear hpi hP
  obtain ⟨v, bo⟩ := P
  cases hgz : goodSz (v, bo)
  · have hno : ∀ l, ¬ IsText S l := no_text (by rw [← HP.out]; exact hgz)
    have HL : Hid (parseL S = []) := (parse_no hno).1
    have HB : Hid (parseB S = false) := (parse_no hno).2
    clear hno
    cases bo
    · clear hgz
      go_enter Tryd.func16, Tryd.ntmps16
      go_wp2_with fail
      rw [← HW0.out]
      refine (HC.out W0 hs HM0.out).mono ?_
      rintro e w1 ⟨rfl, hb1⟩
      go_wp2_with fail
      refine (HPI.out w1 (HT0.out.below hb1) (HE0.out.below hb1)).mono ?_
      rintro e w2 ⟨rfl, hb2⟩
      have x2 := (xr0.below hb1 xr0.lt).below hb2 (Nat.lt_of_lt_of_le xr0.lt hb1.size)
      have c0 := x2.c0
      have c1 := x2.c1
      have f0 := x2.f0
      have f1 := x2.f1
      have X := Lib.hid x2
      have BB := Lib.hid ((hb0.trans (hb1.mono hb0.size)).trans (hb2.mono (hb0.trans (hb1.mono hb0.size)).size))
      clear x2 hb1 hb2
      go_wp2
      refine bodyPost_ret (v := .tuple #[.agg #[.int .i64 0, .slice none 0 0], .bool false]) (Box.res2 rfl _ rfl rfl ((X.out.set0 _).set1 _)) rfl ⟨⟨none, 0, ?_, ?_⟩, ?_⟩
      · rw [HL.out, HB.out]; rfl
      · rw [HL.out]; exact World.ownsRow_nil _ _ _ _
      · exact (BB.out.setCell (p := ⟨w.heap.size, 0, none⟩) (Nat.le_refl _) _).setCell (p := ⟨w.heap.size, 1, none⟩) (Nat.le_refl _) _
    · have hz : isz v = false := by simpa [goodSz] using hgz
      have HZ := Lib.hid hz
      clear hgz hz
      go_enter Tryd.func16, Tryd.ntmps16
      go_wp2_with fail
      rw [← HW0.out]
      refine (HC.out W0 hs HM0.out).mono ?_
      rintro e w1 ⟨rfl, hb1⟩
      go_wp2_with fail
      refine (HPI.out w1 (HT0.out.below hb1) (HE0.out.below hb1)).mono ?_
      rintro e w2 ⟨rfl, hb2⟩
      go_wp2_with fail
      refine (isSize_any v w2).mono ?_
      rintro e w3 ⟨rfl, rfl⟩
      rw [HZ.out]
      have x2 := (xr0.below hb1 xr0.lt).below hb2 (Nat.lt_of_lt_of_le xr0.lt hb1.size)
      have c0 := x2.c0
      have c1 := x2.c1
      have f0 := x2.f0
      have f1 := x2.f1
      have X := Lib.hid x2
      have BB := Lib.hid ((hb0.trans (hb1.mono hb0.size)).trans (hb2.mono (hb0.trans (hb1.mono hb0.size)).size))
      clear x2 hb1 hb2
      go_wp2
      refine bodyPost_ret (v := .tuple #[.agg #[.int .i64 0, .slice none 0 0], .bool false]) (Box.res2 rfl _ rfl rfl ((X.out.set0 _).set1 _)) rfl ⟨⟨none, 0, ?_, ?_⟩, ?_⟩
      · rw [HL.out, HB.out]; rfl
      · rw [HL.out]; exact World.ownsRow_nil _ _ _ _
      · exact (BB.out.setCell (p := ⟨w.heap.size, 0, none⟩) (Nat.le_refl _) _).setCell (p := ⟨w.heap.size, 1, none⟩) (Nat.le_refl _) _
  obtain ⟨rfl, hz⟩ : bo = true ∧ isz v = true := by simpa [goodSz] using hgz
  have hv : 1 ≤ v ∧ v ≤ 8 := by simpa [isz] using hz
  obtain ⟨N, rfl⟩ : ∃ N : Nat, v = N := ⟨v.toNat, by omega⟩
  have hN1 : 1 ≤ N := by omega
  have hN8 : N ≤ 8 := by omega
  have HZ := Lib.hid hz
  have HG : Hid (∀ l, IsText S l → N = l.length ∧ (tlOf S).data.toList = rowsTo l l.length) := by
    intro l hl
    obtain ⟨h1, h2⟩ := text_head hl
    rw [← HP.out] at h1
    exact ⟨by have := congrArg Prod.fst h1; simp at this; omega, h2⟩
  obtain ⟨R, hR⟩ : ∃ R, R = tlOf S := ⟨_, rfl⟩
  rw [← hR] at htl HC HG
  clear hgz hz hv hR
  go_enter Tryd.func16, Tryd.ntmps16
  go_wp2_with fail
  rw [← HW0.out]
  refine (HC.out W0 hs HM0.out).mono ?_
  rintro e w1 ⟨rfl, hb1⟩
  go_wp2_with fail
  refine (HPI.out w1 (HT0.out.below hb1) (HE0.out.below hb1)).mono ?_
  rintro e w2 ⟨rfl, hb2⟩
  go_wp2_with fail
  refine (isSize_any _ w2).mono ?_
  rintro e w3 ⟨rfl, rfl⟩
  rw [HZ.out]
  go_wp2_with fail
  refine (newTour_any N w2 (by omega)).mono ?_
  rintro e w3 ⟨⟨g, rfl, ho3⟩, hb3⟩
  have B1 := hb0.trans (hb1.mono hb0.size)
  have B2 := B1.trans (hb2.mono B1.size)
  have B3 := B2.trans (hb3.mono B2.size)
  have xr3 := ((xr0.below hb1 xr0.lt).below hb2 (Nat.lt_of_lt_of_le xr0.lt hb1.size)).below hb3 (Nat.lt_of_lt_of_le xr0.lt (Nat.le_trans hb1.size hb2.size))
  have ht3 := ((HT0.out.below hb1).below hb2).below hb3
  have hgl := ho3.lt g rfl
  obtain ⟨W4, hW4⟩ : ∃ W4, W4 = w3.alloc (.cells #[.int .i64 N, .slice (some ⟨g, 0, none⟩) N N] 25) := ⟨_, rfl⟩
  have HW4 := Lib.hid hW4
  have hbW4 : Below w3.heap.size w3 W4 := by rw [hW4]; exact Below.one _ _
  have xf4 : Box W4 w3.heap.size 25 (.int .i64 N) (.slice (some ⟨g, 0, none⟩) N N) := by rw [hW4]; exact Box.new _ _ _ _
  have B4 := B3.trans (hbW4.mono B3.size)
  have XR4 := Lib.hid (xr3.below hbW4 xr3.lt)
  have OG4 := Lib.hid ((own_below ho3 hbW4).mono B2.size)
  have XF4 := Lib.hid xf4
  have BB4 := Lib.hid B4
  have HT4 := Lib.hid (ht3.below hbW4)
  have hlt0 := xr0.lt
  have hrg : Hid (w.heap.size ≠ g) := (show _ ≠ g by have := hb1.size; have := hb2.size; omega)
  have hfg : Hid (w3.heap.size ≠ g) := (show _ ≠ g by omega)
  have hgw : Hid (W4.heap.size > g) := (show _ > g by have := hbW4.size; omega)
  have hgb : Hid (w.heap.size ≤ g) := (show _ ≤ g by have := B2.size; omega)
  clear hW4 hbW4 xf4 B1 B2 B3 B4 xr3 ho3 hb1 hb2 hb3 hgl hb0 xr0 hlt0 ht3
  go_wp2
  rw [← HW4.out]
  have hT0 : Hid (Told S 0 1 0 (List.replicate N 0)) := by
    intro l hl
    obtain ⟨h1, _⟩ := HG.out l hl
    rw [pre2_start, tellL_start hl.1, h1]
    exact ⟨rfl, rfl⟩
  go_loopw [10, 35] (fun at_ i wr => ∃ (k q : Nat) (ys : List Nat), k ≤ N ∧ i = .int .i64 k ∧ at_ = .int .i64 q ∧ q ≤ R.size ∧ Hid (∀ y ∈ ys, y < 256) ∧ Hid (Told S k (k + 1) q ys) ∧ Hid (wr.ownsRow w.heap.size 3 1 (.slice (some ⟨g, 0, none⟩) N N) N (ys.map nv)) ∧ Hid (KeepsBut g W4 wr) ∧ Hid (Below w.heap.size w wr)) (fun _ i _ => N - (intOf i).toNat)
  case atStart => exact ⟨0, 0, List.replicate N 0, Nat.zero_le _, rfl, rfl, Nat.zero_le _, (fun y hy => by rw [List.eq_of_mem_replicate hy]; decide), hT0, OG4.out, KeepsBut.refl _ _, BB4.out⟩
  case round =>
    clear hT0
    obtain ⟨i, q, ys, hi, rfl, rfl, hq, hys, htold, how, hkp, hbl⟩ := hrel
    by_cases hlt : i < N
    · have hib : (i : Int) < (N : Int) := by omega
      go_wp2
      go_loopw [10, 12] (fun at_ b wr2 => ∃ (j q : Nat) (ys : List Nat), i + 1 ≤ j ∧ j ≤ N ∧ b = .int .i64 j ∧ at_ = .int .i64 q ∧ q ≤ R.size ∧ Hid (∀ y ∈ ys, y < 256) ∧ Hid (Told S i j q ys) ∧ Hid (wr2.ownsRow w.heap.size 3 1 (.slice (some ⟨g, 0, none⟩) N N) N (ys.map nv)) ∧ Hid (KeepsBut g W4 wr2) ∧ Hid (Below w.heap.size w wr2)) (fun _ b _ => N - (intOf b).toNat)
      case atStart => exact ⟨i + 1, q, ys, Nat.le_refl _, hlt, by go_num, rfl, hq, hys, htold, how, hkp, hbl⟩
      case round =>
        clear hq hys htold how hkp hbl
        obtain ⟨j, q, ys, hj1, hj, rfl, rfl, hq, hys, htold, how, hkp, hbl⟩ := hrel
        by_cases hlt2 : j < N
        · have hjb : (j : Int) < (N : Int) := by omega
          by_cases hqr : q < R.size
          · have hqb : (q : Int) < (R.size : Int) := by omega
            have hd0 := (XF4.out.but hkp.out hfg.out).c0
            have hd1 := (XF4.out.but hkp.out hfg.out).c1
            have hchr : Hid (∀ l, IsText S l → (((R[q]).toNat : Int) == 49) = bt l i j) := by
              intro l hl
              obtain ⟨h1, h2⟩ := HG.out l hl
              obtain ⟨h3, _⟩ := htold.out l hl
              have h4 := (pre2_at l i j hj1 (by omega)).2
              rw [← h3] at h4
              rw [tl_at h2 hqr h4]
              exact bitc_one _
            obtain ⟨cc, hcc⟩ : ∃ cc : Int, cc = ((R[q]).toNat : Int) := ⟨_, rfl⟩
            rw [← hcc] at hchr
            cases hone : (cc == 49)
            · have hstep : Hid (Told S i (j + 1) (q + 1) (ys.set j (ys.getD j 0 ||| 2 ^ i))) := by
                intro l hl
                obtain ⟨h1, _⟩ := HG.out l hl
                obtain ⟨h3, h4⟩ := htold.out l hl
                have hb := hchr.out l hl
                rw [hone] at hb
                subst h4
                refine ⟨by rw [pre2_succ l i j hj1, h3], ?_⟩
                exact ((tellL_step hl.1 (by omega) (by omega) (by omega)).2 hb.symm).1
              have hone' : (((R[q]).toNat : Int) == 49) = false := by rw [← hcc]; exact hone
              have hys2 : Hid (∀ y ∈ ys.set j (ys.getD j 0 ||| 2 ^ i), y < 256) := set_lt256 j i (by omega) hys.out
              clear hcc hone hchr htold
              go_wp2_with fail
              refine (addWin_g w.heap.size g N N j i ys _ (by omega) hlt2 (by omega) hys.out hbl.out.size how.out).mono ?_
              rintro e w6 ⟨⟨v, rfl⟩, ho6, hb6, hg6⟩
              have G1 := Lib.hid ho6
              have G2 := Lib.hid (hkp.out.trans (KeepsBut.grown hg6))
              have G3 := Lib.hid (hbl.out.trans hb6)
              clear ho6 hb6 hg6 hd0 hd1 how hkp hbl hone'
              go_wp2
              go_roundw
              case rel => exact ⟨j + 1, q + 1, _, by omega, by omega, by go_num, by go_num, by omega, hys2, hstep, G1, G2, G3⟩
              case measure => simp [intOf]; omega
            · have hstep : Hid (Told S i (j + 1) (q + 1) (ys.set i (ys.getD i 0 ||| 2 ^ j))) := by
                intro l hl
                obtain ⟨h1, _⟩ := HG.out l hl
                obtain ⟨h3, h4⟩ := htold.out l hl
                have hb := hchr.out l hl
                rw [hone] at hb
                subst h4
                refine ⟨by rw [pre2_succ l i j hj1, h3], ?_⟩
                exact ((tellL_step hl.1 (by omega) (by omega) (by omega)).1 hb.symm).1
              have hone' : (((R[q]).toNat : Int) == 49) = true := by rw [← hcc]; exact hone
              have hys2 : Hid (∀ y ∈ ys.set i (ys.getD i 0 ||| 2 ^ j), y < 256) := set_lt256 i j (by omega) hys.out
              clear hcc hone hchr htold
              go_wp2_with fail
              refine (addWin_g w.heap.size g N N i j ys _ (by omega) hlt (by omega) hys.out hbl.out.size how.out).mono ?_
              rintro e w6 ⟨⟨v, rfl⟩, ho6, hb6, hg6⟩
              have G1 := Lib.hid ho6
              have G2 := Lib.hid (hkp.out.trans (KeepsBut.grown hg6))
              have G3 := Lib.hid (hbl.out.trans hb6)
              clear ho6 hb6 hg6 hd0 hd1 how hkp hbl hone'
              go_wp2
              go_roundw
              case rel => exact ⟨j + 1, q + 1, _, by omega, by omega, by go_num, by go_num, by omega, hys2, hstep, G1, G2, G3⟩
              case measure => simp [intOf]; omega
          · have hqb : ¬ (q : Int) < (R.size : Int) := by omega
            have hstep : Hid (Told S (i + 1) (i + 2) q ys) := by
              intro l hl
              obtain ⟨h1, h2⟩ := HG.out l hl
              obtain ⟨h3, _⟩ := htold.out l hl
              have h4 := (pre2_at l i j hj1 (by omega)).1
              rw [← h3, ← h2] at h4
              exact absurd (by rw [Lib.size_eq]; exact h4) hqr
            clear htold
            go_wp2
            go_roundw
            case rel => exact ⟨i + 1, q, ys, by omega, by go_num, rfl, hq, hys, hstep, how, hkp, hbl⟩
            case measure => simp [intOf]; omega
        · obtain rfl : j = N := by omega
          have hjb : ¬ (j : Int) < (j : Int) := by omega
          have hstep : Hid (Told S (i + 1) (i + 2) q ys) := by
            intro l hl
            obtain ⟨h1, _⟩ := HG.out l hl
            obtain ⟨h3, h4⟩ := htold.out l hl
            rw [h1] at h3 h4
            rw [pre2_next] at h3
            rw [tellL_next hl.1 (by omega) (by omega)] at h4
            exact ⟨h3, h4⟩
          clear htold
          go_wp2
          go_roundw
          case rel => exact ⟨i + 1, q, ys, by omega, by go_num, rfl, hq, hys, hstep, how, hkp, hbl⟩
          case measure => simp [intOf]; omega
    · obtain rfl : i = N := by omega
      have hylen : ys.length = i := by have := how.out.1; simpa using this
      have hmap : (ys.map Int.ofNat).length = i := by rw [List.length_map]; exact hylen
      have how2 : Hid (wr.ownsRow w.heap.size 3 1 (.slice (some ⟨g, 0, none⟩) i i) i ((ys.map Int.ofNat).map iv)) := by have := how.out; rw [nv_iv] at this; exact this
      have hird := IntRow.of_own (l := ys.map Int.ofNat) (cap := i) (by rw [hmap]; exact how2.out)
      have hd0 := (XF4.out.but hkp.out hfg.out).c0
      have hd1 := (XF4.out.but hkp.out hfg.out).c1
      have xrz := XR4.out.but hkp.out hrg.out
      have HIR := Lib.hid hird
      have hfc := fun (W : World) (hi : IntRow W (some ⟨g, 0, none⟩) (ys.map Int.ofNat)) (ht : HasTab W) => implFormat (i : Int) (some ⟨g, 0, none⟩) (ys.map Int.ofNat) i W hi (by rw [hmap]; unfold maxLen; omega) ht
      rw [hmap] at hfc
      obtain ⟨F, hF⟩ : ∃ F : ByteArray, F = ⟨(fmtR (i : Int) (ys.map Int.ofNat)).toArray⟩ := ⟨_, rfl⟩
      rw [← hF] at hfc
      have HFC : Hid (∀ W, IntRow W (some ⟨g, 0, none⟩) (ys.map Int.ofNat) → HasTab W → Calls Tryd.prog 17 #[.agg #[.int .i64 (i : Int), .slice (some ⟨g, 0, none⟩) i i]] W fun e w' => e = .returned (.string F) ∧ Below W.heap.size W w') := hfc
      have hcand : ∀ l, IsText S l → l = ys.map Int.ofNat := by
        intro l hl
        obtain ⟨h1, _⟩ := HG.out l hl
        obtain ⟨_, h4⟩ := htold.out l hl
        rw [h4, h1, tellL_end hl.1]
      have htr := HTw.out.below hbl.out
      have HTR := Lib.hid htr
      have hne := no_empty HP.out
      clear htr hfc hird
      by_cases hgood : ∃ l, IsText S l
      · obtain ⟨l, hl⟩ := hgood
        have hle := hcand l hl
        subst hle
        obtain ⟨hp1, hp2⟩ := parse_yes hl
        have hFs : F = s := by
          rw [hF]
          apply str_eq_of
          rw [← HS.out]
          have := text_fmt hl
          rw [hmap] at this
          exact this
        subst hFs
        have HL : Hid (parseL S = ys.map Int.ofNat) := hp1
        have HB : Hid (parseB S = true) := hp2
        have HM := Lib.hid hmap
        have HO2 := Lib.hid how2.out
        clear hp1 hp2 hF hcand hl htold hne how how2 hmap hylen hys HC HG HP HPI
        go_wp2_with fail
        refine (HFC.out wr HIR.out HTR.out).mono ?_
        rintro e w5 ⟨rfl, hb5⟩
        have x5 := xrz.below hb5 xrz.lt
        have o5 := own_below HO2.out hb5
        have xf5 := (XF4.out.but hkp.out hfg.out).below hb5 (XF4.out.but hkp.out hfg.out).lt
        have b5 := hbl.out.trans (hb5.mono hbl.out.size)
        have O5 := Lib.hid o5
        have X5 := Lib.hid x5
        have B5 := Lib.hid b5
        clear hd0 hd1
        have hd0 := xf5.c0
        have hd1 := xf5.c1
        have e0 := x5.c0
        have e1 := x5.c1
        have e2 := x5.f0
        have e3 := x5.f1
        clear o5 x5 b5 xf5 hb5 xrz
        go_wp2
        refine bodyPost_ret (v := .tuple #[.agg #[.int .i64 i, .slice (some ⟨g, 0, none⟩) i i], .bool true]) (Box.res2 rfl _ rfl rfl ((X5.out.set0 _).set1 _)) rfl ?_
        refine ⟨⟨some ⟨g, 0, none⟩, i, ?_, ?_⟩, ?_⟩
        · rw [HL.out, HB.out, HM.out]
        · rw [HL.out, HM.out]
          exact own_other (own_other O5.out ⟨w.heap.size, 0, none⟩ _ (fun e => hrg.out e.symm)) ⟨w.heap.size, 1, none⟩ _ (fun e => hrg.out e.symm)
        · exact (B5.out.setCell (p := ⟨w.heap.size, 0, none⟩) (Nat.le_refl _) _).setCell (p := ⟨w.heap.size, 1, none⟩) (Nat.le_refl _) _
      · have hno : ∀ l, ¬ IsText S l := fun l hl => hgood ⟨l, hl⟩
        have HL : Hid (parseL S = []) := (parse_no hno).1
        have HB : Hid (parseB S = false) := (parse_no hno).2
        have hFne : (F.toList == s.toList) = false := by
          apply bne_str
          intro e
          have e2 : fmtR (i : Int) (ys.map Int.ofNat) = S := by
            have := congrArg (fun b : ByteArray => b.data.toList) e
            rw [hF] at this
            rw [HS.out]; exact this
          rw [← hmap] at e2
          exact hno _ (fmt_text hne e2)
        clear hno hgood hF hcand htold hne how how2 hmap hylen hys HC HG HP HPI
        go_wp2_with fail
        refine (HFC.out wr HIR.out HTR.out).mono ?_
        rintro e w5 ⟨rfl, hb5⟩
        have x5 := xrz.below hb5 xrz.lt
        have b5 := hbl.out.trans (hb5.mono hbl.out.size)
        have X5 := Lib.hid x5
        have B5 := Lib.hid b5
        clear hd0 hd1
        have e0 := x5.c0
        have e1 := x5.c1
        have e2 := x5.f0
        have e3 := x5.f1
        clear x5 b5 hb5 xrz
        go_wp2
        refine bodyPost_ret (v := .tuple #[.agg #[.int .i64 0, .slice none 0 0], .bool false]) (Box.res2 rfl _ rfl rfl ((X5.out.set0 _).set1 _)) rfl ⟨⟨none, 0, ?_, ?_⟩, ?_⟩
        · rw [HL.out, HB.out]; rfl
        · rw [HL.out]; exact World.ownsRow_nil _ _ _ _
        · exact (B5.out.setCell (p := ⟨w.heap.size, 0, none⟩) (Nat.le_refl _) _).setCell (p := ⟨w.heap.size, 1, none⟩) (Nat.le_refl _) _
end Go.Proofs.YtepladakcepgdaaDoor
