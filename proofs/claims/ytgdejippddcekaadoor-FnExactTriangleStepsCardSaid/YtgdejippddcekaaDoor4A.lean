/-
  Both 'FormatTour': the tour's text. The program's one wants the library's table of powers of ten. No conditions else but the bounds that Go gives a slice.
-/
import Derived.Test.YtgdejippddcekaaDoorF
import Derived.Test.YtgdejippddcekaaDoorKb
import Derived.Lib.ItoaLen
namespace Go.Proofs.YtgdejippddcekaaDoor
open Go.ChangeShapes Go.WideShapes Go.ChangeAt Go.RowKit
set_option linter.unusedVariables false

theorem IsBuilder.below {B b : Nat} {bs : List Value} {w w' : World} (h : Lib.IsBuilder 62 5 B b bs w) (hb : Below w.heap.size w w') : Lib.IsBuilder 62 5 B b bs w' := by
  have key : ∀ {p : Value}, Lib.BuilderAt 62 5 B b p bs w → Lib.BuilderAt 62 5 B b p bs w' := by
    intro p k
    have hlt := k.lt
    obtain ⟨h1, v, h2, h3, h4⟩ := k
    exact ⟨h1, v, (hb.block b hlt).trans h2, own_below h3 hb, h4⟩
  exact h.imp key key

set_option maxRecDepth 100000 in
set_option maxHeartbeats 2000000 in
theorem writeByte (B b : Nat) (bs : List Value) (c : Int) (w : World) (h : Lib.IsBuilder 62 5 B b bs w) (hlen : bs.length + 1 ≤ 140737488355328) (hBw : B ≤ w.heap.size) :
    Calls Tryd.prog 44 #[.pointer (some ⟨b, 0, none⟩), .int .u8 c] w fun e w' => e = .returned .nilIface ∧ (Lib.BuilderAt 62 5 B b (.pointer (some ⟨b, 0, none⟩)) (bs ++ [.int .u8 c]) w' ∧ Below B w w') := by
  obtain ⟨i0, hi, hz0, hz1, hz2⟩ := info_parts infoByte
  go_enter Tryd.func44, Tryd.ntmps44
  go_wp2_with (go_at_call 54; refine (copyCheck B b bs _ h).mono ?_)
  rintro e w1 ⟨rfl, h1, hb1⟩
  obtain ⟨hB, v, hbk, hown, hne⟩ := h1
  have c0 : w1.cell? ⟨b, 0, none⟩ = some (.pointer (some ⟨b, 0, none⟩)) := by rw [Lib.cell_of_heap hbk]; rfl
  have c1 : w1.cell? ⟨b, 1, none⟩ = some v := by rw [Lib.cell_of_heap hbk]; rfl
  have hlt : b < w1.heap.size := by
    rcases Nat.lt_or_ge b w1.heap.size with h' | h'
    · exact h'
    · simp [Array.getElem?_eq_none h'] at hbk
  have HBK := Lib.hid hbk
  go_wp2_with (at_builtin; refine wpList_append_own _ rfl _ _ 60 rfl B 5 i0 (.int .u8 0) 1 1 Tryd.underlying60 hi hz0 hz1 hz2 rfl (by decide) _ _ _ rfl (hown.alloc _) ⟨_, 0, none⟩ 1 1 [.int .u8 c] rfl rfl ?c1 ?c2 ?c3 ?c4 ?c5 ?_)
  case c1 =>
    intro j u hj
    match j, hj with
    | 0, hj => simp at hj; subst hj; simp [Addr.add]
  case c2 => intro u hu; simp at hu; subst hu; rfl
  case c3 => unfold maxLen; omega
  case c4 => omega
  case c5 => have := hb1.size; simp; omega
  intro v' w2 hown' hgrow _
  have hb2 : w2.heap[b]? = some (.cells #[.pointer (some ⟨b, 0, none⟩), v] 62 (0, 0)) := by
    rw [hgrow.block b (by simp; omega) (fun e => hne e.symm)]
    exact (Below.heap_alloc w1 _ b hlt).trans HBK.out
  have d0 : w2.cell? ⟨b, 0, none⟩ = some (.pointer (some ⟨b, 0, none⟩)) := by rw [Lib.cell_of_heap hb2]; rfl
  have d1 : w2.cell? ⟨b, 1, none⟩ = some v := by rw [Lib.cell_of_heap hb2]; rfl
  have f1 : w2.frozen? ⟨b, 1, none⟩ = false := Lib.frozen_of_heap hb2 1
  obtain ⟨ao, n', cap, rfl⟩ : ∃ ao n' cap, v' = .slice ao n' cap := by
    rcases hown'.2 with ⟨hv, _⟩ | ⟨g, cap, cur, hv, _⟩
    · exact ⟨_, _, _, hv⟩
    · exact ⟨_, _, _, hv⟩
  go_wp2
  go_ret
  refine ⟨rfl, ?_, ?_⟩
  · exact Lib.BuilderAt.put (T := 62) (e := 5) hB hb2 (bs' := bs ++ [.int .u8 c]) (by simpa using hown') (by decide)
  · exact ((hb1.alloc (by have := hb1.size; omega) _).grown hgrow (by have := hb1.size; simp; omega) (fun k hk => (hown.lt k hk).1)).setCell (p := ⟨b, 1, none⟩) hB _

/-- A result's letter. -/
def bitc (b : Bool) : UInt8 := if b then 49 else 48
def rowBits (l : List Int) (i j : Nat) : List UInt8 := (List.range (j - (i + 1))).map fun d => bitc (bt l i (i + 1 + d))
theorem rowBits_zero (l : List Int) (i : Nat) : rowBits l i (i + 1) = [] := by simp [rowBits]
theorem rowBits_succ (l : List Int) (i j : Nat) (h : i + 1 ≤ j) : rowBits l i (j + 1) = rowBits l i j ++ [bitc (bt l i j)] := by
  unfold rowBits
  rw [show j + 1 - (i + 1) = (j - (i + 1)) + 1 by omega, List.range_succ, List.map_append, List.map_singleton, show i + 1 + (j - (i + 1)) = j by omega]
theorem rowBits_len (l : List Int) (i j : Nat) : (rowBits l i j).length = j - (i + 1) := by simp [rowBits]
def rowsTo (l : List Int) (m : Nat) : List UInt8 := (List.range m).flatMap fun a => rowBits l a l.length
theorem rowsTo_zero (l : List Int) : rowsTo l 0 = [] := rfl
theorem rowsTo_succ (l : List Int) (m : Nat) : rowsTo l (m + 1) = rowsTo l m ++ rowBits l m l.length := by simp [rowsTo, List.range_succ]
theorem rowsTo_len (l : List Int) (m : Nat) : (rowsTo l m).length ≤ m * l.length := by
  induction m with
  | zero => simp [rowsTo]
  | succ m ih =>
    rw [rowsTo_succ, List.length_append, rowBits_len, Nat.succ_mul]
    omega
/-- The text of a valid tour up to row i, and in row i up to column j. -/
def fmtTo (l : List Int) (i : Nat) (x : List UInt8) : List UInt8 := Lib.itoa (l.length : Int) ++ [58] ++ rowsTo l i ++ x
noncomputable def fmtR (n : Int) (l : List Int) : List UInt8 := if okB n l then fmtTo l l.length [] else []
theorem fmtTo_next (l : List Int) (i : Nat) : fmtTo l (i + 1) [] = fmtTo l i (rowBits l i l.length) := by
  unfold fmtTo; rw [rowsTo_succ]; simp
theorem fmtTo_snoc (l : List Int) (i : Nat) (x : List UInt8) (c : UInt8) : fmtTo l i (x ++ [c]) = fmtTo l i x ++ [c] := by
  unfold fmtTo; rw [List.append_assoc _ x [c]]
theorem fmtTo_len (l : List Int) (h8 : l.length ≤ 8) (i : Nat) (hi : i ≤ 8) (x : List UInt8) (hx : x.length ≤ 8) : (fmtTo l i x).length ≤ 200 := by
  unfold fmtTo
  have h1 := Lib.itoa_length_le (l.length : Int) (by omega) (by omega)
  have h2 := rowsTo_len l i
  have h3 : i * l.length ≤ 64 := Nat.mul_le_mul hi h8
  simp only [List.length_append, List.length_singleton]
  omega

set_option maxHeartbeats 1000000 in
theorem implFormat (n : Int) (a : Option Addr) (l : List Int) (cap : Nat) (w : World) (hrow : IntRow w a l) (hl : l.length ≤ maxLen) (ht : HasTab w) :
    Calls Tryd.prog 28 #[.agg #[.int .i64 n, .slice a l.length cap]] w fun e w' => e = .returned (.string ⟨(fmtR n l).toArray⟩) ∧ Below w.heap.size w w' := by
  obtain ⟨Wa, hWa⟩ : ∃ Wa, Wa = w.alloc (.cells #[.int .i64 n, .slice a l.length cap] 27) := ⟨_, rfl⟩
  have HWa := Lib.hid hWa
  have hba : Below w.heap.size w Wa := by rw [hWa]; exact (Below.refl _ _).alloc (Nat.le_refl _) _
  have xa : Box Wa w.heap.size 27 (.int .i64 n) (.slice a l.length cap) := by rw [hWa]; exact Box.new _ _ _ _
  have hrowa : IntRow Wa a l := hrow.below hba (Nat.le_refl _)
  have HL := Lib.hid hl
  clear hl hrow hWa
  cases hok : okB n l
  · have HO := Lib.hid hok
    have HE : Hid (fmtR n l = []) := by show _ = _; unfold fmtR; rw [hok]; rfl
    clear hok
    go_enter Tryd.func28, Tryd.ntmps28
    go_wp2_with fail
    rw [← HWa.out]
    refine (implTourOk n a l cap Wa hrowa HL.out).mono ?_
    rintro e w1 ⟨rfl, hb1⟩
    rw [HO.out]
    go_wp2
    go_ret
    exact ⟨by rw [HE.out]; rfl, hba.trans (hb1.mono hba.size)⟩
  have HO := Lib.hid hok
  have hk := okB_iff.1 hok
  have h8 : l.length ≤ 8 := by have := hk.2.1; have := hk.2.2.1; omega
  have h1 : 0 < l.length := by have := hk.1; have := hk.2.2.1; omega
  obtain rfl : n = (l.length : Int) := hk.2.2.1.symm
  have HE : Hid (fmtR l.length l = fmtTo l l.length []) := by show _ = _; unfold fmtR; rw [hok]; rfl
  have hta := ht.below hba
  clear hok hk ht
  go_enter Tryd.func28, Tryd.ntmps28
  go_wp2_with fail
  rw [← HWa.out]
  refine (implTourOk _ a l cap Wa hrowa HL.out).mono ?_
  rintro e w1 ⟨rfl, hb1⟩
  rw [HO.out]
  have xa1 := xa.below hb1 xa.lt
  have hrow1 := hrowa.below hb1 (Nat.le_refl _)
  have ht1 := hta.below hb1
  have hB1 := hba.trans (hb1.mono hba.size)
  have hlt1 : w.heap.size < w1.heap.size := xa1.lt
  obtain ⟨W1, hW1⟩ : ∃ W1, W1 = w1.alloc (.cells #[.pointer none, .slice none 0 0] 62) := ⟨_, rfl⟩
  have hbW : Below w1.heap.size w1 W1 := by rw [hW1]; exact (Below.refl _ _).alloc (Nat.le_refl _) _
  have hBd : Lib.IsBuilder 62 5 w1.heap.size w1.heap.size [] W1 := by rw [hW1]; exact Lib.fresh_isBuilder 62 5 w1
  have HW := Lib.hid hW1
  have c0 := (xa1.below hbW hlt1).c0
  have htW := ht1.below hbW
  have XX := Lib.hid xa1
  have HIR := Lib.hid hrow1
  rw [hW1] at c0
  clear hW1 xa xa1 hrowa hrow1 hba hb1 hta ht1
  go_wp2_with fail
  rw [← HW.out]
  refine (implFmt (l.length : Int) W1 (by omega) (by omega) htW).mono ?_
  rintro e w2 ⟨rfl, hb2⟩
  have hBd2 := IsBuilder.below hBd hb2
  have hB2 : Below w1.heap.size w1 w2 := hbW.trans (hb2.mono hbW.size)
  have hil : (Lib.itoa (l.length : Int)).length ≤ 21 := Lib.itoa_length_le _ (by omega) (by omega)
  have hsz : (⟨(Lib.itoa (l.length : Int)).toArray⟩ : ByteArray).size ≤ 21 := by rw [Lib.size_eq]; simpa using hil
  clear c0 hBd hbW hb2
  go_wp2_with fail
  refine (writeString w1.heap.size w1.heap.size [] _ w2 hBd2 (by simp; omega) hB2.size).mono ?_
  rintro e w3 ⟨rfl, hBd3, hb3⟩
  have hB3 := hB2.trans hb3
  clear hBd2 hB2 hb3
  go_wp2_with fail
  refine (writeByte w1.heap.size w1.heap.size _ 58 w3 (.inr hBd3) (by rw [List.nil_append, Lib.strCells_eq, Lib.byteCells_length]; simp; omega) hB3.size).mono ?_
  rintro e w4 ⟨rfl, hBd4, hb4⟩
  have hB4 := hB3.trans hb4
  have hBd5 : Lib.IsBuilder 62 5 w1.heap.size w1.heap.size (Lib.byteCells (fmtTo l 0 [])) w4 := by
    have e : Lib.byteCells (fmtTo l 0 []) = [] ++ Lib.strCells ⟨(Lib.itoa (l.length : Int)).toArray⟩ ++ [.int .u8 58] := by
      unfold fmtTo; rw [rowsTo_zero, List.append_nil, List.append_nil, Lib.byteCells_append, Lib.strCells_eq]; rfl
    rw [e]; exact .inr hBd4
  have c0 := (XX.out.below hB4 hlt1).c0
  clear hBd3 hBd4 hB3 hb4
  go_wp2
  clear c0
  go_loopw [16] (fun i wr => ∃ k : Nat, k ≤ l.length ∧ i = .int .i64 k ∧ Lib.IsBuilder 62 5 w1.heap.size w1.heap.size (Lib.byteCells (fmtTo l k [])) wr ∧ Below w1.heap.size w1 wr) (fun i _ => l.length - (intOf i).toNat)
  case atStart => exact ⟨0, Nat.zero_le _, rfl, hBd5, hB4⟩
  case round =>
    clear hBd5 hB4
    obtain ⟨k, hk, rfl, hBk, hb⟩ := hrel
    by_cases hlt : k < l.length
    · have hki : (k : Int) < (l.length : Int) := by omega
      have hBk2 : Lib.IsBuilder 62 5 w1.heap.size w1.heap.size (Lib.byteCells (fmtTo l k (rowBits l k (k + 1)))) wr := by rw [rowBits_zero]; exact hBk
      have hb2 := hb
      clear hBk hb
      go_wp2
      go_loopw [5] (fun q W => ∃ j : Nat, k + 1 ≤ j ∧ j ≤ l.length ∧ q = .int .i64 j ∧ Lib.IsBuilder 62 5 w1.heap.size w1.heap.size (Lib.byteCells (fmtTo l k (rowBits l k j))) W ∧ Below w1.heap.size w1 W) (fun q _ => l.length - (intOf q).toNat)
      case atStart => exact ⟨k + 1, Nat.le_refl _, hlt, by go_num, hBk2, hb2⟩
      case round =>
        clear hBk2 hb2
        obtain ⟨j, hj1, hj, rfl, hBj, hb⟩ := hrel
        have c0 := (XX.out.below hb hlt1).c0
        have c1 := (XX.out.below hb hlt1).c1
        by_cases hjl : j < l.length
        · have hji : (j : Int) < (l.length : Int) := by omega
          have hir := HIR.out.below hb (Nat.le_refl _)
          have hlen := fmtTo_len l h8 k (by omega) (rowBits l k j) (by rw [rowBits_len]; omega)
          have hsn := Lib.hid (rowBits_succ l k j hj1)
          cases hbit : bt l k j
          · have HB := Lib.hid hbit
            clear hbit
            go_wp2_with fail
            refine (beats_any _ a l cap k j _ hir HL.out hlt (by omega)).mono ?_
            rintro e w6 ⟨rfl, hb6⟩
            rw [HB.out]
            have hBj6 := IsBuilder.below hBj hb6
            have hb7 := hb.trans (hb6.mono hb.size)
            clear c0 c1 hBj hb6 hir hb
            go_wp2_with fail
            refine (writeByte w1.heap.size w1.heap.size _ 48 w6 hBj6 (by rw [Lib.byteCells_length]; omega) hb7.size).mono ?_
            rintro e w8 ⟨rfl, hBj8, hb8⟩
            have hBj9 : Lib.IsBuilder 62 5 w1.heap.size w1.heap.size (Lib.byteCells (fmtTo l k (rowBits l k (j + 1)))) w8 := by
              rw [hsn.out, HB.out, fmtTo_snoc, Lib.byteCells_append]; exact .inr hBj8
            have hb9 := hb7.trans hb8
            have c0 := (XX.out.below hb9 hlt1).c0
            clear hBj8 hb7 hb8 hBj6
            go_wp2
            go_roundw
            case rel => exact ⟨j + 1, by omega, by omega, by go_num, hBj9, hb9⟩
            case measure => simp [intOf]; omega
          · have HB := Lib.hid hbit
            clear hbit
            go_wp2_with fail
            refine (beats_any _ a l cap k j _ hir HL.out hlt (by omega)).mono ?_
            rintro e w6 ⟨rfl, hb6⟩
            rw [HB.out]
            have hBj6 := IsBuilder.below hBj hb6
            have hb7 := hb.trans (hb6.mono hb.size)
            clear c0 c1 hBj hb6 hir hb
            go_wp2_with fail
            refine (writeByte w1.heap.size w1.heap.size _ 49 w6 hBj6 (by rw [Lib.byteCells_length]; omega) hb7.size).mono ?_
            rintro e w8 ⟨rfl, hBj8, hb8⟩
            have hBj9 : Lib.IsBuilder 62 5 w1.heap.size w1.heap.size (Lib.byteCells (fmtTo l k (rowBits l k (j + 1)))) w8 := by
              rw [hsn.out, HB.out, fmtTo_snoc, Lib.byteCells_append]; exact .inr hBj8
            have hb9 := hb7.trans hb8
            have c0 := (XX.out.below hb9 hlt1).c0
            clear hBj8 hb7 hb8 hBj6
            go_wp2
            go_roundw
            case rel => exact ⟨j + 1, by omega, by omega, by go_num, hBj9, hb9⟩
            case measure => simp [intOf]; omega
        · obtain rfl : j = l.length := by omega
          have hBn := hBj
          rw [← fmtTo_next] at hBn
          clear hBj
          go_wp2
          go_roundw
          case rel => exact ⟨k + 1, by omega, by go_num, hBn, hb⟩
          case measure => simp [intOf]; omega
    · obtain rfl : k = l.length := by omega
      go_wp2_with fail
      refine (Tryd.Builder_String_any w1.heap.size w1.heap.size _ _ hBk hb.size).mono ?_
      rintro e w6 ⟨rfl, hb6⟩
      go_wp2
      go_ret
      exact ⟨by rw [HE.out]; rfl, hB1.trans ((hb.trans hb6).mono hB1.size)⟩
end Go.Proofs.YtgdejippddcekaaDoor
