/-
  'FnExactPadZeros': the program's PadZeros answers as the model's, for every string and every int. No conditions.
-/
import Derived.Test.YtocjbllblggplaaD
import Derived.Lib.FrozenHead
import Derived.Lib.Repeat
import Derived.Deep.DeepFit
import Derived.Deep.LoopGhost
import Derived.Laws.Cover1
import Derived.Test.YtocjbllblggplaaE
namespace Go.Proofs.Ytocjbllblggplaa
open Go.ChangeShapes Go.WideShapes Go.ChangeAt Go.RowKit
open Go.ChangeMaps (open_string shut_string)
set_option linter.unusedVariables false

/-- A builder that 'String' may have read: behind copyCheck it is a used one. -/
theorem copyCheckF (B b : Nat) (bs : List Value) (w : World) (h : Lib.IsBuilderF 44 5 B b bs w) :
    Calls Try.prog 41 #[.pointer (some ⟨b, 0, none⟩)] w fun e w' => e = .returned (.tuple #[]) ∧ (Lib.BuilderAtF 44 5 B b (.pointer (some ⟨b, 0, none⟩)) bs w' ∧ Below B w w') := by
  rcases h with h | h
  · refine (ccFresh b w h.cell0 h.shape h.frozen0).mono ?_
    rintro e w' ⟨rfl, rfl⟩
    exact ⟨rfl, h.used _, (Below.refl B w).setCell (p := ⟨b, 0, none⟩) h.1 _⟩
  · refine (ccUsed b w h.cell0).mono ?_
    rintro e w' ⟨rfl, rfl⟩
    exact ⟨rfl, h, Below.refl B _⟩

set_option maxHeartbeats 2000000 in
theorem writeStringF (B b : Nat) (bs : List Value) (s : ByteArray) (w : World) (h : Lib.IsBuilderF 44 5 B b bs w) (hlen : bs.length + s.size ≤ 140737488355328) (hBw : B ≤ w.heap.size) :
    Calls Try.prog 35 #[.pointer (some ⟨b, 0, none⟩), .string s] w fun e w' => e = .returned (.tuple #[.int .i64 s.size, .nilIface]) ∧ (Lib.BuilderAtF 44 5 B b (.pointer (some ⟨b, 0, none⟩)) (bs ++ Lib.strCells s) w' ∧ Below B w w') := by
  obtain ⟨i0, hi, hz0, hz1, hz2⟩ := info_parts infoByte
  go_enter Try.func35, Try.ntmps35
  go_wp2_with (go_at_call 41; refine (copyCheckF B b bs _ h).mono ?_)
  rintro e w1 ⟨rfl, h1, hb1⟩
  obtain ⟨hB, v, hbk, hown, hne⟩ := h1
  have c0 : w1.cell? ⟨b, 0, none⟩ = some (.pointer (some ⟨b, 0, none⟩)) := by rw [Lib.cell_of_heap hbk]; rfl
  have c1 : w1.cell? ⟨b, 1, none⟩ = some v := by rw [Lib.cell_of_heap hbk]; rfl
  go_wp2_with (at_builtin; refine Lib.wpList_append_own_stringF _ rfl _ _ 41 9 rfl B 5 i0 Try.underlying41 Try.underlying9 hi hz0 hz1 hz2 _ _ _ rfl hown s rfl ?c3 ?c4 ?c5 ?_)
  case c3 => unfold maxLen; omega
  case c4 => omega
  case c5 => have := hb1.size; omega
  intro v' w2 hown' hgrow _
  have hlt : b < w1.heap.size := by
    rcases Nat.lt_or_ge b w1.heap.size with h' | h'
    · exact h'
    · simp [Array.getElem?_eq_none h'] at hbk
  have hb2 : w2.heap[b]? = some (.cells #[.pointer (some ⟨b, 0, none⟩), v] 44 (0, 0)) := by
    rw [hgrow.block b hlt (fun e => hne e.symm)]
    exact hbk
  have d0 : w2.cell? ⟨b, 0, none⟩ = some (.pointer (some ⟨b, 0, none⟩)) := by rw [Lib.cell_of_heap hb2]; rfl
  have d1 : w2.cell? ⟨b, 1, none⟩ = some v := by rw [Lib.cell_of_heap hb2]; rfl
  have f1 : w2.frozen? ⟨b, 1, none⟩ = false := Lib.frozen_of_heap hb2 1
  obtain ⟨ao, n', cap, rfl⟩ : ∃ ao n' cap, v' = .slice ao n' cap := by
    rcases hown'.2 with ⟨hv, _⟩ | ⟨g, cap, cur, fz, hv, _⟩
    · exact ⟨_, _, _, hv⟩
    · exact ⟨_, _, _, hv⟩
  go_wp2
  go_ret2
  refine ⟨rfl, ?_, ?_⟩
  · exact Lib.BuilderAtF.put (T := 44) (e := 5) hB hb2 (bs' := bs ++ Lib.strCells s) (by simpa [Lib.strCells_length] using hown') (by decide)
  · exact (hb1.grown hgrow (by have := hb1.size; omega) (fun k hk => (hown.lt k hk).1)).setCell (p := ⟨b, 1, none⟩) hB _

/-- m zeros. -/
def zer (m : Nat) : List UInt8 := List.replicate m 48

theorem lenF (B b : Nat) (bs : List Value) (n : Nat) (w : World) (h : Lib.IsBuilderF 44 5 B b bs w) (hn : bs.length = n) : Calls Try.prog 40 #[.pointer (some ⟨b, 0, none⟩)] w fun e w' => e = .returned (.int .i64 n) ∧ w = w' :=
  (Try.Builder_Len_f B b bs w h).mono fun e w' ⟨he, hw⟩ => ⟨by rw [he, hn], hw.symm⟩
theorem zer_add (q c : Nat) : zer q ++ zer c = zer (q + c) := by simp [zer]

theorem hpF (x : ByteArray) (w : World) (h : Lib.hasPrefix x.data.toList [48] = false) : Calls Try.prog 38 #[.string x, .string ⟨#[48]⟩] w fun e w' => e = .returned (.bool false) ∧ w = w' :=
  (Try.strings_HasPrefix x ⟨#[48]⟩ w).mono fun e w' ⟨he, hw⟩ => ⟨by rw [he]; exact congrArg (fun b => Ending.returned (.bool b)) h, hw.symm⟩
theorem hpT (x : ByteArray) (w : World) (h : Lib.hasPrefix x.data.toList [48] = true) : Calls Try.prog 38 #[.string x, .string ⟨#[48]⟩] w fun e w' => e = .returned (.bool true) ∧ w = w' :=
  (Try.strings_HasPrefix x ⟨#[48]⟩ w).mono fun e w' ⟨he, hw⟩ => ⟨by rw [he]; exact congrArg (fun b => Ending.returned (.bool b)) h, hw.symm⟩

set_option maxHeartbeats 2000000 in
set_option maxRecDepth 1000000 in
theorem repeatZeros (m : Nat) (w : World) (h1 : 2 ≤ m) (h2 : m ≤ 2000) :
    Calls Try.prog 33 #[.string ⟨#[48]⟩, .int .i64 m] w fun e w' => e = .returned (.string ⟨(zer m).toArray⟩) ∧ Below w.heap.size w w' := by
  have hMul : Calls Try.prog 37 #[.int .u64 1, .int .u64 m] w fun e w' => e = .returned (.tuple #[.int .u64 0, .int .u64 m]) ∧ w' = w := by
    have hM := Try.bits_Mul 1 m (by omega) (by omega) w
    rw [Nat.one_mul, Nat.div_eq_of_lt (by omega), Nat.mod_eq_of_lt (by omega)] at hM
    exact hM
  have HM := Lib.hid hMul
  clear hMul
  have n0 : ((m : Int) == 0) = false := by simp; omega
  have n1 : ((m : Int) == 1) = false := by simp; omega
  have hpos : ¬ (m : Int) < 0 := by omega
  have h63 : ¬ (9223372036854775807 : Int) < (m : Int) := by omega
  have g32 : ((((⟨#[48]⟩ : ByteArray)[0]).toNat : Int) == 32) = false := by decide
  have g45 : ((((⟨#[48]⟩ : ByteArray)[0]).toNat : Int) == 45) = false := by decide
  have g48 : ((((⟨#[48]⟩ : ByteArray)[0]).toNat : Int) == 48) = true := by decide
  have d63 : decide ((9223372036854775807 : Int) < (m : Int)) = false := by simp; omega
  have h8k : ¬ (8192 : Int) < (m : Int) := by omega
  have d8k : decide ((8192 : Int) < (m : Int)) = false := by simp; omega
  by_cases h64 : (m : Int) ≤ 64
  · have h128 : (m : Int) ≤ 128 := by omega
    have e64 : decide ((m : Int) ≤ 64) = true := by simp; omega
    have e128 : decide ((m : Int) ≤ 128) = true := by simp; omega
    go_enter Try.func33, Try.ntmps33
    go_wp2_with fail
    refine HM.out.mono ?_
    rintro e w' ⟨rfl, rfl⟩
    clear HM
    go_wp2_with fail
    refine (hpF _ _ (by rfl)).mono ?_
    rintro e w' ⟨rfl, rfl⟩
    go_wp2_with fail
    refine (hpF _ _ (by rfl)).mono ?_
    rintro e w' ⟨rfl, rfl⟩
    go_wp2_with fail
    refine (hpT _ _ (by rfl)).mono ?_
    rintro e w' ⟨rfl, rfl⟩
    go_wp2
    go_ret
    refine ⟨?_, Below.refl _ _⟩
    refine congrArg (fun x => Ending.returned (.string x)) (of_data ?_)
    rw [Lib.extract_data]
    show List.take (m - 0) (List.drop 0 (List.replicate 64 48)) = zer m
    rw [List.drop_zero, List.take_replicate, Nat.sub_zero, Nat.min_eq_left (by omega)]
    rfl
  · have e64 : decide ((m : Int) ≤ 64) = false := by simp; omega
    by_cases h128 : (m : Int) ≤ 128
    · have e128 : decide ((m : Int) ≤ 128) = true := by simp; omega
      go_enter Try.func33, Try.ntmps33
      go_wp2_with fail
      refine HM.out.mono ?_
      rintro e w' ⟨rfl, rfl⟩
      clear HM
      go_wp2_with fail
      refine (hpF _ _ (by rfl)).mono ?_
      rintro e w' ⟨rfl, rfl⟩
      go_wp2_with fail
      refine (hpF _ _ (by rfl)).mono ?_
      rintro e w' ⟨rfl, rfl⟩
      go_wp2_with fail
      refine (hpF _ _ (by rfl)).mono ?_
      rintro e w' ⟨rfl, rfl⟩
      go_wp2_with fail
      have b0 : Below w'.heap.size w' (w'.alloc (.cells #[.pointer none, .slice none 0 0] 44)) := (Below.refl _ w').alloc (Nat.le_refl _) _
      refine (Try.Builder_Grow_fresh w'.heap.size w'.heap.size m (w'.alloc (.cells #[.pointer none, .slice none 0 0] 44)) (Nat.le_refl _) (heap_alloc_new w' _) b0.size (by omega)).mono ?_
      rintro e W1 ⟨rfl, h1, b1⟩
      go_wp2_with fail
      refine (writeStringF w'.heap.size w'.heap.size [] ⟨#[48]⟩ W1 (Lib.IsBuilderF.of (Or.inr h1)) (by show 0 + 1 ≤ _; omega) (Nat.le_trans b0.size b1.size)).mono ?_
      rintro e W2 ⟨rfl, h2, b2⟩
      have h2' : Lib.IsBuilderF 44 5 w'.heap.size w'.heap.size (Lib.byteCells (zer 1)) W2 := .inr h2
      have b02 : Below w'.heap.size w' W2 := b0.trans (b1.trans b2)
      clear h1 h2 b0 b1 b2
      go_wp2_with fail
      go_loopg [] (m - 1) (fun g wx => ∃ q : Nat, 1 ≤ q ∧ q + g = m ∧ Lib.IsBuilderF 44 5 w'.heap.size w'.heap.size (Lib.byteCells (zer q)) wx ∧ Below w'.heap.size w' wx)
      case atStart => exact ⟨1, Nat.le_refl _, by omega, h2', b02⟩
      case round =>
        clear h2' b02
        obtain ⟨q, hq1, hqg, hB, hbx⟩ := hrel
        have hq2 : q ≤ 2000 := by omega
        have hlq : (Lib.byteCells (zer q)).length = q := by rw [Lib.byteCells_length]; simp [zer]
        have HL := Lib.hid (lenF w'.heap.size w'.heap.size _ q wr hB hlq)
        have HQ := Lib.hid hlq
        clear hlq
        by_cases hqm : q < m
        · have t1 : decide ((q : Int) < (m : Int)) = true := by simp; omega
          have t2 : (q : Int) < (m : Int) := by omega
          have G := Lib.hid hqg
          clear hqg
          obtain ⟨ch, hch⟩ : ∃ ch : Nat, ch = min (m - q) q := ⟨_, rfl⟩
          have hmin : ∀ (ts : Array TypeId) (t : TypeId) (W : World), (Builtin.min_ ts t #[.int .i64 ((m : Int) - (q : Int)), .int .i64 (q : Int), .int .i64 (m : Int)]).run Try.prog W = .ok (.int .i64 (ch : Int)) W := fun ts t W => by
            rw [run_min_int3]
            congr 2
            rw [hch]
            omega
          have hc1 : 1 ≤ ch := by omega
          have hc2 : ch ≤ q := by omega
          have hc3 : q + ch ≤ m := by omega
          clear hch
          obtain ⟨S, hS⟩ : ∃ S : ByteArray, S = (⟨(zer q).toArray⟩ : ByteArray) := ⟨_, rfl⟩
          have hSz : S.size = q := by rw [hS, Lib.size_eq]; simp [zer]
          have hSx : Hid (S.size = q) := hSz
          have hSd : Hid (S.data.toList = zer q) := by show _ = _; rw [hS]
          have hSge : (ch : Int) ≤ S.size := by omega
          have cStr := Try.Builder_String_any_f w'.heap.size w'.heap.size (zer q) wr hB hbx.size
          rw [← hS] at cStr
          have HST := Lib.hid cStr
          clear cStr hS hSz hB
          go_wp2_with fail
          refine HL.out.mono ?_
          rintro e w2 ⟨rfl, rfl⟩
          go_wp2_with fail
          refine HL.out.mono ?_
          rintro e w2 ⟨rfl, rfl⟩
          go_wp2_with fail
          refine HL.out.mono ?_
          rintro e w2 ⟨rfl, rfl⟩
          clear HL
          go_wp2_with fail
          refine HST.out.mono ?_
          rintro e W3 ⟨rfl, h3, b3⟩
          clear HST
          have hxd : Hid ((S.extract 0 ch).data.toList = zer ch) := by
            show _ = _
            rw [Lib.extract_data, hSd.out, List.drop_zero, Nat.sub_zero]
            simp [zer, Nat.min_eq_left hc2]
          have hxz : (Lib.byteCells (zer q)).length + (S.extract 0 ch).size ≤ 140737488355328 := by
            rw [HQ.out, Lib.size_eq, hxd.out]; simp [zer]; omega
          have HB := Lib.hid h3
          have HZ := Lib.hid hxz
          clear h3 hxz
          go_wp2_with fail
          refine (writeStringF w'.heap.size w'.heap.size _ (S.extract 0 ch) W3 HB.out HZ.out (Nat.le_trans hbx.size b3.size)).mono ?_
          rintro e W4 ⟨rfl, h4, b4⟩
          have h5 : Hid (Lib.IsBuilderF 44 5 w'.heap.size w'.heap.size (Lib.byteCells (zer (q + ch))) W4) := by
            rw [Lib.strCells_eq, ← Lib.byteCells_append, hxd.out, zer_add] at h4
            exact Or.inr h4
          clear h4 HB HZ HQ
          go_wp2
          go_roundg (m - (q + ch))
          case measure => have := G.out; omega
          case rel => exact ⟨q + ch, by omega, by omega, h5.out, hbx.trans (b3.trans b4)⟩
        · obtain rfl : q = m := by omega
          have t1 : decide ((q : Int) < (q : Int)) = false := by simp
          have cStr := Try.Builder_String_any_f w'.heap.size w'.heap.size (zer q) wr hB hbx.size
          have HST := Lib.hid cStr
          clear cStr hB hqg
          go_wp2_with fail
          refine HL.out.mono ?_
          rintro e w2 ⟨rfl, rfl⟩
          go_wp2_with fail
          refine HST.out.mono ?_
          rintro e W3 ⟨rfl, h3, b3⟩
          clear h3 HST HL
          go_wp2
          go_ret
          exact ⟨rfl, hbx.trans b3⟩
    · have e128 : decide ((m : Int) ≤ 128) = false := by simp; omega
      go_enter Try.func33, Try.ntmps33
      go_wp2_with fail
      refine HM.out.mono ?_
      rintro e w' ⟨rfl, rfl⟩
      clear HM
      go_wp2_with fail
      have b0 : Below w'.heap.size w' (w'.alloc (.cells #[.pointer none, .slice none 0 0] 44)) := (Below.refl _ w').alloc (Nat.le_refl _) _
      refine (Try.Builder_Grow_fresh w'.heap.size w'.heap.size m (w'.alloc (.cells #[.pointer none, .slice none 0 0] 44)) (Nat.le_refl _) (heap_alloc_new w' _) b0.size (by omega)).mono ?_
      rintro e W1 ⟨rfl, h1, b1⟩
      go_wp2_with fail
      refine (writeStringF w'.heap.size w'.heap.size [] ⟨#[48]⟩ W1 (Lib.IsBuilderF.of (Or.inr h1)) (by show 0 + 1 ≤ _; omega) (Nat.le_trans b0.size b1.size)).mono ?_
      rintro e W2 ⟨rfl, h2, b2⟩
      have h2' : Lib.IsBuilderF 44 5 w'.heap.size w'.heap.size (Lib.byteCells (zer 1)) W2 := .inr h2
      have b02 : Below w'.heap.size w' W2 := b0.trans (b1.trans b2)
      clear h1 h2 b0 b1 b2
      go_wp2_with fail
      go_loopg [] (m - 1) (fun g wx => ∃ q : Nat, 1 ≤ q ∧ q + g = m ∧ Lib.IsBuilderF 44 5 w'.heap.size w'.heap.size (Lib.byteCells (zer q)) wx ∧ Below w'.heap.size w' wx)
      case atStart => exact ⟨1, Nat.le_refl _, by omega, h2', b02⟩
      case round =>
        clear h2' b02
        obtain ⟨q, hq1, hqg, hB, hbx⟩ := hrel
        have hq2 : q ≤ 2000 := by omega
        have hlq : (Lib.byteCells (zer q)).length = q := by rw [Lib.byteCells_length]; simp [zer]
        have HL := Lib.hid (lenF w'.heap.size w'.heap.size _ q wr hB hlq)
        have HQ := Lib.hid hlq
        clear hlq
        by_cases hqm : q < m
        · have t1 : decide ((q : Int) < (m : Int)) = true := by simp; omega
          have t2 : (q : Int) < (m : Int) := by omega
          have G := Lib.hid hqg
          clear hqg
          obtain ⟨ch, hch⟩ : ∃ ch : Nat, ch = min (m - q) q := ⟨_, rfl⟩
          have hmin : ∀ (ts : Array TypeId) (t : TypeId) (W : World), (Builtin.min_ ts t #[.int .i64 ((m : Int) - (q : Int)), .int .i64 (q : Int), .int .i64 (m : Int)]).run Try.prog W = .ok (.int .i64 (ch : Int)) W := fun ts t W => by
            rw [run_min_int3]
            congr 2
            rw [hch]
            omega
          have hc1 : 1 ≤ ch := by omega
          have hc2 : ch ≤ q := by omega
          have hc3 : q + ch ≤ m := by omega
          clear hch
          obtain ⟨S, hS⟩ : ∃ S : ByteArray, S = (⟨(zer q).toArray⟩ : ByteArray) := ⟨_, rfl⟩
          have hSz : S.size = q := by rw [hS, Lib.size_eq]; simp [zer]
          have hSx : Hid (S.size = q) := hSz
          have hSd : Hid (S.data.toList = zer q) := by show _ = _; rw [hS]
          have hSge : (ch : Int) ≤ S.size := by omega
          have cStr := Try.Builder_String_any_f w'.heap.size w'.heap.size (zer q) wr hB hbx.size
          rw [← hS] at cStr
          have HST := Lib.hid cStr
          clear cStr hS hSz hB
          go_wp2_with fail
          refine HL.out.mono ?_
          rintro e w2 ⟨rfl, rfl⟩
          go_wp2_with fail
          refine HL.out.mono ?_
          rintro e w2 ⟨rfl, rfl⟩
          go_wp2_with fail
          refine HL.out.mono ?_
          rintro e w2 ⟨rfl, rfl⟩
          clear HL
          go_wp2_with fail
          refine HST.out.mono ?_
          rintro e W3 ⟨rfl, h3, b3⟩
          clear HST
          have hxd : Hid ((S.extract 0 ch).data.toList = zer ch) := by
            show _ = _
            rw [Lib.extract_data, hSd.out, List.drop_zero, Nat.sub_zero]
            simp [zer, Nat.min_eq_left hc2]
          have hxz : (Lib.byteCells (zer q)).length + (S.extract 0 ch).size ≤ 140737488355328 := by
            rw [HQ.out, Lib.size_eq, hxd.out]; simp [zer]; omega
          have HB := Lib.hid h3
          have HZ := Lib.hid hxz
          clear h3 hxz
          go_wp2_with fail
          refine (writeStringF w'.heap.size w'.heap.size _ (S.extract 0 ch) W3 HB.out HZ.out (Nat.le_trans hbx.size b3.size)).mono ?_
          rintro e W4 ⟨rfl, h4, b4⟩
          have h5 : Hid (Lib.IsBuilderF 44 5 w'.heap.size w'.heap.size (Lib.byteCells (zer (q + ch))) W4) := by
            rw [Lib.strCells_eq, ← Lib.byteCells_append, hxd.out, zer_add] at h4
            exact Or.inr h4
          clear h4 HB HZ HQ
          go_wp2
          go_roundg (m - (q + ch))
          case measure => have := G.out; omega
          case rel => exact ⟨q + ch, by omega, by omega, h5.out, hbx.trans (b3.trans b4)⟩
        · obtain rfl : q = m := by omega
          have t1 : decide ((q : Int) < (q : Int)) = false := by simp
          have cStr := Try.Builder_String_any_f w'.heap.size w'.heap.size (zer q) wr hB hbx.size
          have HST := Lib.hid cStr
          clear cStr hB hqg
          go_wp2_with fail
          refine HL.out.mono ?_
          rintro e w2 ⟨rfl, rfl⟩
          go_wp2_with fail
          refine HST.out.mono ?_
          rintro e W3 ⟨rfl, h3, b3⟩
          clear h3 HST HL
          go_wp2
          go_ret
          exact ⟨rfl, hbx.trans b3⟩
end Go.Proofs.Ytocjbllblggplaa
