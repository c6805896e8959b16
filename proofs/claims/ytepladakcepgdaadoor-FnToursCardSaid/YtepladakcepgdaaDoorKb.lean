/-
  Both 'FormatInt': the decimal numeral of every int. They serve 'FnExactFormatInt', 'FnExactParseInt' and 'FnWords'. The program's one wants the library's table of powers of ten.
-/
import Derived.Test.YtepladakcepgdaaDoorKa
import Derived.Test.YtepladakcepgdaaDoorShelf
import Derived.Lib.ItoaNum
import Derived.Lib.ItoaMem
import Derived.Deep.RegionWith
import Derived.Lib.AppendIntMem
namespace Go.Proofs.YtepladakcepgdaaDoor
open Go.ChangeShapes Go.WideShapes Go.ChangeAt Go.RowKit
set_option linter.unusedVariables false

theorem dig_big {k : Nat} (h : 9 < k) : Lib.decDigits k = Lib.decDigits (k / 10) ++ [UInt8.ofNat (48 + k % 10)] := by
  rw [Lib.decDigits, dif_neg (by omega)]
theorem dig_one {k : Nat} (h : k ≤ 9) : Lib.decDigits k = [UInt8.ofNat (48 + k)] := Lib.decDigits_one (by omega)

theorem dig_len (k : Nat) : (Lib.decDigits k).length ≤ k + 1 := by
  induction k using Nat.strongRecOn with
  | ind k ih =>
    by_cases h : k ≤ 9
    · rw [dig_one h]; simp
    · rw [dig_big (by omega)]
      have := ih (k / 10) (by omega)
      simp
      omega
theorem conv_at (W : World) (b : Nat) (c : UInt8) (x : Int) (h : (c.toNat : Int) = x) (hc : W.cell? ⟨b, 0, none⟩ = some (.int .u8 x)) :
    (convert 22 9 (.slice (some ⟨b, 0, none⟩) 1 1)).run Tryd.prog W = .ok (.string ⟨#[c]⟩) W := by
  refine run_convert_bytes_back (P := Tryd.prog) _ 22 9 5 ⟨b, 0, none⟩ 1 [c] Tryd.underlying22 Tryd.underlying5 Tryd.underlying9 ?_
  intro j hj
  match j, hj with
  | 0, _ =>
    rw [Addr.add_zero', hc]
    simp [h]
theorem conv_one (W : World) (c : UInt8) (x : Int) (h : (c.toNat : Int) = x) :
    (convert 22 9 (.slice (some ⟨W.heap.size, 0, none⟩) 1 1)).run Tryd.prog (W.alloc (.cells #[.int .u8 x] 5)) = .ok (.string ⟨#[c]⟩) (W.alloc (.cells #[.int .u8 x] 5)) := by
  refine run_convert_bytes_back (P := Tryd.prog) _ 22 9 5 ⟨W.heap.size, 0, none⟩ 1 [c] Tryd.underlying22 Tryd.underlying5 Tryd.underlying9 ?_
  intro j hj
  match j, hj with
  | 0, _ =>
    rw [Addr.add_zero', cell_of_row _ _ _ _ _ _ (heap_alloc_new W _)]
    simp [h]
theorem u8_of {k : Nat} (h : k ≤ 9) : ((UInt8.ofNat (48 + k)).toNat : Int) = 48 + (k : Int) := by
  rw [UInt8.toNat_ofNat_of_lt' (by show _ < 256; omega)]; omega

set_option maxHeartbeats 1000000 in
theorem specFmtPos (m : Nat) (w : World) (h2 : m ≤ 9223372036854775807) :
    Calls Tryd.prog 52 #[.int .i64 m] w fun e w' => e = .returned (.string ⟨(Lib.decDigits m).toArray⟩) ∧ Below w.heap.size w w' := by
  have h0 : ¬ (m : Int) < 0 := by omega
  go_enter Tryd.func52, Tryd.ntmps52
  go_wp2
  go_loopw [0, 3] (fun n s wr => ∃ (k : Nat) (A : ByteArray), n = .int .i64 k ∧ s = .string A ∧ k + A.size ≤ m ∧ (A.size = 0 ∨ k + A.size + 1 ≤ m) ∧ Hid (Lib.decDigits k ++ A.data.toList = Lib.decDigits m) ∧ Below w.heap.size w wr) (fun n _ _ => (intOf n).toNat)
  case atStart => exact ⟨m, _, rfl, rfl, Nat.le_refl _, .inl rfl, by simp [Hid], Below.refl _ _⟩
  case round =>
    obtain ⟨k, A, rfl, rfl, hkA, hkB, hA, hb⟩ := hrel
    have hAs : A.size ≤ 9223372036854775806 := by omega
    have HB := Lib.hid hkB
    clear hkB
    by_cases hk : k ≤ 9
    · have hp : ¬ (9 : Int) < (k : Int) := by omega
      obtain ⟨c, hc⟩ : ∃ c : UInt8, c = UInt8.ofNat (48 + k) := ⟨_, rfl⟩
      have hcv := fun W => conv_one W c (48 + (k : Int)) (by rw [hc]; exact u8_of hk)
      have hE : Hid (⟨#[c]⟩ ++ A = ⟨(Lib.decDigits m).toArray⟩) := by
        refine of_data ?_
        rw [data_append, ← hA.out, dig_one hk, hc]
      have hb1 : Below w.heap.size w (wr.alloc (.cells #[.int .u8 (48 + (k : Int))] 5)) := hb.alloc hb.size _
      clear hc
      go_wp2
      go_ret
      exact ⟨by rw [← hE.out]; rfl, hb1⟩
    · have hp : (9 : Int) < (k : Int) := by omega
      obtain ⟨c, hc⟩ : ∃ c : UInt8, c = UInt8.ofNat (48 + k % 10) := ⟨_, rfl⟩
      have hcv := fun W => conv_one W c (48 + (k : Int) % 10) (by rw [hc, u8_of (by omega)]; omega)
      have hA1 : Hid (Lib.decDigits (k / 10) ++ (⟨#[c]⟩ ++ A : ByteArray).data.toList = Lib.decDigits m) := by
        show _ = _
        rw [data_append, ← hA.out, dig_big (by omega : 9 < k), hc, List.append_assoc]
      have hz1 : Hid ((⟨#[c]⟩ ++ A : ByteArray).size = A.size + 1) := by
        show _ = _
        rw [ByteArray.size_append]; show 1 + _ = _; omega
      have hb1 : Below w.heap.size w (wr.alloc (.cells #[.int .u8 (48 + (k : Int) % 10)] 5)) := hb.alloc hb.size _
      clear hc
      go_wp2
      exact ⟨⟨k / 10, _, by go_num, rfl, by rw [hz1.out]; omega, .inr (by rw [hz1.out]; omega), hA1, hb1⟩, by simp [intOf]; omega⟩

set_option maxHeartbeats 1000000 in
theorem specFmtNeg (m : Nat) : ∀ (w : World) (h1 : 1 ≤ m) (h2 : m ≤ 9223372036854775808),
    Calls Tryd.prog 52 #[.int .i64 (-(m : Int))] w fun e w' => e = .returned (.string ⟨(45 :: Lib.decDigits m).toArray⟩) ∧ Below w.heap.size w w' := by
  induction m using Nat.strongRecOn with
  | ind m ih =>
  intro w h1 h2
  have h0 : -(m : Int) < 0 := by omega
  by_cases hk : m ≤ 9
  · have hq : (-(m : Int)).tdiv 10 = 0 := by rw [Int.neg_tdiv, Int.tdiv_eq_ediv_of_nonneg (by omega)]; omega
    obtain ⟨c, hc⟩ : ∃ c : UInt8, c = UInt8.ofNat (48 + m) := ⟨_, rfl⟩
    have hcv := fun W => conv_one W c (48 + (m : Int)) (by rw [hc]; exact u8_of hk)
    have hE : Hid (⟨#[45]⟩ ++ ⟨#[c]⟩ = (⟨(45 :: Lib.decDigits m).toArray⟩ : ByteArray)) := by
      refine of_data ?_
      rw [data_append, dig_one hk, hc]; rfl
    have hb1 : Below w.heap.size w (w.alloc (.cells #[.int .u8 (48 + (m : Int))] 5)) := (Below.refl _ w).alloc (Nat.le_refl _) _
    clear hc
    go_enter Tryd.func52, Tryd.ntmps52
    go_wp2
    go_ret
    exact ⟨by rw [← hE.out]; rfl, hb1⟩
  · have hq : (-(m : Int)).tdiv 10 = -((m / 10 : Nat) : Int) := by rw [Int.neg_tdiv, Int.tdiv_eq_ediv_of_nonneg (by omega)]; omega
    have hq0 : ((-((m / 10 : Nat) : Int)) == 0) = false := by simp; omega
    have hr : (-(m : Int)).tmod 10 = -((m % 10 : Nat) : Int) := by rw [Int.neg_tmod, Int.tmod_eq_emod_of_nonneg (by omega)]; omega
    obtain ⟨q, hqq⟩ : ∃ q, q = m / 10 := ⟨_, rfl⟩
    obtain ⟨r, hrr⟩ : ∃ r, r = m % 10 := ⟨_, rfl⟩
    rw [← hqq] at hq hq0
    rw [← hrr] at hr
    obtain ⟨c, hc⟩ : ∃ c : UInt8, c = UInt8.ofNat (48 + r) := ⟨_, rfl⟩
    have hcn : (c.toNat : Int) = 48 + (r : Int) := by rw [hc]; exact u8_of (by omega)
    have hcv := fun W => conv_one W c (48 + (r : Int)) hcn
    have hg : ∀ W : World, W.cell? ⟨w.heap.size, 0, none⟩ = some (.int .u8 (48 + (r : Int))) → (convert 22 9 (.slice (some ⟨w.heap.size, 0, none⟩) 1 1)).run Tryd.prog W = .ok (.string ⟨#[c]⟩) W := fun W h => conv_at W _ c _ hcn h
    have hca : (w.alloc (.cells #[.int .u8 (48 + (r : Int))] 5)).cell? ⟨w.heap.size, 0, none⟩ = some (.int .u8 (48 + (r : Int))) := by rw [cell_of_row _ _ _ _ _ _ (heap_alloc_new w _)]; rfl
    have hcall := fun W => ih q (by omega) W (by omega) (by omega)
    obtain ⟨S, hS⟩ : ∃ S : ByteArray, S = ⟨(45 :: Lib.decDigits q).toArray⟩ := ⟨_, rfl⟩
    rw [← hS] at hcall
    have hE : Hid (S ++ ⟨#[c]⟩ = (⟨(45 :: Lib.decDigits m).toArray⟩ : ByteArray)) := by
      refine of_data ?_
      rw [data_append, hS, dig_big (by omega : 9 < m), hc, ← hqq, ← hrr]; rfl
    have HC : Hid (∀ W : World, Calls Tryd.prog 52 #[.int .i64 (-(q : Int))] W fun e w' => e = .returned (.string S) ∧ Below W.heap.size W w' ∧ (W.cell? ⟨w.heap.size, 0, none⟩ = some (.int .u8 (48 + (r : Int))) → w'.cell? ⟨w.heap.size, 0, none⟩ = some (.int .u8 (48 + (r : Int))))) := fun W =>
      (hcall W).mono fun e w' ⟨he, hb⟩ => ⟨he, hb, fun hc => by
        by_cases hl : w.heap.size < W.heap.size
        · rw [hb.cell (p := ⟨w.heap.size, 0, none⟩) hl]; exact hc
        · simp [World.cell?, Array.getElem?_eq_none (by omega : W.heap.size ≤ w.heap.size)] at hc⟩
    have hSz : ¬ 9223372036854775807 < S.size + (⟨#[c]⟩ : ByteArray).size := by
      have h1 := dig_len q
      have h2 : S.size = (Lib.decDigits q).length + 1 := by rw [hS, Lib.size_eq]; rfl
      show ¬ _ < S.size + 1
      omega
    have hSz2 : S.size ≤ 922337203685477583 := by
      have h1 := dig_len q
      have h2 : S.size = (Lib.decDigits q).length + 1 := by rw [hS, Lib.size_eq]; rfl
      omega
    have hq1 : 1 ≤ q := by omega
    have hq9 : q ≤ 922337203685477580 := by omega
    have hr9 : r ≤ 9 := by omega
    clear hc hcn hS hqq hrr ih hcall
    go_enter Tryd.func52, Tryd.ntmps52
    go_wp2
    have hw1 : IntKind.i64.wrap (-(q : Int)) = -(q : Int) := IntWalk.i64_in _ (by omega)
    have hw2 : IntKind.i64.wrap (-(r : Int)) = -(r : Int) := IntWalk.i64_in _ (by omega)
    have hw3 : IntKind.i64.wrap (48 - -(r : Int)) = 48 + (r : Int) := by rw [show (48 - -(r : Int)) = 48 + r by omega]; exact IntWalk.i64_in _ (by omega)
    have hw4 : IntKind.i64.wrap (48 + (r : Int)) = 48 + (r : Int) := IntWalk.i64_in _ (by omega)
    have hw5 : IntKind.u8.wrap (48 + (r : Int)) = 48 + (r : Int) := IntWalk.u8_in _ (by omega)
    go_region_with (go_at_call 52; refine (HC.out _).mono ?_; rintro e w' ⟨rfl, hbq, hkc⟩; try (simp only [World.cell?_drew, hca, true_implies] at hkc))
    all_goals
      go_wp2
      go_ret
      refine ⟨by rw [← hE.out]; rfl, ?_⟩
      first
        | exact ((Below.refl _ w).drew.trans hbq).alloc hbq.size _
        | exact (((Below.refl _ w).alloc (Nat.le_refl _) _).drew).trans (hbq.mono (Nat.le_of_lt (by show _ < (w.heap.push _).size; simp)))

theorem specFmt (n : Int) (w : World) (h0 : -9223372036854775808 ≤ n) (h1 : n ≤ 9223372036854775807) :
    Calls Tryd.prog 52 #[.int .i64 n] w fun e w' => e = .returned (.string ⟨(Lib.itoa n).toArray⟩) ∧ Below w.heap.size w w' := by
  by_cases h : n < 0
  · obtain ⟨m, rfl⟩ : ∃ m : Nat, n = -(m : Int) := ⟨n.natAbs, by omega⟩
    rw [Lib.itoa_neg m (by omega)]
    exact specFmtNeg m w (by omega) (by omega)
  · obtain ⟨m, rfl⟩ : ∃ m : Nat, n = (m : Int) := ⟨n.toNat, by omega⟩
    rw [Lib.itoa_nonneg]
    exact specFmtPos m w (by omega)


/-- The world holds the library's table of powers of ten. -/
def HasTab (w : World) : Prop := Lib.TabIs Tryd.prog w "internal/strconv.uint64pow10" .u64 Lib.pow10Tab

theorem implFmt (n : Int) (w : World) (h0 : -9223372036854775808 ≤ n) (h1 : n ≤ 9223372036854775807) (ht : HasTab w) :
    Calls Tryd.prog 44 #[.int .i64 n] w fun e w' => e = .returned (.string ⟨(Lib.itoa n).toArray⟩) ∧ Below w.heap.size w w' := by
  go_enter Tryd.func44, Tryd.ntmps44
  go_wp2_with fail
  refine (Tryd.strconv_Itoa n h0 h1 w ht).mono ?_
  rintro e w' ⟨rfl, k, os, rfl⟩
  have hb := Lib.below_grow w.heap.size w (Nat.le_refl _) k os
  go_wp2
  go_ret
  exact ⟨rfl, hb⟩

theorem gPow : Tryd.prog.globalNamed "internal/strconv.uint64pow10" = some 3 := by kernel_rfl
theorem var_below {w w' : World} {name : String} {cs : Array Value} (h : w.var? Tryd.prog name = some cs) (hb : Below w.heap.size w w') : w'.var? Tryd.prog name = some cs := by
  unfold World.var? at h ⊢
  obtain ⟨g, hg, hc⟩ := Option.bind_eq_some_iff.1 h
  rw [hg, Option.bind_some]
  have hl : g < w.heap.size := by
    rcases Nat.lt_or_ge g w.heap.size with h' | h'
    · exact h'
    · rw [Array.getElem?_eq_none h'] at hc; simp at hc
  rw [hb.block g hl]
  exact hc
theorem HasTab.below {w w' : World} (h : HasTab w) (hb : Below w.heap.size w w') : HasTab w' := var_below h hb

end Go.Proofs.YtepladakcepgdaaDoor
