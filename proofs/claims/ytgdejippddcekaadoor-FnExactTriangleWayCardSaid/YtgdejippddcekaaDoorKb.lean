/-
  Both 'FormatInt': the decimal numeral of every int. They serve 'FnExactFormatInt', 'FnExactParseInt' and 'FnWords'. The program's one wants the library's table of powers of ten.
-/
import Derived.Test.YtgdejippddcekaaDoorKa
import Derived.Test.YtgdejippddcekaaDoorShelf
import Derived.Lib.ItoaNum
import Derived.Lib.ItoaMem
import Derived.Deep.RegionWith
import Derived.Lib.AppendIntMem
namespace Go.Proofs.YtgdejippddcekaaDoor
open Go.ChangeShapes Go.WideShapes Go.ChangeAt Go.RowKit
set_option linter.unusedVariables false

theorem dig_big {k : Nat} (h : 9 < k) : Lib.decDigits k = Lib.decDigits (k / 10) ++ [UInt8.ofNat (48 + k % 10)] := by
  rw [Lib.decDigits, dif_neg (by omega)]
theorem dig_one {k : Nat} (h : k ≤ 9) : Lib.decDigits k = [UInt8.ofNat (48 + k)] := Lib.decDigits_one (by omega)

theorem dig_len (k : Nat) : (Lib.decDigits k).length ≤ k + 1 := by
  induction k using Nat.strongRecOn with
  | ind k ih =>
    by_cases h : k ≤ 9
    · rw [dig_one h]; simp
    · rw [dig_big (by omega)]
      have := ih (k / 10) (by omega)
      simp
      omega
theorem conv_at (W : World) (b : Nat) (c : UInt8) (x : Int) (h : (c.toNat : Int) = x) (hc : W.cell? ⟨b, 0, none⟩ = some (.int .u8 x)) :
    (convert 60 9 (.slice (some ⟨b, 0, none⟩) 1 1)).run Tryd.prog W = .ok (.string ⟨#[c]⟩) W := by
  refine run_convert_bytes_back (P := Tryd.prog) _ 60 9 5 ⟨b, 0, none⟩ 1 [c] Tryd.underlying60 Tryd.underlying5 Tryd.underlying9 ?_
  intro j hj
  match j, hj with
  | 0, _ =>
    rw [Addr.add_zero', hc]
    simp [h]
theorem conv_one (W : World) (c : UInt8) (x : Int) (h : (c.toNat : Int) = x) :
    (convert 60 9 (.slice (some ⟨W.heap.size, 0, none⟩) 1 1)).run Tryd.prog (W.alloc (.cells #[.int .u8 x] 5)) = .ok (.string ⟨#[c]⟩) (W.alloc (.cells #[.int .u8 x] 5)) := by
  refine run_convert_bytes_back (P := Tryd.prog) _ 60 9 5 ⟨W.heap.size, 0, none⟩ 1 [c] Tryd.underlying60 Tryd.underlying5 Tryd.underlying9 ?_
  intro j hj
  match j, hj with
  | 0, _ =>
    rw [Addr.add_zero', cell_of_row _ _ _ _ _ _ (heap_alloc_new W _)]
    simp [h]
theorem u8_of {k : Nat} (h : k ≤ 9) : ((UInt8.ofNat (48 + k)).toNat : Int) = 48 + (k : Int) := by
  rw [UInt8.toNat_ofNat_of_lt' (by show _ < 256; omega)]; omega

/-- The world holds the library's table of powers of ten. -/
def HasTab (w : World) : Prop := Lib.TabIs Tryd.prog w "internal/strconv.uint64pow10" .u64 Lib.pow10Tab

theorem implFmt (n : Int) (w : World) (h0 : -9223372036854775808 ≤ n) (h1 : n ≤ 9223372036854775807) (ht : HasTab w) :
    Calls Tryd.prog 43 #[.int .i64 n] w fun e w' => e = .returned (.string ⟨(Lib.itoa n).toArray⟩) ∧ Below w.heap.size w w' := by
  go_enter Tryd.func43, Tryd.ntmps43
  go_wp2_with fail
  refine (Tryd.strconv_Itoa n h0 h1 w ht).mono ?_
  rintro e w' ⟨rfl, k, os, rfl⟩
  have hb := Lib.below_grow w.heap.size w (Nat.le_refl _) k os
  go_wp2
  go_ret
  exact ⟨rfl, hb⟩

theorem gPow : Tryd.prog.globalNamed "internal/strconv.uint64pow10" = some 0 := by kernel_rfl
theorem var_below {w w' : World} {name : String} {cs : Array Value} (h : w.var? Tryd.prog name = some cs) (hb : Below w.heap.size w w') : w'.var? Tryd.prog name = some cs := by
  unfold World.var? at h ⊢
  obtain ⟨g, hg, hc⟩ := Option.bind_eq_some_iff.1 h
  rw [hg, Option.bind_some]
  have hl : g < w.heap.size := by
    rcases Nat.lt_or_ge g w.heap.size with h' | h'
    · exact h'
    · rw [Array.getElem?_eq_none h'] at hc; simp at hc
  rw [hb.block g hl]
  exact hc
theorem HasTab.below {w w' : World} (h : HasTab w) (hb : Below w.heap.size w w') : HasTab w' := var_below h hb

end Go.Proofs.YtgdejippddcekaaDoor
