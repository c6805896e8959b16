/-
  'MixStrategies' of the program and of the model. No conditions but the bounds that Go gives a slice.
-/
import Derived.Test.YtpndfmlkceplcaaYb
import Derived.Test.YtpndfmlkceplcaaG
import Derived.Deep.RegionWith
namespace Go.Proofs.Ytpndfmlkceplcaa
open Go.ChangeShapes Go.WideShapes Go.ChangeAt Go.RowKit
set_option linter.unusedVariables false

theorem own_atF {w : World} {B g n c : Nat} {L : List Int} (h : w.ownsRow B 3 1 (.slice (some ⟨g, 0, none⟩) n c) n (L.map iv)) {j : Nat} (hj : j < n) : w.cell? ⟨g, j, none⟩ = some (.int .i64 (L.getD j 0)) := by
  have hl : L.length = n := by have := h.1; simpa using this
  rw [h.cellAt j (by omega), List.getElem?_map, List.getD_eq_getElem?_getD, List.getElem?_eq_getElem (show j < L.length by omega)]; rfl
theorem zerosF (k : Nat) : (madeCells #[Value.int .i64 0] k).toList = (List.replicate k (0 : Int)).map iv := by
  rw [toList_madeCells_one]; simp [iv]
theorem own_nilF (W : World) (B : Nat) : W.ownsRow B 3 1 (.slice none 0 0) 0 (([] : List Int).map iv) := by
  first | exact World.ownsRow_nil _ _ _ | (refine ⟨rfl, .inl ⟨rfl, ?_⟩⟩; first | rfl | trivial | simp)
theorem rem_nat (p q : Nat) : Int.tmod (p : Int) (q : Int) = ((p % q : Nat) : Int) := by
  rw [Int.tmod_eq_emod_of_nonneg (by omega)]; simp
theorem quo_nat (p q : Nat) : Int.tdiv (p : Int) (q : Int) = ((p / q : Nat) : Int) := by
  rw [Int.tdiv_eq_ediv_of_nonneg (by omega)]; simp

set_option maxHeartbeats 400000 in
theorem l10Gcd_any (a b : Nat) (w : World) (ha : a ≤ 1000000000) (hb : b ≤ 1000000000) : Calls Try.prog 90 #[.int .i64 (a : Int), .int .i64 (b : Int)] w fun e w' => e = .returned (.int .i64 (Nat.gcd a b : Nat)) ∧ w = w' := by
  go_enter Try.func90, Try.ntmps90
  go_wp2
  go_loop [0, 1] (fun p q => ∃ x y : Nat, p = .int .i64 (x : Int) ∧ q = .int .i64 (y : Int) ∧ x ≤ 1000000000 ∧ y ≤ 1000000000 ∧ Hid (Nat.gcd x y = Nat.gcd a b)) (fun _ q => (intOf q).toNat)
  case atStart => exact ⟨a, b, rfl, rfl, ha, hb, rfl⟩
  case round =>
    obtain ⟨x, y, rfl, rfl, hx, hy, HG⟩ := hrel
    rcases Nat.eq_zero_or_pos y with h0 | h0
    · subst h0
      have HE : Hid (x = Nat.gcd a b) := by show _ = _; rw [← HG.out, Nat.gcd_zero_right]
      go_wp2
      go_ret
      exact ⟨by rw [← HE.out]; rfl, rfl⟩
    · obtain ⟨r, hr⟩ : ∃ r, r = x % y := ⟨_, rfl⟩
      have hlt : r < y := by rw [hr]; exact Nat.mod_lt _ h0
      have HE : Hid (Nat.gcd y r = Nat.gcd a b) := by
        show _ = _
        rw [← HG.out, hr, Nat.gcd_comm x y, Nat.gcd_comm y (x % y), ← Nat.gcd_rec]
      have hm : Int.tmod (x : Int) (y : Int) = (r : Int) := by rw [rem_nat, hr]
      have hy0 : ((y : Int) == 0) = false := by simpa using (by omega : ¬ y = 0)
      have hyp : (0 : Int) < (y : Int) := by omega
      clear hr
      go_wp2
      go_round
      case rel => exact ⟨y, r, rfl, rfl, hy, by omega, HE⟩
      case measure => simp [intOf]; omega
set_option maxHeartbeats 400000 in
theorem commonDivisor_any (a b : Nat) (w : World) (ha : a ≤ 1000000000) (hb : b ≤ 1000000000) : Calls Try.prog 144 #[.int .i64 (a : Int), .int .i64 (b : Int)] w fun e w' => e = .returned (.int .i64 (Nat.gcd a b : Nat)) ∧ Below w.heap.size w w' := by
  go_enter Try.func144, Try.ntmps144
  go_wp2
  go_loopw [0, 1] (fun p q wr => ∃ x y : Nat, p = .int .i64 (x : Int) ∧ q = .int .i64 (y : Int) ∧ x ≤ 1000000000 ∧ y ≤ 1000000000 ∧ Hid (Nat.gcd x y = Nat.gcd a b) ∧ Hid (Below w.heap.size w wr)) (fun _ q _ => (intOf q).toNat)
  case atStart => exact ⟨a, b, rfl, rfl, ha, hb, rfl, Below.refl _ _⟩
  case round =>
    obtain ⟨x, y, rfl, rfl, hx, hy, HG, B1⟩ := hrel
    rcases Nat.eq_zero_or_pos y with h0 | h0
    · subst h0
      have HE : Hid (x = Nat.gcd a b) := by show _ = _; rw [← HG.out, Nat.gcd_zero_right]
      go_wp2
      go_ret
      exact ⟨by rw [← HE.out]; rfl, B1.out⟩
    · obtain ⟨r, hr⟩ : ∃ r, r = x % y := ⟨_, rfl⟩
      have hlt : r < y := by rw [hr]; exact Nat.mod_lt _ h0
      have HE : Hid (Nat.gcd y r = Nat.gcd a b) := by
        show _ = _
        rw [← HG.out, hr, Nat.gcd_comm x y, Nat.gcd_comm y (x % y), ← Nat.gcd_rec]
      have hm : Int.tmod (x : Int) (y : Int) = (r : Int) := by rw [rem_nat, hr]
      have hy0 : ((y : Int) == 0) = false := by simpa using (by omega : ¬ y = 0)
      have hy1 : ((y : Int) != 0) = true := by simpa using (by omega : ¬ y = 0)
      have hyp : (0 : Int) < (y : Int) := by omega
      have B2 : Hid (Below w.heap.size w wr.drew) := B1.out.drew
      clear hr
      go_wp2
      go_region
      go_roundw
      case rel => exact ⟨_, _, _, _, _, _, _, _, ⟨y, r, rfl, rfl, hy, by omega, HE, B2⟩, rfl⟩
      case measure => simp [intOf]; omega

theorem isFactor_any (n : Int) (w : World) : Calls Try.prog 92 #[.int .i64 n] w fun e w' => e = .returned (.bool (decide (0 ≤ n) && decide (n ≤ 1000))) ∧ w = w' := by
  by_cases h0 : 0 ≤ n
  · go_enter Try.func92, Try.ntmps92
    go_wp2
    go_ret
    exact ⟨by simp [h0], rfl⟩
  · go_enter Try.func92, Try.ntmps92
    go_wp2
    go_ret
    exact ⟨by rw [decide_eq_false (Int.not_le.2 h0)]; rfl, rfl⟩

/-! What both sides answer. -/
def mxI (m n : Int) (xs ys : List Int) (i : Nat) : Int := m * xs.getD i 0 + n * ys.getD i 0
def mxB (m n : Int) (xs ys : List Int) : Bool := decide (xs.length = ys.length) && (isz xs.length && (xs.all wOk && (ys.all wOk && ((decide (0 ≤ m) && decide (m ≤ 1000)) && (decide (0 ≤ n) && decide (n ≤ 1000))))))
def mxU (m n : Int) (xs ys : List Int) (i : Nat) : Nat := (mxI m n xs ys i).toNat
def mxK (m n : Int) (xs ys : List Int) : Bool := mxB m n xs ys && decide (gq (mxU m n xs ys) xs.length ≠ 0)
def lowL (u : Nat → Nat) (k : Nat) : List Int := (List.range k).map fun i => ((u i / gq u k : Nat) : Int)
def mxL (m n : Int) (xs ys : List Int) : List Int := if mxK m n xs ys = true then lowL (mxU m n xs ys) xs.length else []
theorem mxL_len (m n : Int) (xs ys : List Int) : (mxL m n xs ys).length ≤ 8 := by
  unfold mxL
  split
  · rename_i h
    simp only [mxK, mxB, isz, Bool.and_eq_true, decide_eq_true_eq] at h
    simp [lowL]; omega
  · simp
theorem prod_bd {m x : Int} (h0 : 0 ≤ m) (h1 : m ≤ 1000) (g0 : 0 ≤ x) (g1 : x ≤ 100000) : 0 ≤ m * x ∧ m * x ≤ 100000000 :=
  ⟨Int.mul_nonneg h0 g0, Int.le_trans (Int.mul_le_mul h1 g1 g0 (by omega)) (by omega)⟩
theorem fst_of {a b : Bool} (h : (a && b) = false) (hb : b = true) : a = false := by cases a <;> simp_all

/-- 'inLowestTerms': a list of numbers of at least 0, by its naturals. -/
def lowOk (u : Nat → Nat) (k : Nat) : Bool := decide (gq u k ≠ 0)
def lowR (u : Nat → Nat) (k : Nat) : List Int := if lowOk u k = true then lowL u k else []
def fillQ (u : Nat → Nat) (g n k : Nat) : List Int := (List.range n).map fun i => if i < k then ((u i / g : Nat) : Int) else 0
theorem fillQ_len (u : Nat → Nat) (g n k : Nat) : (fillQ u g n k).length = n := by simp [fillQ]
theorem fillQ_set (u : Nat → Nat) (g n k : Nat) (h : k < n) : (fillQ u g n k).set k ((u k / g : Nat) : Int) = fillQ u g n (k + 1) := by
  apply List.ext_getElem (by simp [fillQ])
  intro i h1 h2
  rw [List.getElem_set]
  simp only [fillQ, List.getElem_map, List.getElem_range]
  by_cases e : k = i
  · subst e; rw [if_pos rfl, if_pos (Nat.lt_succ_self k)]
  · rw [if_neg e]
    by_cases c : i < k
    · rw [if_pos c, if_pos (by omega)]
    · rw [if_neg c, if_neg (by omega)]
theorem fillQ_zero (u : Nat → Nat) (g n : Nat) : fillQ u g n 0 = List.replicate n 0 := by
  apply List.ext_getElem (by simp [fillQ])
  intro i h1 h2
  simp [fillQ]
theorem fillQ_all (u : Nat → Nat) (n : Nat) : fillQ u (gq u n) n n = lowL u n := by
  apply List.ext_getElem (by simp [fillQ, lowL])
  intro i h1 h2
  simp only [fillQ, lowL, List.getElem_map, List.getElem_range]
  rw [if_pos (by simpa [lowL] using h2)]

set_option maxRecDepth 100000 in
set_option maxHeartbeats 2000000 in
theorem lowest_any (b : Option Addr) (c : Nat) (u : Nat → Nat) (k : Nat) (w : World) (hk8 : k ≤ 8) (hu : ∀ i, i < k → u i ≤ 1000000000) (hrow : IntRow w b ((List.range k).map fun i => (u i : Int))) :
    Calls Try.prog 93 #[.slice b k c] w fun e w' => (∃ a0 c0, e = .returned (.tuple #[.slice a0 (lowR u k).length c0, .bool (lowOk u k)]) ∧ w'.ownsRow w.heap.size 3 1 (.slice a0 (lowR u k).length c0) (lowR u k).length ((lowR u k).map iv)) ∧ Below w.heap.size w w' := by
  have HR : Hid (∀ (i : Nat) (W : World), Below w.heap.size w W → i < k → ∃ bb off, b = some ⟨bb, off, none⟩ ∧ W.cell? ⟨bb, off + i, none⟩ = some (.int .i64 (u i : Int))) := fun i W hW hi => by
    obtain ⟨bb, off, e, _, hc⟩ := (hrow.below hW (Nat.le_refl _)).at (show i < ((List.range k).map fun i => (u i : Int)).length by simpa using hi)
    refine ⟨bb, off, e, ?_⟩
    rw [hc, List.getD_eq_getElem?_getD, List.getElem?_map, List.getElem?_range hi]; rfl
  have HU := Lib.hid hu
  have HGL : Hid (∀ i, i ≤ k → gq u i ≤ 1000000000) := fun i hi => gq_le u _ i (fun j hj => hu j (by omega))
  clear hrow hu
  go_enter Try.func93, Try.ntmps93
  go_wp2
  go_loopw [4, 12] (fun s i wr => ∃ j : Nat, j ≤ k ∧ i = .int .i64 j ∧ s = .int .i64 (gq u j : Nat) ∧ Hid (Below w.heap.size w wr)) (fun _ i _ => k - (intOf i).toNat)
  case atStart => exact ⟨0, Nat.zero_le _, rfl, rfl, Below.refl _ _⟩
  case round =>
    obtain ⟨j, hj, rfl, rfl, B1⟩ := hrel
    by_cases hlt : j < k
    · have hji : (j : Int) < (k : Int) := by omega
      obtain ⟨bb, off, rfl, hc⟩ := HR.out j wr B1.out hlt
      have HC := Lib.hid (commonDivisor_any (gq u j) (u j) wr (HGL.out j hj) (HU.out j hlt))
      have HS : Hid (gq u (j + 1) = Nat.gcd (gq u j) (u j)) := rfl
      obtain ⟨g, hg⟩ : ∃ g, g = gq u j := ⟨_, rfl⟩
      obtain ⟨x, hx⟩ : ∃ x, x = u j := ⟨_, rfl⟩
      rw [← hg] at HC HS ⊢
      rw [← hx] at HC HS hc
      clear hg hx
      go_wp2_with fail
      refine HC.out.mono ?_
      rintro e w2 ⟨rfl, hb2⟩
      have B2 : Hid (Below w.heap.size w w2) := B1.out.trans (hb2.mono B1.out.size)
      clear hc hb2
      go_wp2
      go_roundw
      case rel => exact ⟨j + 1, by omega, by go_num, by rw [HS.out], B2⟩
      case measure => simp [intOf]; omega
    · obtain rfl : j = k := by omega
      rcases Nat.eq_zero_or_pos (gq u j) with h0 | h0
      · have HO : Hid (lowOk u j = false) := by show _ = _; simp [lowOk, h0]
        have HE : Hid (lowR u j = []) := by show _ = _; unfold lowR; rw [HO.out]; rfl
        have HQ := Lib.hid h0
        rw [h0]
        clear h0
        go_wp2
        go_ret2
        refine ⟨⟨none, 0, by rw [HE.out, HO.out]; rfl, ?_⟩, B1.out⟩
        rw [HE.out]; exact own_nilF _ _
      · have HO : Hid (lowOk u j = true) := by show _ = _; unfold lowOk; exact decide_eq_true (by omega)
        have HE : Hid (lowR u j = lowL u j) := by show _ = _; unfold lowR; rw [if_pos HO.out]
        have HEl : Hid ((lowR u j).length = j) := by show _ = _; rw [HE.out]; simp [lowL]
        have HF : Hid (fillQ u (gq u j) j j = lowL u j) := fillQ_all u j
        have hgl := HGL.out j (Nat.le_refl _)
        obtain ⟨g, hg⟩ : ∃ g, g = gq u j := ⟨_, rfl⟩
        rw [← hg] at h0 HF hgl ⊢
        have hg0 : ((g : Int) == 0) = false := by simpa using (by omega : ¬ g = 0)
        have hgp : (0 : Int) < (g : Int) := by omega
        obtain ⟨i0, hi, hz0, hz1, hz2⟩ := info_parts infoInt
        obtain ⟨cs, hcs⟩ : ∃ cs, cs = madeCells #[.int .i64 0] j := ⟨_, rfl⟩
        have hmk : ∀ W : World, (Instr.makeSlice 22 (.int .i64 (j : Int)) (.int .i64 (j : Int))).run Try.prog W = .ok (.slice (some ⟨W.heap.size, 0, none⟩) j j) (W.alloc (.cells cs 3)) := fun W => by
          rw [hcs]
          have := run_makeSlice (P := Try.prog) (w := W) 22 3 i0 (.int .i64 0) Try.underlying22 hi hz0 .i64 .i64 (j : Int) (j : Int) (by omega) (Int.le_refl _) (by rw [hz1]; simp; omega) (by rw [hz2]; omega) (by omega)
          rw [hz1] at this
          have e : (Value.int IntKind.i64 0).cells = #[.int .i64 0] := rfl
          simpa [e] using this
        obtain ⟨W2, hW2⟩ : ∃ W2, W2 = wr.alloc (.cells cs 3) := ⟨_, rfl⟩
        obtain ⟨q, hq⟩ : ∃ q, q = wr.heap.size := ⟨_, rfl⟩
        have hb2 : Below wr.heap.size wr W2 := by rw [hW2]; exact (Below.refl _ _).alloc (Nat.le_refl _) _
        have hwq : w.heap.size ≤ q := by rw [hq]; exact B1.out.size
        have hcz : cs.toList = (fillQ u g j 0).map iv := by rw [hcs, zerosF, fillQ_zero]
        have hcsz : cs.size = j := by have := congrArg List.length hcz; simpa [fillQ] using this
        have ho2 : W2.ownsRow w.heap.size 3 1 (.slice (some ⟨q, 0, none⟩) j j) j ((fillQ u g j 0).map iv) := by
          refine ⟨by simp [fillQ], .inr ⟨q, j, cs, rfl, hwq, ?_, Nat.le_refl _, by unfold maxLen; omega, by omega, ?_⟩⟩
          · rw [hW2, hq]; exact World.alloc_heap_new wr _
          · rw [Nat.mul_one, List.take_of_length_le (by rw [Array.length_toList, hcsz]; exact Nat.le_refl _)]; exact hcz
        have HW2 := Lib.hid hW2
        have O2 := Lib.hid ho2
        have B2 : Hid (Below w.heap.size w W2) := B1.out.trans (hb2.mono B1.out.size)
        clear hW2 hcz hcsz ho2 hb2 hcs hg
        go_wp2
        rw [← HW2.out, ← hq]
        clear hmk
        go_loopw [27] (fun i wr2 => ∃ x : Nat, x ≤ j ∧ i = .int .i64 x ∧ Hid (wr2.ownsRow w.heap.size 3 1 (.slice (some ⟨q, 0, none⟩) j j) j ((fillQ u g j x).map iv)) ∧ Hid (Below w.heap.size w wr2)) (fun i _ => j - (intOf i).toNat)
        case atStart => exact ⟨0, Nat.zero_le _, rfl, O2, B2⟩
        case round =>
          clear O2 B2 hq
          obtain ⟨x, hx, rfl, O1, B1⟩ := hrel
          by_cases hltx : x < j
          · have hxi : (x : Int) < (j : Int) := by omega
            obtain ⟨bb, off, rfl, hc⟩ := HR.out x wr B1.out hltx
            have hst := O1.out.stored x (iv ((u x / g : Nat) : Int))
            rw [← List.map_set, fillQ_set u g j x hltx] at hst
            have O3 := Lib.hid hst.1
            have B3 : Hid (Below w.heap.size w (wr.setCell ⟨q, x, none⟩ (.int .i64 ((u x / g : Nat) : Int)))) := B1.out.setCell (p := ⟨q, x, none⟩) hwq _
            have hcy := own_atF O1.out hltx
            have hfy := O1.out.frozenAt x
            have hux := HU.out x hltx
            obtain ⟨v, hv⟩ : ∃ v, v = u x := ⟨_, rfl⟩
            obtain ⟨d, hd⟩ : ∃ d, d = u x / g := ⟨_, rfl⟩
            have hdv : Int.tdiv (v : Int) (g : Int) = (d : Int) := by rw [quo_nat, hd, hv]
            have hdl : d ≤ 1000000000 := by rw [hd]; exact Nat.le_trans (Nat.div_le_self _ _) hux
            rw [← hd] at O3 B3
            rw [← hv] at hc hux
            clear hst hd hv O1 B1
            go_wp2
            go_roundw
            case rel => exact ⟨x + 1, by omega, by go_num, O3, B3⟩
            case measure => simp [intOf]; omega
          · obtain rfl : x = j := by omega
            rw [HF.out] at O1
            go_wp2
            go_ret2
            refine ⟨⟨some ⟨q, 0, none⟩, x, by rw [HEl.out, HO.out]; rfl, ?_⟩, B1.out⟩
            rw [HEl.out, HE.out]; exact O1.out
end Go.Proofs.Ytpndfmlkceplcaa
