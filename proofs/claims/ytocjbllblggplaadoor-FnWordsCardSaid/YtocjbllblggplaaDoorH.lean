/-
  'FnWords': integers are recovered from their text and strings from their parts, for every list of bytes from which the law draws its inputs. The row lists three tables and two error values of the standard library; the card ties them to the program's text. No other conditions.
-/
import Derived.Test.YtocjbllblggplaaDoorF
import Derived.Test.YtocjbllblggplaaDoorG
namespace Go.Proofs.YtocjbllblggplaaDoor
open Go.ChangeShapes Go.WideShapes Go.ChangeAt Go.RowKit
set_option linter.unusedVariables false

/-- One separator. -/
def one (c : UInt8) : ByteArray := ⟨#[c]⟩
theorem occ_one (c : UInt8) (x : Nat) : occB (one c) (one c).size x = decide (c.toNat = x) := by
  show occB (one c) (0 + 1) x = _
  rw [occB_succ (one c) 0 x (by show 0 < 1; omega), occB_zero]
  rfl

theorem jn_prefix (y : ByteArray) (l : List ByteArray) (x : ByteArray) : ∀ k, k ≤ l.length → jnTo y (l ++ [x]) k = jnTo y l k
  | 0, _ => rfl
  | k + 1, h => by
    have hk : k < l.length := h
    simp only [jnTo, jn_prefix y l x k (by omega)]
    congr 2
    rw [List.getD_eq_getElem?_getD, List.getD_eq_getElem?_getD, List.getElem?_append_left hk]
theorem jn_snoc (y : ByteArray) (l : List ByteArray) (x : ByteArray) : jnTo y (l ++ [x]) (l ++ [x]).length = (if l.length = 0 then [] else jnTo y l l.length ++ y.data.toList) ++ x.data.toList := by
  rw [List.length_append]
  show jnTo y (l ++ [x]) (l.length + 1) = _
  simp only [jnTo, jn_prefix y l x l.length (Nat.le_refl _)]
  congr 2
  rw [List.getD_eq_getElem?_getD, List.getElem?_append_right (Nat.le_refl _)]
  simp

theorem ext_snoc (s : ByteArray) (fr k : Nat) (hf : fr ≤ k) (hk : k < s.size) : (s.extract fr (k + 1)).data.toList = (s.extract fr k).data.toList ++ [s[k]] := by
  rw [Lib.extract_data, Lib.extract_data, show k + 1 - fr = (k - fr) + 1 by omega, List.take_succ_eq_append_getElem (by simp; exact (by have : s.data.size = s.size := rfl; omega))]
  congr 2
  simp only [List.getElem_drop, Array.getElem_toList]
  congr 1
  omega

theorem join_split_at (s : ByteArray) (c : UInt8) : ∀ k, k ≤ s.size → ∃ ps fr, spl s (one c) k = (ps, fr) ∧ fr ≤ k ∧ jnTo (one c) (ps ++ [s.extract fr k]) (ps ++ [s.extract fr k]).length = s.data.toList.take k
  | 0, _ => by
    refine ⟨[], 0, rfl, Nat.le_refl _, ?_⟩
    rw [jn_snoc]
    simp
  | k + 1, h => by
    have hk : k < s.size := h
    obtain ⟨ps, fr, h1, h2, h3⟩ := join_split_at s c k (by omega)
    have ht : s.data.toList.take (k + 1) = s.data.toList.take k ++ [s[k]] := by
      rw [List.take_succ_eq_append_getElem (by rw [← Lib.size_eq]; exact hk)]; rfl
    cases ho : occB (one c) (one c).size s[k].toNat
    · refine ⟨ps, fr, spl_miss s (one c) k ps fr h1 hk ho, by omega, ?_⟩
      rw [jn_snoc, ext_snoc s fr k h2 hk, ht, ← h3, jn_snoc, List.append_assoc]
    · refine ⟨ps ++ [s.extract fr k], k + 1, spl_hit s (one c) k ps fr h1 hk ho, Nat.le_refl _, ?_⟩
      rw [occ_one] at ho
      have hc : c = s[k] := UInt8.toNat_inj.1 (by simpa using ho)
      rw [jn_snoc, if_neg (by simp), h3, ht]
      have e1 : (one c).data.toList = [s[k]] := by rw [← hc]; rfl
      have e2 : (s.extract (k + 1) (k + 1)).data.toList = [] := by rw [Lib.extract_data]; simp
      rw [e1, e2, List.append_nil]
theorem join_split (s : ByteArray) (c : UInt8) : jnTo (one c) (splL s (one c)) (splL s (one c)).length = s.data.toList := by
  obtain ⟨ps, fr, h1, _, h3⟩ := join_split_at s c s.size (Nat.le_refl _)
  unfold splL
  rw [h1]
  simp only
  rw [h3, List.take_of_length_le (by rw [← Lib.size_eq]; exact Nat.le_refl _)]

theorem nam_x1 : nam ⟨#[120, 49]⟩ = true := by
  simp only [nam, decide_eq_true_iff]
  refine ⟨by decide, fun i hi => ?_⟩
  have hi2 : i < 2 := hi
  match i, hi2 with
  | 0, _ => exact (show okB 0 (120 : Int) = true by decide)
  | 1, _ => exact (show okB 1 (49 : Int) = true by decide)

theorem lines_two : (linesL ⟨#[97, 10, 98, 10]⟩).length = 2 := by
  have hs : (⟨#[97, 10, 98, 10]⟩ : ByteArray).size = 4 := rfl
  obtain ⟨S, hS⟩ : ∃ S : ByteArray, S = ⟨#[97, 10, 98, 10]⟩ := ⟨_, rfl⟩
  have k1 : spl S (one 10) 1 = ([], 0) := spl_miss S (one 10) 0 [] 0 rfl (by rw [hS]; decide) (by rw [occ_one]; subst hS; decide)
  have k2 : spl S (one 10) 2 = ([S.extract 0 1], 2) := spl_hit S (one 10) 1 [] 0 k1 (by rw [hS]; decide) (by rw [occ_one]; subst hS; decide)
  have k3 : spl S (one 10) 3 = ([S.extract 0 1], 2) := spl_miss S (one 10) 2 _ 2 k2 (by rw [hS]; decide) (by rw [occ_one]; subst hS; decide)
  have k4 : spl S (one 10) 4 = ([S.extract 0 1, S.extract 2 3], 4) := spl_hit S (one 10) 3 _ 2 k3 (by rw [hS]; decide) (by rw [occ_one]; subst hS; decide)
  have kz : S.size = 4 := by rw [hS]; rfl
  have kl : splL S ⟨#[10]⟩ = [S.extract 0 1, S.extract 2 3, S.extract 4 4] := by
    show splL S (one 10) = _
    unfold splL; rw [kz, k4]; rfl
  rw [← hS]
  unfold linesL
  rw [kl]
  have e : (([S.extract 0 1, S.extract 2 3, S.extract 4 4].getD ([S.extract 0 1, S.extract 2 3, S.extract 4 4].length - 1) ByteArray.empty).toList.isEmpty) = true := by
    show (S.extract 4 4).toList.isEmpty = true
    rw [ByteArray.toList_eq, Lib.extract_data]; simp
  rw [if_pos e]
  rfl

/-- A list of bytes that came in. -/
theorem openBytes {H : Type} {enc : TypeId × Value → H} {P : Program} {w : World} {base : Nat} {spare : Nat → Bool} {held : Bool} {t e : TypeId} {a : Option Addr} {len cap : Nat} {d : DataW H} {ps : List MemPlace}
    (ht : P.underlying t = some (.slice e)) (he : P.underlying e = some (.int .u8)) (hc : P.cellsOf e = 1)
    (h : DataW.Trod enc P w base spare held t (.slice a len cap) d ps) : len ≤ maxLen ∧ Row w.heap.size w a len := by
  obtain ⟨fuel, hf⟩ := h
  rcases open_ints ht he hc hf with ⟨hcs, _⟩ | ⟨x, n, c, zs, hcs, _, hl, hm, hz, _, hcell, hwz⟩
  · simp [Value.cells] at hcs
    obtain ⟨rfl, rfl, rfl⟩ := hcs
    exact ⟨by simp, .inl rfl⟩
  · simp [Value.cells] at hcs
    obtain ⟨rfl, rfl, rfl⟩ := hcs
    have hge : len ≤ zs.length := by rw [hz]; split <;> omega
    refine ⟨by omega, ?_⟩
    by_cases h0 : len = 0
    · exact .inl h0
    · obtain ⟨b, off, spot⟩ := x
      have hspot : spot = none := by simpa [Addr.add] using World.cell?_spot (hcell 0 (by omega))
      subst hspot
      have hb : b < w.heap.size := by
        have := hcell 0 (by omega)
        rcases Nat.lt_or_ge b w.heap.size with h' | h'
        · exact h'
        · simp [World.cell?, Addr.add, Array.getElem?_eq_none h'] at this
      refine .inr ⟨b, off, rfl, hb, fun j hj => ?_⟩
      have hj2 : j < zs.length := by omega
      have hcj := hcell j hj2
      have hm2 : zs.getD j 0 ∈ zs := by
        rw [List.getD_eq_getElem?_getD, List.getElem?_eq_getElem hj2]; exact List.getElem_mem hj2
      have hw : 0 ≤ zs.getD j 0 ∧ zs.getD j 0 ≤ 255 := by
        have := hwz _ hm2
        simpa [Lit.wf, IntKind.min, IntKind.max, IntKind.signed, IntKind.bits] using this
      refine ⟨(zs.getD j 0).toNat, by omega, ?_⟩
      rw [Int.toNat_of_nonneg hw.1]
      by_cases hj0 : j = 0
      · subst hj0; simpa [Addr.add] using hcj
      · simpa [Addr.add, hj0] using hcj

set_option maxHeartbeats 4000000 in
theorem walkFnWords (a : Option Addr) (len cap : Nat) (w : World) (hl : len ≤ maxLen) (hrow : Row w.heap.size w a len) (ht : HasTab w) (he : HasErrs w) :
    Calls Tryd.prog 3 #[.slice a len cap] w fun e w' => e = .returned (.bool true) ∧ Below w.heap.size w w' := by
  by_cases hbig : (1048576 : Int) < (len : Int)
  · unfold maxLen at hl
    clear hrow ht he
    go_enter Tryd.func3, Tryd.ntmps3
    go_wp2
    go_ret
    exact ⟨rfl, Below.refl _ _⟩
  · have hl20 : len ≤ 1048576 := by omega
    have HR := Lib.hid hrow
    have HT := Lib.hid ht
    have HE := Lib.hid he
    unfold maxLen at hl
    clear hrow ht he
    go_enter Tryd.func3, Tryd.ntmps3
    go_wp2_with fail
    refine (makeNum_any w.heap.size w a len cap 1 (by omega) hl20 (Nat.le_refl _) HR.out).mono ?_
    rintro e w1 ⟨x, hx, rfl, hb1⟩
    have ht1 := Lib.hid (HT.out.below hb1)
    have he1 := Lib.hid (HE.out.below hb1)
    obtain ⟨n, hn⟩ : ∃ n : Int, n = (x : Int) - 30000 := ⟨_, rfl⟩
    have hn0 : -9223372036854775808 ≤ n := by omega
    have hn1 : n ≤ 9223372036854775807 := by omega
    have hsub : (x : Int) - 30000 = n := hn.symm
    clear hn
    go_wp2_with fail
    refine (implFmt n w1 hn0 hn1 ht1.out).mono ?_
    rintro e w2 ⟨rfl, hb2⟩
    have b2 := hb1.trans (hb2.mono hb1.size)
    have ht2 := Lib.hid (ht1.out.below hb2)
    have he2 := Lib.hid (he1.out.below hb2)
    have hlen : (⟨(Lib.itoa n).toArray⟩ : ByteArray).size ≤ 1048576 := by
      have h19 := dec_len 18 n.natAbs (by simp; omega)
      rw [Lib.size_eq]
      show (Lib.itoa n).length ≤ _
      unfold Lib.itoa
      split
      · simp; omega
      · rw [show n.toNat = n.natAbs by omega]; omega
    have hpin : pin (⟨(Lib.itoa n).toArray⟩ : ByteArray).data.toList = (n, true) := pin_of ⟨hn0, hn1, rfl⟩
    have HP := Lib.hid (implParseInt ⟨(Lib.itoa n).toArray⟩ w2 hlen ht2.out he2.out)
    unfold PinPost at HP
    rw [hpin] at HP
    clear hpin hlen
    go_wp2_with fail
    refine HP.out.mono ?_
    rintro e w3 ⟨rfl, hb3⟩
    have b3 := b2.trans (hb3.mono b2.size)
    clear HP
    go_wp2_with fail
    refine (makeText_any w.heap.size w3 a len cap hl20 b3.size (HR.out.below b3)).mono ?_
    rintro e w4 ⟨s, hs, rfl, hb4⟩
    have b4 := b3.trans hb4
    go_wp2_with fail
    refine (implSplitAny s (one 32) w4 (by omega) (by unfold maxLen; decide)).mono ?_
    rintro e w5 ⟨⟨v, rfl, hown⟩, hb5⟩
    have b5 := b4.trans (hb5.mono b4.size)
    obtain ⟨hl1, hl2⟩ := splL_length s (one 32)
    obtain ⟨g, c, rfl⟩ := own_slice hown hl1
    have hrow5 := StrRow.of_own2 hown
    have hjs := join_split s 32
    have hj := implJoin (one 32) (some ⟨g, 0, none⟩) c (splL s (one 32)) w5 (by omega) hrow5 (by rw [hjs, ← Lib.size_eq]; omega)
    rw [hjs, Lib.mk_data] at hj
    have HJ := Lib.hid hj
    clear hown hrow5 hjs hj
    go_wp2_with fail
    refine HJ.out.mono ?_
    rintro e w6 ⟨rfl, hb6⟩
    have b6 := b5.trans (hb6.mono b5.size)
    clear HJ
    have hnm := implIsName ⟨#[120, 49]⟩ w6 (by unfold maxLen; decide)
    rw [nam_x1] at hnm
    have HN := Lib.hid hnm
    clear hnm
    go_wp2_with fail
    refine HN.out.mono ?_
    rintro e w7 ⟨rfl, hb7⟩
    have b7 := b6.trans (hb7.mono b6.size)
    clear HN
    go_wp2_with fail
    refine (implSplitLines ⟨#[97, 10, 98, 10]⟩ w7 (by decide)).mono ?_
    rintro e w8 ⟨g8, c8, rfl, _, hb8⟩
    rw [lines_two]
    have b8 := b7.trans (hb8.mono b7.size)
    go_wp2
    go_ret
    exact ⟨rfl, b8⟩
end Go.Proofs.YtocjbllblggplaaDoor
namespace Go.Proofs.YtocjbllblggplaaDoor.fnWords
open Go.ChangeShapes Go.WideShapes Go.ChangeAt Go.RowKit
open Go.ChangeMaps (open_string shut_string)
set_option linter.unusedVariables false

/-- What the walk gives, for every argument and every world in which the listed variables hold what the list says. -/
theorem contract (H : Type) (enc : TypeId × Value → H) (W : World) (base : Nat) (args : Array Value) (ds gs : List (DataW H)) (before : List MemPlace)
    (hval0 : ∀ (j : Nat) t v, Tryd.f3.params[j]? = some t → args[j]? = some v → Value.okWide Tryd.prog W .any base t v)
    (hW : DataW.Whole enc Tryd.prog Tryd.f3.params.toList Rows.fnWordsSpec.vars false W args.toList ds gs before) (hL : laidMetH Tryd.prog Rows.fnWordsRow.laid W) :
    Calls Tryd.prog 3 args W fun e W' => ∃ v, e = .returned v ∧ Rows.fnWordsSpec.post enc Tryd.prog Tryd.f3 false true false false W args v W' := by
  have hval : ∀ (j : Nat) t v, Tryd.f3.params[j]? = some t → args[j]? = some v → Value.okWide Tryd.prog W .any base t v := hval0
  have hW' := hW
  obtain ⟨p, q, hA0, hV, rfl, hfz, hnd⟩ := hW
  have hA : DataW.TrodAll enc Tryd.prog W 0 (fun _ => true) true Tryd.f3.params.toList args.toList ds p := hA0
  rw [Tryd.params3] at hA hval
  obtain ⟨v0, vs0, d0, ds0, p0, q0, hargs, rfl, rfl, h0, r0⟩ := trodAll_cons hA
  obtain ⟨rfl, rfl, rfl⟩ := trodAll_nil r0
  obtain rfl : args = #[v0] := by cases args; simp_all
  obtain ⟨rfl, rfl⟩ := trodVars_none hV
  obtain ⟨a0, len0, cap0, rfl⟩ := okWide_slice Tryd.underlying22 (hval 0 22 v0 rfl rfl)
  have k0 := h0
  have lt0 : ∀ x ∈ p0, x.block < W.heap.size := by obtain ⟨m, hm⟩ := k0; exact DataW.trod_lt m _ _ _ hm
  obtain ⟨hl0, hr0⟩ := openBytes Tryd.underlying22 Tryd.underlying5 (by kernel_rfl) h0
  clear hA0 hval0
  refine (walkFnWords a0 len0 cap0 W hl0 hr0 ((laidFive hL).1) ((laidFive hL).2)).mono fun e W' ⟨he, bel⟩ => ?_
  subst he
  exact ⟨_, rfl, _, _, _, [], _, [], hW', trodAll_mk1 (shut_bool Tryd.underlying4 _), (trodAll_cons_mk (Below.trod laidOut (by kernel_rfl) (of_decide_eq_true (by kernel_rfl)) k0 bel lt0) trodAll_mk0), rfl, bel.frame _, fun h => by cases h⟩

theorem laid_met (os : Os) : laidMetH Tryd.prog Rows.fnWordsRow.laid ((World.doorLaid Tryd.prog 400 os).forCall (fun _ _ => 0) ⟨#[], #[.slice none 0 0], []⟩).memory :=
  laidMetH_of_parts3 (fuel := 8) (laidMet_of_run' 8 (by kernel_rfl) (by kernel_rfl)) (by kernel_rfl) (by kernel_rfl)
theorem reads (os : Os) {H : Type} (enc : TypeId × Value → H) : ∃ places, DataW.whole enc Tryd.prog ((World.doorLaid Tryd.prog 400 os).forCall (fun _ _ => 0) ⟨#[], #[.slice none 0 0], []⟩).memory Tryd.f3.params.toList Rows.fnWordsSpec.vars false #[Value.slice none 0 0].toList 8 = some ([.nil], [], places) :=
  ⟨[], by kernel_rfl⟩

set_option maxRecDepth 100000 in
theorem lifted (os : Os) (started : os.Started) (H : Type) (enc : TypeId × Value → H) (F : Stop.Interp) :
    ReturnsInHanded {} Tryd.checked os 3 .any ((OpenSpec.ofChange Rows.fnWordsSpec).preRow enc Tryd.prog Tryd.f3 Rows.fnWordsRow.domain false Rows.fnWordsRow.laid) (((OpenSpec.ofChange Rows.fnWordsSpec).at F).post enc Tryd.prog Tryd.f3 false true false false) := by
  obtain ⟨places, hx⟩ := reads os enc
  refine returnsInHanded_of_row (C := Tryd.checked) (s := OpenSpec.ofChange Rows.fnWordsSpec) own started (by kernel_rfl) Tryd.func3
    (witness_row_atRef (enc := enc) (C := Tryd.checked) false (World.doorLaid Tryd.prog 400 os) #[.slice none 0 0] rfl (by kernel_rfl) (by kernel_rfl) (by kernel_rfl)
      (OpenSpec.preRow_of_cond 8 hx (by kernel_rfl) (fun k hk => by cases hk) (by kernel_rfl) (laid_met os))) ?_
  intro W base args ds gs before hval hW _ _ _ hL _ _
  exact contract H enc W base args ds gs before hval hW hL

theorem said : Rows.FnWordsSaid :=
  OpenClaim.holds_of_cond 3 Tryd.f3 rfl rfl rfl rfl rfl rfl rfl ⟨rfl, rfl, rfl, rfl, rfl⟩ rfl rfl rfl rfl rfl (by kernel_rfl) Tryd.func3 (by kernel_rfl)
    (of_decide_eq_true (by kernel_rfl)) (by unfold Func.isWrapper; first | (rw [if_pos (by decide +kernel)]; kernel_rfl) | (rw [if_neg (by decide +kernel)]; exact ⟨rfl, rfl⟩))
    (fun os started H enc _ F => by rw [OpenClaim.pre_eq_preRow]; exact lifted os started H enc F)

theorem plain (f : FuncId) (fn : Func) (hf : Tryd.pinned.checked.prog.funcNamed "loop.example/g03205/laws.FnWords" = some f) (hfn : Tryd.pinned.checked.prog.funcs[f]? = some fn) :
    true = Tryd.pinned.checked.prog.looks [] ∧ ∀ (j : Nat) t, fn.params[j]? = some t → Tryd.pinned.checked.prog.wantsStandIn t = false := by
  obtain rfl : f = 3 := Option.some.inj ((show Tryd.prog.funcNamed "loop.example/g03205/laws.FnWords" = some 3 by kernel_rfl).symm.trans hf) |>.symm
  obtain rfl : fn = Tryd.f3 := (Option.some.inj (Tryd.func3.symm.trans hfn)).symm
  refine ⟨by kernel_rfl, fun j t ht => ?_⟩
  rw [Tryd.params3] at ht
  obtain rfl : t = 22 := by simpa using Array.mem_of_getElem? ht
  exact (show Tryd.prog.wantsStandIn 22 = false by kernel_rfl)

/-- The card. -/
theorem proved : Rows.FnWordsCardSaid :=
  Claim7.holds_tied_plain_at .later [] _ _ _ _ said (fun _ h => by cases h) (by kernel_rfl) (fun _ h => by cases h) fnWords_row_tie rfl ⟨rfl, rfl⟩ (by kernel_rfl) rfl plain (by kernel_rfl)
end Go.Proofs.YtocjbllblggplaaDoor.fnWords
