/-
  'FnExactParseTour': the program's ParseTour answers as the model's for every string, and what it returns shares no memory with a second answer. The row lists three tables and two error values of the standard library; the card ties them to the program's text. No other conditions.
-/
import Derived.Test.YtnlbijmkehijiaaDoor4G
import Derived.Test.YtnlbijmkehijiaaDoorC
import Derived.Test.YtnlbijmkehijiaaDoorG
import Derived.Test.YtnlbijmkehijiaaDoorCards
import Derived.Test.YtnlbijmkehijiaaDoorTie
import Derived.Deep.DeepHandedRow
import Derived.Deep.DeepWitnessRowRef
import Derived.Lib.LaidTab
import Derived.LaidMore
import Derived.MakeChecks
namespace Go.Proofs.YtnlbijmkehijiaaDoor
open Go.ChangeShapes Go.WideShapes Go.ChangeAt Go.RowKit
set_option linter.unusedVariables false

theorem tPow : (Tryd.prog.globals[3]?).map (·.type) = some 127 := by kernel_rfl
theorem cells85 : Tryd.prog.cellsOf 127 = 20 := by kernel_rfl
theorem cells66 : Tryd.prog.cellsOf 97 = 1 := by kernel_rfl
theorem powData : (Rows.laid_internal_strconv_uint64pow10 : DataW Unit) = Lib.tabData .u64 Lib.pow10Tab := by kernel_rfl
theorem gSyn : Tryd.prog.globalNamed "strconv.ErrSyntax" = some 1 := by kernel_rfl
theorem gRan : Tryd.prog.globalNamed "strconv.ErrRange" = some 2 := by kernel_rfl
theorem tSyn : (Tryd.prog.globals[1]?).map (·.type) = some 70 := by kernel_rfl
theorem tRan : (Tryd.prog.globals[2]?).map (·.type) = some 70 := by kernel_rfl
/-- What the list of the five variables gives. -/
theorem laidFive {W : World} (h : laidMetH Tryd.prog Rows.fnExactParseTourRow.laid W) : HasTab W ∧ HasErrs W := by
  rw [MakeChecks.laidMetH_plain _ _ _ (by kernel_rfl)] at h
  obtain ⟨ps, ⟨g0, t0, cs0, f0, p0, q0, hg0, ht0, hv0, hd0, ⟨g1, t1, cs1, f1, p1, q1, hg1, ht1, hv1, hd1, ⟨g2, t2, cs2, f2, p2, q2, hg2, ht2, hv2, hd2, ⟨g3, t3, cs3, f3, p3, q3, hg3, ht3, hv3, hd3, ⟨g4, t4, cs4, f4, p4, q4, hg4, ht4, hv4, hd4, _⟩, _⟩, _⟩, _⟩, _⟩, _⟩ := h
  obtain rfl := Option.some.inj (gPow.symm.trans hg2)
  obtain rfl := Option.some.inj (tPow.symm.trans ht2)
  obtain rfl := Option.some.inj (gRan.symm.trans hg3)
  obtain rfl := Option.some.inj (tRan.symm.trans ht3)
  obtain rfl := Option.some.inj (gSyn.symm.trans hg4)
  obtain rfl := Option.some.inj (tSyn.symm.trans ht4)
  rw [powData] at hd2
  obtain ⟨_, u3, v3, e3, _, _⟩ := iface_of_trod Tryd.underlying70 hd3
  obtain ⟨_, u4, v4, e4, _, _⟩ := iface_of_trod Tryd.underlying70 hd4
  refine ⟨?_, ⟨u4, v4, ?_⟩, u3, v3, ?_⟩
  · unfold HasTab Lib.TabIs
    rw [hv2, ← Lib.cells_of_tab Tryd.underlying127 Tryd.underlying97 cells66 cells85 hd2]
  · rw [hv4, ← Array.toArray_toList (xs := cs4), e4]
  · rw [hv3, ← Array.toArray_toList (xs := cs3), e3]
theorem parseL_le (S : List UInt8) : (parseL S).length ≤ 8 := by
  by_cases h : ∃ l, IsText S l
  · obtain ⟨l, hl⟩ := h
    rw [(parse_yes hl).1]
    have := hl.1.2.1
    omega
  · rw [(parse_no fun l hl => h ⟨l, hl⟩).1]; simp

/-- What the law holds: the model's tour and the program's, each in its box. -/
structure Ps (w W : World) (p0 pg : Nat) (R : List Int) (a0 : Option Addr) (c0 : Nat) (ag : Option Addr) (cg : Nat) (G : List Int) : Prop where
  hb : Below w.heap.size w W
  b0 : Box W p0 25 (.int .i64 R.length) (.slice a0 R.length c0)
  bg : Box W pg 25 (.int .i64 R.length) (.slice ag R.length cg)
  r0 : W.ownsRow w.heap.size 3 1 (.slice a0 R.length c0) R.length (R.map iv)
  rg : W.ownsRow w.heap.size 3 1 (.slice ag R.length cg) R.length (G.map iv)
  ng : ∀ k, blk ag = some k → k ≠ p0 ∧ k ≠ pg ∧ blk a0 ≠ some k
section
variable {w W W' : World} {p0 pg : Nat} {R : List Int} {a0 : Option Addr} {c0 : Nat} {ag : Option Addr} {cg : Nat} {G G' : List Int}
theorem Ps.kept (h : Ps w W p0 pg R a0 c0 ag cg G) (hb : Below W.heap.size W W') : Ps w W' p0 pg R a0 c0 ag cg G :=
  ⟨h.hb.trans (hb.mono h.hb.size), h.b0.below hb h.b0.lt, h.bg.below hb h.bg.lt, own_below h.r0 hb, own_below h.rg hb, h.ng⟩
theorem Ps.mark (h : Ps w W p0 pg R a0 c0 ag cg G) (hx : W'.ownsRow w.heap.size 3 1 (.slice ag R.length cg) R.length (G'.map iv)) (hb : Below w.heap.size W W') (hg : W.grownBy W' (blk ag)) : Ps w W' p0 pg R a0 c0 ag cg G' :=
  ⟨h.hb.trans hb, h.b0.grown hg (fun e => (h.ng _ e).1 rfl), h.bg.grown hg (fun e => (h.ng _ e).2.1 rfl), own_grown h.r0 hg (fun k hk e => (h.ng _ e).2.2 hk), hx, h.ng⟩
end

set_option maxRecDepth 100000 in
set_option maxHeartbeats 1000000 in
theorem walkParseTour (s : ByteArray) (w : World) (hs : s.size ≤ maxLen) (ht : HasTab w) (he : HasErrs w) (hm : HasMax w) :
    Calls Tryd.prog 5 #[.string s] w fun e w' => e = .returned (.bool true) ∧ Below w.heap.size w w' := by
  by_cases hbig : (1048576 : Int) < s.size
  · clear hs ht he hm
    go_enter Tryd.func5, Tryd.ntmps5
    go_wp2
    go_ret
    exact ⟨rfl, Below.refl _ _⟩
  have hs20 : s.size ≤ 1048576 := by omega
  have hR8 := parseL_le s.data.toList
  have CS : ∀ W, Calls Tryd.prog 26 #[.string s] W _ := fun W => specParse s W hs20
  have CI : ∀ W, HasTab W → HasErrs W → HasMax W → Calls Tryd.prog 16 #[.string s] W _ := fun W h1 h2 h3 => implParse s W hs20 h1 h2 h3
  obtain ⟨R, hR⟩ : ∃ R : List Int, R = parseL s.data.toList := ⟨_, rfl⟩
  obtain ⟨rb, hrb⟩ : ∃ rb : Bool, rb = parseB s.data.toList := ⟨_, rfl⟩
  rw [← hR] at hR8
  simp only [← hR, ← hrb] at CS CI
  have HCS : Hid (∀ W, Calls Tryd.prog 26 #[.string s] W fun e w' => (∃ a0 c0, e = .returned (.tuple #[.agg #[.int .i64 R.length, .slice a0 R.length c0], .bool rb]) ∧ w'.ownsRow W.heap.size 3 1 (.slice a0 R.length c0) R.length (R.map iv)) ∧ Below W.heap.size W w') := CS
  have HCI0 : Hid (∀ W, HasTab W → HasErrs W → HasMax W → Calls Tryd.prog 16 #[.string s] W fun e w' => (∃ a0 c0, e = .returned (.tuple #[.agg #[.int .i64 R.length, .slice a0 R.length c0], .bool rb]) ∧ w'.ownsRow W.heap.size 3 1 (.slice a0 R.length c0) R.length (R.map iv)) ∧ Below W.heap.size W w') := CI
  have HCI : Hid (∀ W, Below w.heap.size w W → Calls Tryd.prog 16 #[.string s] W fun e w' => (∃ a0 c0, e = .returned (.tuple #[.agg #[.int .i64 R.length, .slice a0 R.length c0], .bool rb]) ∧ w'.ownsRow W.heap.size 3 1 (.slice a0 R.length c0) R.length (R.map iv)) ∧ Below W.heap.size W w') := fun W hb => HCI0.out W (ht.below hb) (he.below hb) (hm.below hb)
  have HRM : Hid (R.length ≤ maxLen) := (show R.length ≤ maxLen by unfold maxLen; omega)
  clear CS CI HCI0 hR hrb hs ht he hm
  go_enter Tryd.func5, Tryd.ntmps5
  go_wp2_with fail
  refine (HCS.out w).mono ?_
  rintro e w1 ⟨⟨a0, ca0, rfl, ho1⟩, hb1⟩
  obtain ⟨W1, hW1⟩ : ∃ W1, W1 = w1.alloc (.cells #[.int .i64 R.length, .slice a0 R.length ca0] 25) := ⟨_, rfl⟩
  have HW1 := Lib.hid hW1
  have hbW1 : Below w1.heap.size w1 W1 := by rw [hW1]; exact Below.one _ _
  have s1 : W1.heap.size = w1.heap.size + 1 := by rw [hW1]; simp
  have xp0 : Box W1 w1.heap.size 25 (.int .i64 R.length) (.slice a0 R.length ca0) := by rw [hW1]; exact Box.new _ _ _ _
  have B1 := hb1.trans (hbW1.mono hb1.size)
  clear hW1
  go_wp2_with fail
  rw [← HW1.out]
  refine (HCI.out W1 B1).mono ?_
  rintro e w2 ⟨⟨ag, cg, rfl, ho2⟩, hb2⟩
  obtain ⟨W2, hW2⟩ : ∃ W2, W2 = w2.alloc (.cells #[.int .i64 R.length, .slice ag R.length cg] 25) := ⟨_, rfl⟩
  have HW2 := Lib.hid hW2
  have hbW2 : Below w2.heap.size w2 W2 := by rw [hW2]; exact Below.one _ _
  have xpg : Box W2 w2.heap.size 25 (.int .i64 R.length) (.slice ag R.length cg) := by rw [hW2]; exact Box.new _ _ _ _
  clear hW2
  have S2 : Hid (Ps w W2 w1.heap.size w2.heap.size R a0 ca0 ag cg R) := by
    have t2 := hb2.size
    have B2 := B1.trans (hb2.mono B1.size)
    refine ⟨B2.trans (hbW2.mono B2.size), (xp0.below hb2 xp0.lt).below hbW2 (by omega), xpg, own_below (own_below (own_below ho1 hbW1) hb2) hbW2, (own_below ho2 hbW2).mono B1.size, ?_⟩
    intro k hk
    have h5 := own_blk ho2 hk
    refine ⟨by omega, by omega, fun e => ?_⟩
    have := own_blk ho1 e
    omega
  clear xp0 xpg B1 ho1 ho2 hb1 hb2 hbW1 hbW2 s1
  have e0 := S2.out.b0.c0
  have e1 := S2.out.b0.c1
  rw [HW2.out] at e0 e1
  go_wp2_with fail
  rw [← HW2.out]
  refine (eqT_same R.length _ _ _ _ R W2 HRM.out (own_int S2.out.rg) (own_int S2.out.r0)).mono ?_
  rintro e w3 ⟨rfl, hb3⟩
  have S3 := Lib.hid (S2.out.kept hb3)
  clear hb3 e0 e1
  have e2 := S3.out.bg.c0
  have e3 := S3.out.bg.c1
  go_wp2_with fail
  refine (markT1 R.length w.heap.size R.length ag cg (R.map iv) w3 (by omega) S3.out.hb.size S3.out.rg).mono ?_
  rintro e w4 ⟨rfl, ho4, hb4, hg4⟩
  have S4 := Lib.hid (S3.out.mark ho4 hb4 hg4)
  clear e2 e3 ho4 hb4 hg4
  have e2 := S4.out.bg.c0
  have e3 := S4.out.bg.c1
  go_wp2_with fail
  refine (heldT1 R.length w.heap.size R.length ag cg w4 (by omega) S4.out.rg).mono ?_
  rintro e w5 ⟨rfl, hb5⟩
  have S5 := Lib.hid (S4.out.kept hb5)
  clear e2 e3 hb5
  go_wp2_with fail
  refine (HCI.out w5 S5.out.hb).mono ?_
  rintro e w6 ⟨⟨ah, ch, rfl, ho6⟩, hb6⟩
  have S6 := Lib.hid (S5.out.kept hb6)
  obtain ⟨W6, hW6⟩ : ∃ W6, W6 = w6.alloc (.cells #[.int .i64 R.length, .slice ah R.length ch] 25) := ⟨_, rfl⟩
  have HW6 := Lib.hid hW6
  have hbW6 : Below w6.heap.size w6 W6 := by rw [hW6]; exact Below.one _ _
  have hh6 := (own_int ho6).below hbW6 (Nat.le_refl _)
  have S7 := Lib.hid (S6.out.kept hbW6)
  have e0 := S7.out.b0.c0
  have e1 := S7.out.b0.c1
  rw [HW6.out] at e0 e1
  clear hW6 hbW6 hb6 ho6
  go_wp2_with fail
  rw [← HW6.out]
  refine (eqT_same R.length _ _ _ _ R W6 HRM.out hh6 (own_int S7.out.r0)).mono ?_
  rintro e w8 ⟨rfl, hb8⟩
  have S8 := Lib.hid (S7.out.kept hb8)
  clear e0 e1 hb8 hh6
  have e2 := S8.out.bg.c0
  have e3 := S8.out.bg.c1
  go_wp2_with fail
  refine (heldT1 R.length w.heap.size R.length ag cg w8 (by omega) S8.out.rg).mono ?_
  rintro e w9 ⟨rfl, hb9⟩
  have S9 := Lib.hid (S8.out.kept hb9)
  clear hb9
  go_wp2
  go_ret
  exact ⟨rfl, S9.out.hb⟩

end Go.Proofs.YtnlbijmkehijiaaDoor

namespace Go.Proofs.YtnlbijmkehijiaaDoor.fnExactParseTour
open Go.ChangeShapes Go.WideShapes Go.ChangeAt Go.RowKit
open Go.ChangeMaps (open_string shut_string)
set_option linter.unusedVariables false

set_option maxRecDepth 100000 in
/-- What the walk gives, for every argument and every world in which the listed variables hold what the list says. -/
theorem contract (H : Type) (enc : TypeId × Value → H) (W : World) (base : Nat) (args : Array Value) (ds gs : List (DataW H)) (before : List MemPlace)
    (hval0 : ∀ (j : Nat) t v, Tryd.f5.params[j]? = some t → args[j]? = some v → Value.okWide Tryd.prog W .any base t v)
    (hW : DataW.Whole enc Tryd.prog Tryd.f5.params.toList Rows.fnExactParseTourSpec.vars false W args.toList ds gs before) (hL : laidMetH Tryd.prog Rows.fnExactParseTourRow.laid W) (hShape : W.ShapedOpen Tryd.prog) :
    Calls Tryd.prog 5 args W fun e W' => ∃ v, e = .returned v ∧ Rows.fnExactParseTourSpec.post enc Tryd.prog Tryd.f5 false true false false W args v W' := by
  have hval : ∀ (j : Nat) t v, Tryd.f5.params[j]? = some t → args[j]? = some v → Value.okWide Tryd.prog W .any base t v := hval0
  have hW' := hW
  obtain ⟨p, q, hA0, hV, rfl, hfz, hnd⟩ := hW
  have hA : DataW.TrodAll enc Tryd.prog W 0 (fun _ => true) true Tryd.f5.params.toList args.toList ds p := hA0
  rw [Tryd.params5] at hA hval
  obtain ⟨v0, vs0, d0, ds0, p0, q0, hargs, rfl, rfl, h0, r0⟩ := trodAll_cons hA
  obtain ⟨rfl, rfl, rfl⟩ := trodAll_nil r0
  obtain rfl : args = #[v0] := by cases args; simp_all
  obtain ⟨rfl, rfl⟩ := trodVars_none hV
  obtain ⟨s0, rfl, rfl, rfl, hs0⟩ := open_string Tryd.underlying9 (hval 0 9 v0 rfl rfl) h0
  clear hA0 hval0
  refine (walkParseTour s0 W hs0 ((laidFive hL).1) ((laidFive hL).2) (show HasMax W from Tryd.laysM145.s1_3 W hShape)).mono fun e W' ⟨he, bel⟩ => ?_
  subst he
  exact ⟨_, rfl, _, _, _, [], _, [], hW', trodAll_mk1 (shut_bool Tryd.underlying4 _), (trodAll_cons_mk (shut_string Tryd.underlying9 hs0) trodAll_mk0), rfl, bel.frame _, fun h => by cases h⟩

theorem laid_met (os : Os) : laidMetH Tryd.prog Rows.fnExactParseTourRow.laid ((World.doorLaid Tryd.prog 400 os).forCall (fun _ _ => 0) ⟨#[], #[.string ⟨#[]⟩], []⟩).memory :=
  laidMetH_of_parts3 (fuel := 8) (laidMet_of_run' 8 (by kernel_rfl) (by kernel_rfl)) (by kernel_rfl) (by kernel_rfl)
theorem reads (os : Os) {H : Type} (enc : TypeId × Value → H) : ∃ places, DataW.whole enc Tryd.prog ((World.doorLaid Tryd.prog 400 os).forCall (fun _ _ => 0) ⟨#[], #[.string ⟨#[]⟩], []⟩).memory Tryd.f5.params.toList Rows.fnExactParseTourSpec.vars false #[Value.string ⟨#[]⟩].toList 8 = some ([.lit (.string [])], [], places) :=
  ⟨[], by kernel_rfl⟩

set_option maxRecDepth 100000 in
theorem lifted (os : Os) (started : os.Started) (H : Type) (enc : TypeId × Value → H) (F : Stop.Interp) :
    ReturnsInHanded {} Tryd.checked os 5 .any ((OpenSpec.ofChange Rows.fnExactParseTourSpec).preRow enc Tryd.prog Tryd.f5 Rows.fnExactParseTourRow.domain false Rows.fnExactParseTourRow.laid) (((OpenSpec.ofChange Rows.fnExactParseTourSpec).at F).post enc Tryd.prog Tryd.f5 false true false false) := by
  obtain ⟨places, hx⟩ := reads os enc
  refine returnsInHanded_of_row (C := Tryd.checked) (s := OpenSpec.ofChange Rows.fnExactParseTourSpec) own started (by kernel_rfl) Tryd.func5
    (witness_row_atRef (enc := enc) (C := Tryd.checked) false (World.doorLaid Tryd.prog 400 os) #[.string ⟨#[]⟩] rfl (by kernel_rfl) (by kernel_rfl) (by kernel_rfl)
      (OpenSpec.preRow_of_cond 8 hx (by kernel_rfl) (fun k hk => by cases hk) (by kernel_rfl) (laid_met os))) ?_
  intro W base args ds gs before hval hW _ _ _ hL hShape _
  exact contract H enc W base args ds gs before hval hW hL hShape

theorem said : Rows.FnExactParseTourSaid :=
  OpenClaim.holds_of_cond 5 Tryd.f5 rfl rfl rfl rfl rfl rfl rfl ⟨rfl, rfl, rfl, rfl, rfl⟩ rfl rfl rfl rfl rfl (by kernel_rfl) Tryd.func5 (by kernel_rfl)
    (of_decide_eq_true (by kernel_rfl)) (by unfold Func.isWrapper; first | (rw [if_pos (by decide +kernel)]; kernel_rfl) | (rw [if_neg (by decide +kernel)]; exact ⟨rfl, rfl⟩))
    (fun os started H enc _ F => by rw [OpenClaim.pre_eq_preRow]; exact lifted os started H enc F)

theorem plain (f : FuncId) (fn : Func) (hf : Tryd.pinned.checked.prog.funcNamed "loop.example/g03205/laws.FnExactParseTour" = some f) (hfn : Tryd.pinned.checked.prog.funcs[f]? = some fn) :
    true = Tryd.pinned.checked.prog.looks [] ∧ ∀ (j : Nat) t, fn.params[j]? = some t → Tryd.pinned.checked.prog.wantsStandIn t = false := by
  obtain rfl : f = 5 := Option.some.inj ((show Tryd.prog.funcNamed "loop.example/g03205/laws.FnExactParseTour" = some 5 by kernel_rfl).symm.trans hf) |>.symm
  obtain rfl : fn = Tryd.f5 := (Option.some.inj (Tryd.func5.symm.trans hfn)).symm
  refine ⟨by kernel_rfl, fun j t ht => ?_⟩
  rw [Tryd.params5] at ht
  obtain rfl : t = 9 := by simpa using Array.mem_of_getElem? ht
  exact (show Tryd.prog.wantsStandIn 9 = false by kernel_rfl)

/-- The card. -/
theorem proved : Rows.FnExactParseTourCardSaid :=
  Claim7.holds_tied_plain_at .later [] _ _ _ _ said (fun _ h => by cases h) (by kernel_rfl) (fun _ h => by cases h) fnExactParseTour_row_tie rfl ⟨rfl, rfl⟩ (by kernel_rfl) rfl plain (by kernel_rfl)
end Go.Proofs.YtnlbijmkehijiaaDoor.fnExactParseTour

