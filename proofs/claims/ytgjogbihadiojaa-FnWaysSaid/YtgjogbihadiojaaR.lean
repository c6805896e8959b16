/-
  Both 'PartTour'. No conditions but the bounds that Go gives a slice.
-/
import Derived.Test.YtgjogbihadiojaaL
import Derived.Test.YtgjogbihadiojaaM
import Derived.Test.YtgjogbihadiojaaN
namespace Go.Proofs.Ytgjogbihadiojaa
open Go.ChangeShapes Go.WideShapes Go.ChangeAt Go.RowKit
set_option linter.unusedVariables false

/-- The number whose digits f names. -/
def numb (f : Nat → Bool) : Nat → Nat
  | 0 => 0
  | k + 1 => numb f k + if f k then 2 ^ k else 0
theorem numb_lt (f : Nat → Bool) : ∀ k, numb f k < 2 ^ k
  | 0 => by simp [numb]
  | k + 1 => by
    have := numb_lt f k
    simp only [numb, Nat.pow_succ]
    split <;> omega
theorem numb_or (f : Nat → Bool) (k : Nat) : numb f k ||| 2 ^ k = numb f k + 2 ^ k := by
  have h := Nat.two_pow_add_eq_or_of_lt (numb_lt f k) 1
  rw [Nat.mul_one] at h
  rw [Nat.or_comm, ← h, Nat.add_comm]
theorem numb_le (f : Nat → Bool) (k : Nat) (hk : k ≤ 8) : numb f k < 256 := Nat.lt_of_lt_of_le (numb_lt f k) (pow_le k hk)

def partF (l : List Int) (es : List Nat) (i k : Nat) : Bool := bt l (es.getD i 0) (es.getD k 0)
def partL (l : List Int) (es : List Nat) : List Nat := (List.range es.length).map fun i => numb (partF l es i) es.length
theorem partL_len (l : List Int) (es : List Nat) : (partL l es).length = es.length := by simp [partL]
theorem partL_at (l : List Int) (es : List Nat) (i : Nat) (hi : i < es.length) : (partL l es)[i]? = some (numb (partF l es i) es.length) := by simp [partL, hi]
/-- The rows while they are filled. -/
def stB (l : List Int) (es : List Nat) (i k : Nat) : List Nat := (partL l es).take i ++ numb (partF l es i) k :: List.replicate (es.length - i - 1) 0
def stA (l : List Int) (es : List Nat) (i : Nat) : List Nat := (partL l es).take i ++ List.replicate (es.length - i) 0
theorem stA_zero (l : List Int) (es : List Nat) : stA l es 0 = List.replicate es.length 0 := by simp [stA]
theorem stA_all (l : List Int) (es : List Nat) : stA l es es.length = partL l es := by
  unfold stA; rw [← partL_len l es]; simp
theorem stB_zero (l : List Int) (es : List Nat) (i : Nat) (hi : i < es.length) : stB l es i 0 = stA l es i := by
  unfold stA stB
  rw [show es.length - i = (es.length - i - 1) + 1 by omega, List.replicate_succ]
  rfl
theorem stB_end (l : List Int) (es : List Nat) (i : Nat) (hi : i < es.length) : stB l es i es.length = stA l es (i + 1) := by
  unfold stA stB
  rw [take_snoc _ _ _ (partL_at l es i hi), List.append_assoc, show es.length - (i + 1) = es.length - i - 1 by omega]
  rfl
theorem stB_len (l : List Int) (es : List Nat) (i k : Nat) (hi : i < es.length) : (stB l es i k).length = es.length := by
  simp only [stB, List.length_append, List.length_take, partL_len, List.length_cons, List.length_replicate]; omega
theorem stB_at (l : List Int) (es : List Nat) (i k : Nat) (hi : i < es.length) : (stB l es i k).getD i 0 = numb (partF l es i) k := by
  unfold stB
  rw [List.getD_eq_getElem?_getD, List.getElem?_append_right (by simp [partL_len]; omega)]
  have : i - ((partL l es).take i).length = 0 := by simp [partL_len]; omega
  rw [this]; rfl
theorem stB_set (l : List Int) (es : List Nat) (i k : Nat) (hi : i < es.length) (hf : partF l es i k = true) : (stB l es i k).set i ((stB l es i k).getD i 0 ||| 2 ^ k) = stB l es i (k + 1) := by
  rw [stB_at l es i k hi, numb_or]
  unfold stB
  rw [List.set_append, if_neg (by simp [partL_len]; omega)]
  have : i - ((partL l es).take i).length = 0 := by simp [partL_len]; omega
  rw [this, List.set_cons_zero]
  simp [numb, hf]
theorem stB_no (l : List Int) (es : List Nat) (i k : Nat) (hf : partF l es i k = false) : stB l es i (k + 1) = stB l es i k := by unfold stB; simp [numb, hf]
theorem stB_lt (l : List Int) (es : List Nat) (i k : Nat) (he : es.length ≤ 8) (hk : k ≤ 8) : ∀ y ∈ stB l es i k, y < 256 := by
  intro y hy
  unfold stB at hy
  rcases List.mem_append.1 hy with h | h
  · obtain ⟨j, _, rfl⟩ := List.mem_map.1 (List.mem_of_mem_take h)
    exact numb_le _ _ he
  · rcases List.mem_cons.1 h with rfl | h
    · exact numb_le _ _ hk
    · rw [(List.mem_replicate.1 h).2]; decide
theorem elems_bit (x i : Nat) (hi : i < (elems x).length) : x.testBit ((elems x).getD i 0) = true := by
  rw [List.getD_eq_getElem?_getD, List.getElem?_eq_getElem hi]
  have := List.getElem_mem hi
  exact (List.mem_filter.1 this).2
theorem elems_in (x i m : Nat) (hx : x < 2 ^ m) (hi : i < (elems x).length) : (elems x).getD i 0 < m := by
  have h := elems_bit x i hi
  rcases Nat.lt_or_ge ((elems x).getD i 0) m with h' | h'
  · exact h'
  · rw [Nat.testBit_lt_two_pow (Nat.lt_of_lt_of_le hx (Nat.pow_le_pow_right (by decide) h'))] at h; cases h

noncomputable def ptB (n : Int) (l : List Int) (p : Int) : Bool := okB n l && (!(p == 0) && inSet p l.length)
noncomputable def ptR (n : Int) (l : List Int) (p : Int) : List Int := if ptB n l p then (partL l (elems p.toNat)).map Int.ofNat else []
noncomputable def ptN (n : Int) (l : List Int) (p : Int) : Int := if ptB n l p then ((elems p.toNat).length : Int) else 0

set_option maxHeartbeats 2000000 in
theorem implPart (n : Int) (a : Option Addr) (l : List Int) (cap : Nat) (p : Int) (w : World) (hrow : IntRow w a l) (hl : l.length ≤ maxLen) :
    Calls Try.prog 73 #[.agg #[.int .i64 n, .slice a l.length cap], .int .i64 p] w fun e w' => (∃ a0 c0, e = .returned (.tuple #[.agg #[.int .i64 (ptN n l p), .slice a0 (ptR n l p).length c0], .bool (ptB n l p)]) ∧ w'.ownsRow w.heap.size 3 1 (.slice a0 (ptR n l p).length c0) (ptR n l p).length ((ptR n l p).map iv)) ∧ Below w.heap.size w w' := by
  obtain ⟨Wb, hWb⟩ : ∃ Wb, Wb = w.alloc (.cells #[.int .i64 n, .slice a l.length cap] 25) := ⟨_, rfl⟩
  obtain ⟨Wa, hWa⟩ : ∃ Wa, Wa = Wb.alloc (.cells #[.int .i64 0, .slice none 0 0] 25) := ⟨_, rfl⟩
  have sb : Wb.heap.size = w.heap.size + 1 := by rw [hWb]; simp
  have sa : Wa.heap.size = w.heap.size + 1 + 1 := by rw [hWa]; simp [sb]
  have hbb : Below w.heap.size w Wb := by rw [hWb]; exact (Below.refl _ _).alloc (Nat.le_refl _) _
  have hba : Below w.heap.size w Wa := by rw [hWa]; exact hbb.alloc hbb.size _
  have xt : Box Wa w.heap.size 25 (.int .i64 n) (.slice a l.length cap) := by
    rw [hWa]; exact (show Box Wb w.heap.size 25 (.int .i64 n) (.slice a l.length cap) by rw [hWb]; exact Box.new _ _ _ _).below ((Below.refl Wb.heap.size Wb).alloc (Nat.le_refl _) _) (by omega)
  have xr : Box Wa (w.heap.size + 1) 25 (.int .i64 0) (.slice none 0 0) := by rw [hWa, ← sb]; exact Box.new _ _ _ _
  have HWa : Hid (Wa = (w.alloc (.cells #[.int .i64 n, .slice a l.length cap] 25)).alloc (.cells #[.int .i64 0, .slice none 0 0] 25)) := by rw [hWa, hWb]; exact rfl
  have hrowa : IntRow Wa a l := hrow.below hba (Nat.le_refl _)
  have HL := Lib.hid hl
  clear hl hrow hWa hWb hbb
  cases hok : okB n l
  · have HO := Lib.hid hok
    have HE : Hid (ptB n l p = false) := by show _ = _; unfold ptB; rw [hok]; rfl
    clear hok
    go_enter Try.func73, Try.ntmps73
    go_wp2_with fail
    rw [← HWa.out]
    refine (implTourOk n a l cap Wa hrowa HL.out).mono ?_
    rintro e w1 ⟨rfl, hb1⟩
    rw [HO.out]
    have B1 := hba.trans (hb1.mono hba.size)
    have xr1 := xr.below hb1 xr.lt
    have xt1 := xt.below hb1 xt.lt
    have hrow1 := hrowa.below hb1 (Nat.le_refl _)
    clear xr xt hrowa
    have c0 := xr1.c0
    have c1 := xr1.c1
    have f0 := xr1.f0
    have f1 := xr1.f1
    have X := Lib.hid xr1
    have BB := Lib.hid (B1)
    clear xr1
    go_wp2
    refine bodyPost_ret (v := .tuple #[.agg #[.int .i64 0, .slice none 0 0], .bool false]) (Box.res2 rfl _ rfl rfl ((X.out.set0 _).set1 _)) rfl ?_
    refine ⟨⟨none, 0, ?_, ?_⟩, ?_⟩
    · unfold ptN ptR; rw [HE.out]; rfl
    · unfold ptR; rw [HE.out]; exact World.ownsRow_nil _ _ _ _
    · exact (BB.out.setCell (p := ⟨w.heap.size + 1, 0, none⟩) (Nat.le_succ _) _).setCell (p := ⟨w.heap.size + 1, 1, none⟩) (Nat.le_succ _) _
  have HO := Lib.hid hok
  have HK : Hid (Ok n l) := okB_iff.1 hok
  have hnl := HK.out.2.2.1
  have hl8 : l.length ≤ 8 := by have := HK.out.2.1; omega
  subst hnl
  cases hp : (p == 0)
  case true =>
    have HE : Hid (ptB l.length l p = false) := by show _ = _; unfold ptB; rw [hp]; simp
    clear hok
    go_enter Try.func73, Try.ntmps73
    go_wp2_with fail
    rw [← HWa.out]
    refine (implTourOk _ a l cap Wa hrowa HL.out).mono ?_
    rintro e w1 ⟨rfl, hb1⟩
    rw [HO.out]
    have B1 := hba.trans (hb1.mono hba.size)
    have xr1 := xr.below hb1 xr.lt
    have xt1 := xt.below hb1 xt.lt
    have hrow1 := hrowa.below hb1 (Nat.le_refl _)
    clear xr xt hrowa
    have c0 := xr1.c0
    have c1 := xr1.c1
    have f0 := xr1.f0
    have f1 := xr1.f1
    have X := Lib.hid xr1
    have BB := Lib.hid (B1)
    clear xr1
    go_wp2
    refine bodyPost_ret (v := .tuple #[.agg #[.int .i64 0, .slice none 0 0], .bool false]) (Box.res2 rfl _ rfl rfl ((X.out.set0 _).set1 _)) rfl ?_
    refine ⟨⟨none, 0, ?_, ?_⟩, ?_⟩
    · unfold ptN ptR; rw [HE.out]; rfl
    · unfold ptR; rw [HE.out]; exact World.ownsRow_nil _ _ _ _
    · exact (BB.out.setCell (p := ⟨w.heap.size + 1, 0, none⟩) (Nat.le_succ _) _).setCell (p := ⟨w.heap.size + 1, 1, none⟩) (Nat.le_succ _) _
  case false =>
  cases hin : inSet p l.length
  · have HI := Lib.hid hin
    have HE : Hid (ptB l.length l p = false) := by show _ = _; unfold ptB; rw [hin]; simp
    clear hok hin
    go_enter Try.func73, Try.ntmps73
    go_wp2_with fail
    rw [← HWa.out]
    refine (implTourOk _ a l cap Wa hrowa HL.out).mono ?_
    rintro e w1 ⟨rfl, hb1⟩
    rw [HO.out]
    have B1 := hba.trans (hb1.mono hba.size)
    have xr1 := xr.below hb1 xr.lt
    have xt1 := xt.below hb1 xt.lt
    have hrow1 := hrowa.below hb1 (Nat.le_refl _)
    clear xr xt hrowa
    have c0 := xt1.c0
    have c1 := xt1.c1
    go_wp2_with fail
    refine (isSetOf_any p l.length w1 hl8).mono ?_
    rintro e w' ⟨rfl, rfl⟩
    rw [HI.out]
    clear c0 c1
    have c0 := xr1.c0
    have c1 := xr1.c1
    have f0 := xr1.f0
    have f1 := xr1.f1
    have X := Lib.hid xr1
    have BB := Lib.hid (B1)
    clear xr1
    go_wp2
    refine bodyPost_ret (v := .tuple #[.agg #[.int .i64 0, .slice none 0 0], .bool false]) (Box.res2 rfl _ rfl rfl ((X.out.set0 _).set1 _)) rfl ?_
    refine ⟨⟨none, 0, ?_, ?_⟩, ?_⟩
    · unfold ptN ptR; rw [HE.out]; rfl
    · unfold ptR; rw [HE.out]; exact World.ownsRow_nil _ _ _ _
    · exact (BB.out.setCell (p := ⟨w.heap.size + 1, 0, none⟩) (Nat.le_succ _) _).setCell (p := ⟨w.heap.size + 1, 1, none⟩) (Nat.le_succ _) _
  · have HI := Lib.hid hin
    have HE : Hid (ptB l.length l p = true) := by show _ = _; unfold ptB; rw [hok, hp, hin]; rfl
    obtain ⟨x, rfl⟩ : ∃ x : Nat, p = x := ⟨p.toNat, by simp [inSet] at hin; omega⟩
    have hx2 : x < 2 ^ l.length := by simp only [inSet, Bool.and_eq_true, decide_eq_true_eq] at hin; omega
    have hx8 : x < 256 := Nat.lt_of_lt_of_le hx2 (pow_le _ hl8)
    obtain ⟨es, hes⟩ : ∃ es, es = elems x := ⟨_, rfl⟩
    have HES := Lib.hid hes
    have hin' : Hid (∀ i, i < es.length → es.getD i 0 < l.length) := (show ∀ i, i < es.length → es.getD i 0 < l.length by rw [hes]; exact fun i hi => elems_in x i _ hx2 hi)
    have he8 : es.length ≤ 8 := by rw [hes]; exact elTo_len x 8
    clear hok hin hx2 hes
    go_enter Try.func73, Try.ntmps73
    go_wp2_with fail
    rw [← HWa.out]
    refine (implTourOk _ a l cap Wa hrowa HL.out).mono ?_
    rintro e w1 ⟨rfl, hb1⟩
    rw [HO.out]
    have B1 := hba.trans (hb1.mono hba.size)
    have xr1 := xr.below hb1 xr.lt
    have xt1 := xt.below hb1 xt.lt
    have hrow1 := hrowa.below hb1 (Nat.le_refl _)
    clear xr xt hrowa
    have c0 := xt1.c0
    have c1 := xt1.c1
    go_wp2_with fail
    refine (isSetOf_any x l.length w1 hl8).mono ?_
    rintro e w' ⟨rfl, rfl⟩
    rw [HI.out]
    go_wp2_with fail
    refine (elementsOf_any x hx8 w1).mono ?_
    rintro e w2 ⟨⟨ge, ce, rfl, hoe⟩, hb2⟩
    rw [← HES.out] at hoe ⊢
    have B2 := B1.trans (hb2.mono B1.size)
    have xr2 := xr1.below hb2 xr1.lt
    have xt2 := xt1.below hb2 xt1.lt
    have hrow2 := hrow1.below hb2 (Nat.le_refl _)
    have hge := hoe.lt ge rfl
    go_wp2_with fail
    refine (newTour_any es.length w2 (by omega)).mono ?_
    rintro e w3 ⟨⟨g, rfl, ho3⟩, hb3⟩
    have B3 := B2.trans (hb3.mono B2.size)
    have xr3 := xr2.below hb3 xr2.lt
    have xt3 := xt2.below hb3 xt2.lt
    have hrow3 := hrow2.below hb3 (Nat.le_refl _)
    have hoe3 := own_below hoe hb3
    have hgl := ho3.lt g rfl
    obtain ⟨W4, hW4⟩ : ∃ W4, W4 = w3.alloc (.cells #[.int .i64 es.length, .slice (some ⟨g, 0, none⟩) es.length es.length] 25) := ⟨_, rfl⟩
    have HW4 := Lib.hid hW4
    have hbW4 : Below w3.heap.size w3 W4 := by rw [hW4]; exact Below.one _ _
    have xf4 : Box W4 w3.heap.size 25 (.int .i64 es.length) (.slice (some ⟨g, 0, none⟩) es.length es.length) := by rw [hW4]; exact Box.new _ _ _ _
    have B4 := B3.trans (hbW4.mono B3.size)
    have XR4 := Lib.hid (xr3.below hbW4 xr3.lt)
    have XT4 := Lib.hid (xt3.below hbW4 xt3.lt)
    have HR4 := Lib.hid (hrow3.below hbW4 (Nat.le_refl _))
    have OE4 := Lib.hid (own_below hoe3 hbW4)
    have OG4 := Lib.hid ((own_below ho3 hbW4).mono B2.size)
    have XF4 := Lib.hid xf4
    have BB4 := Lib.hid B4
    have hrg : Hid (w.heap.size + 1 ≠ g) := (show _ ≠ g by have := xr2.lt; omega)
    have htg : Hid (w.heap.size ≠ g) := (show _ ≠ g by have := xt2.lt; omega)
    have heg : Hid (ge ≠ g) := (show _ ≠ g by omega)
    have hfg : Hid (w3.heap.size ≠ g) := (show _ ≠ g by omega)
    have hag : Hid (blk a ≠ some g) := (show blk a ≠ some g by
      intro e
      rcases hrow2 with h | ⟨b, off, rfl, hbl, _⟩
      · have := HK.out.1; rw [h] at this; simp at this
      · simp [blk] at e; omega)
    have hgw : Hid (w.heap.size ≤ g) := (show _ ≤ g by have := B2.size; omega)
    clear c0 c1 hW4 hbW4 xf4 B1 B2 B3 B4 xr1 xr2 xr3 xt1 xt2 xt3 hrow1 hrow2 hrow3 hoe hoe3 ho3 hb1 hb2 hb3 hge hgl hba
    rw [← stA_zero l es] at OG4
    go_wp2
    rw [← HW4.out]
    go_loopw [34] (fun i wr => ∃ k : Nat, k ≤ es.length ∧ i = .int .i64 k ∧ Hid (wr.ownsRow w.heap.size 3 1 (.slice (some ⟨g, 0, none⟩) es.length es.length) es.length ((stA l es k).map nv)) ∧ Hid (KeepsBut g W4 wr) ∧ Hid (Below w.heap.size w wr)) (fun i _ => es.length - (intOf i).toNat)
    case atStart => exact ⟨0, Nat.zero_le _, rfl, OG4.out, KeepsBut.refl _ _, BB4.out⟩
    case round =>
      obtain ⟨i, hi, rfl, how, hkp, hbl⟩ := hrel
      by_cases hlt : i < es.length
      · have hei := cell_but (by rw [OE4.out.cellAt i (by omega), List.getElem?_map, show es[i]? = some (es.getD i 0) by rw [List.getD_eq_getElem?_getD, List.getElem?_eq_getElem hlt]; rfl]; rfl) hkp.out (p := ⟨ge, i, none⟩) (v := nv (es.getD i 0)) heg.out
        obtain ⟨pi, hpi⟩ : ∃ pi, pi = es.getD i 0 := ⟨_, rfl⟩
        rw [← hpi] at hei
        unfold nv at hei
        have hpil : pi < l.length := by rw [hpi]; exact hin'.out i hlt
        have HPI := Lib.hid hpi
        have hib : (i : Int) < (es.length : Int) := by omega
        have H0 : Hid (wr.ownsRow w.heap.size 3 1 (.slice (some ⟨g, 0, none⟩) es.length es.length) es.length ((stB l es i 0).map nv)) := by rw [stB_zero l es i hlt]; exact how.out
        clear hpi how
        go_wp2
        go_loopw [41] (fun j wr2 => ∃ k : Nat, k ≤ es.length ∧ j = .int .i64 k ∧ Hid (wr2.ownsRow w.heap.size 3 1 (.slice (some ⟨g, 0, none⟩) es.length es.length) es.length ((stB l es i k).map nv)) ∧ Hid (KeepsBut g W4 wr2) ∧ Hid (Below w.heap.size w wr2)) (fun j _ => es.length - (intOf j).toNat)
        case atStart => exact ⟨0, Nat.zero_le _, rfl, H0, hkp, hbl⟩
        case round =>
          clear H0 hei hkp hbl
          obtain ⟨k, hk, rfl, how, hkp, hbl⟩ := hrel
          by_cases hlt2 : k < es.length
          · have hek := cell_but (by rw [OE4.out.cellAt k (by omega), List.getElem?_map, show es[k]? = some (es.getD k 0) by rw [List.getD_eq_getElem?_getD, List.getElem?_eq_getElem hlt2]; rfl]; rfl) hkp.out (p := ⟨ge, k, none⟩) (v := nv (es.getD k 0)) heg.out
            obtain ⟨pk, hpk⟩ : ∃ pk, pk = es.getD k 0 := ⟨_, rfl⟩
            rw [← hpk] at hek
            unfold nv at hek
            have hpkl : pk < 64 := by have := hin'.out k hlt2; omega
            have hkb : (k : Int) < (es.length : Int) := by omega
            have hf0 : partF l es i k = bt l pi pk := by unfold partF; rw [HPI.out, hpk]
            have d0 := (XT4.out.but hkp.out htg.out).c0
            have d1 := (XT4.out.but hkp.out htg.out).c1
            have hrr := HR4.out.but hkp.out hag.out
            have hk8 : k ≤ 8 := by omega
            clear hpk
            cases hf : bt l pi pk
            · have HF := Lib.hid hf
              rw [hf] at hf0
              rw [← stB_no l es i k hf0] at how
              clear hf hf0
              go_wp2_with fail
              refine (beats_any _ a l cap pi pk _ hrr HL.out hpil hpkl).mono ?_
              rintro e w5 ⟨rfl, hb5⟩
              rw [HF.out]
              have G1 := Lib.hid (own_below how.out hb5)
              have G2 := Lib.hid (hkp.out.trans (KeepsBut.below hb5))
              have G3 := Lib.hid (hbl.out.trans (hb5.mono hbl.out.size))
              clear hb5 d0 d1 hek
              go_wp2
              go_roundw
              case rel => exact ⟨k + 1, by omega, by go_num, G1, G2, G3⟩
              case measure => simp [intOf]; omega
            · have HF := Lib.hid hf
              rw [hf] at hf0
              have hset := stB_set l es i k hlt hf0
              have HSET := Lib.hid hset
              have hlt256 := stB_lt l es i k he8 hk8
              have HLT2 := Lib.hid hlt256
              clear hf hf0 hset hlt256
              go_wp2_with fail
              refine (beats_any _ a l cap pi pk _ hrr HL.out hpil hpkl).mono ?_
              rintro e w5 ⟨rfl, hb5⟩
              rw [HF.out]
              have k5 := hkp.out.trans (KeepsBut.below hb5)
              have b5 := hbl.out.trans (hb5.mono hbl.out.size)
              have o5 := own_below how.out hb5
              have e0 := (XF4.out.but k5 hfg.out).c0
              have e1 := (XF4.out.but k5 hfg.out).c1
              have K5 := Lib.hid k5
              have B5 := Lib.hid b5
              have O5 := Lib.hid o5
              clear k5 b5 o5 hb5 d0 d1 hek
              go_wp2_with fail
              refine (addWin_g w.heap.size g es.length es.length i k (stB l es i k) w5 (by omega) hlt hk8 HLT2.out B5.out.size O5.out).mono ?_
              rintro e w6 ⟨⟨v, rfl⟩, ho6, hb6, hg6⟩
              rw [HSET.out] at ho6
              have G1 := Lib.hid ho6
              have G2 := Lib.hid (K5.out.trans (KeepsBut.grown hg6))
              have G3 := Lib.hid (B5.out.trans hb6)
              clear ho6 hb6 hg6 e0 e1
              go_wp2
              go_roundw
              case rel => exact ⟨k + 1, by omega, by go_num, G1, G2, G3⟩
              case measure => simp [intOf]; omega
          · obtain rfl : k = es.length := by omega
            have H1 : Hid (wr.ownsRow w.heap.size 3 1 (.slice (some ⟨g, 0, none⟩) es.length es.length) es.length ((stA l es (i + 1)).map nv)) := by rw [← stB_end l es i hlt]; exact how.out
            clear how
            go_wp2
            go_roundw
            case rel => exact ⟨i + 1, by omega, by go_num, H1, hkp, hbl⟩
            case measure => simp [intOf]; omega
      · obtain rfl : i = es.length := by omega
        have H1 : Hid (wr.ownsRow w.heap.size 3 1 (.slice (some ⟨g, 0, none⟩) es.length es.length) es.length ((partL l es).map nv)) := by rw [← stA_all]; exact how.out
        have xrz := XR4.out.but hkp.out hrg.out
        have d0 := (XF4.out.but hkp.out hfg.out).c0
        have d1 := (XF4.out.but hkp.out hfg.out).c1
        have e0 := xrz.c0
        have e1 := xrz.c1
        have e2 := xrz.f0
        have e3 := xrz.f1
        have XZ := Lib.hid xrz
        clear how xrz
        go_wp2
        have hn : ptN l.length l x = es.length := by unfold ptN; rw [HE.out, HES.out]; rfl
        have hr : ptR l.length l x = (partL l es).map Int.ofNat := by unfold ptR; rw [HE.out, HES.out]; rfl
        have hlen : ((partL l es).map Int.ofNat).length = es.length := by simp [partL_len]
        refine bodyPost_ret (v := .tuple #[.agg #[.int .i64 es.length, .slice (some ⟨g, 0, none⟩) es.length es.length], .bool true]) (Box.res2 rfl _ rfl rfl ((XZ.out.set0 _).set1 _)) rfl ?_
        refine ⟨⟨some ⟨g, 0, none⟩, es.length, ?_, ?_⟩, ?_⟩
        · rw [hn, hr, hlen, HE.out]
        · rw [hr, hlen, ← nv_iv]
          exact own_other (own_other H1.out ⟨w.heap.size + 1, 0, none⟩ _ (fun e => hrg.out e.symm)) ⟨w.heap.size + 1, 1, none⟩ _ (fun e => hrg.out e.symm)
        · exact (hbl.out.setCell (p := ⟨w.heap.size + 1, 0, none⟩) (Nat.le_succ _) _).setCell (p := ⟨w.heap.size + 1, 1, none⟩) (Nat.le_succ _) _
end Go.Proofs.Ytgjogbihadiojaa
