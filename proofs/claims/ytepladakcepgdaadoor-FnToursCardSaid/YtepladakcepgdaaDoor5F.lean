/-
  The program's functions on valid tours, in the words that a law over several calls holds them by: the tour's list, its size under one name. Conditions: the tours are valid.
-/
import Derived.Test.YtepladakcepgdaaDoor5E
import Derived.Test.YtepladakcepgdaaDoorQ
namespace Go.Proofs.YtepladakcepgdaaDoor
open Go.ChangeShapes Go.WideShapes Go.ChangeAt Go.RowKit
set_option linter.unusedVariables false

/-- A valid tour of m players. -/
def Vt (m : Nat) (l : List Int) : Prop := OkL l ∧ l.length = m
theorem Vt.le {m : Nat} {l : List Int} (h : Vt m l) : 1 ≤ m ∧ m ≤ 8 := by have := h.1.le; have := h.2; omega
theorem Vt.max {m : Nat} {l : List Int} (h : Vt m l) : l.length ≤ maxLen := by have := h.le; have := h.2; unfold maxLen; omega
noncomputable def turnL (l : List Int) : List Int := turnR (l.length : Int) l
noncomputable def renL (l ns : List Int) : List Int := renR (l.length : Int) l ns
noncomputable def flipM (l : List Int) (i j : Nat) : List Int := flipR (l.length : Int) l i j
def scL (l : List Int) : List Int := (scoresL l).map Int.ofNat
section
variable {m : Nat} {l l' ns : List Int}
theorem Vt.turn (h : Vt m l) : Vt m (turnL l) := ⟨(turned h.1).1, (turned h.1).2.1.trans h.2⟩
theorem Vt.turn2 (h : Vt m l) : turnL (turnL l) = l := turned2 h.1
theorem Vt.bturn (h : Vt m l) {i j : Nat} (hi : i < m) (hj : j < m) : bt (turnL l) i j = bt l j i := (turned h.1).2.2.2 i j (by rw [h.2]; exact hi) (by rw [h.2]; exact hj)
theorem Vt.ren (h : Vt m l) (hn : Names m ns) : Vt m (renL l ns) := ⟨(renamed h.1 (by rw [h.2]; exact hn.perm)).1, (renamed h.1 (by rw [h.2]; exact hn.perm)).2.1.trans h.2⟩
theorem Vt.bren (h : Vt m l) (hn : Names m ns) {i j : Nat} (hi : i < m) (hj : j < m) : bt (renL l ns) (nm ns i) (nm ns j) = bt l i j := (renamed h.1 (by rw [h.2]; exact hn.perm)).2.2.2 i j (by rw [h.2]; exact hi) (by rw [h.2]; exact hj)
theorem Vt.sren (h : Vt m l) (hn : Names m ns) {i : Nat} (hi : i < m) : sc (renL l ns) (nm ns i) = sc l i := sc_renamed h.1 (by rw [h.2]; exact hn.perm) (by rw [h.2]; exact hi)
theorem Vt.sturn (h : Vt m l) {i : Nat} (hi : i < m) : sc (turnL l) i + sc l i + 1 = m := (sc_turned h.1 (by rw [h.2]; exact hi)).trans h.2
theorem Vt.flip (h : Vt m l) {i j : Nat} (hi : i < m) (hj : j < m) (hne : i ≠ j) : Vt m (flipM l i j) := ⟨(flipped h.1 (by rw [h.2]; exact hi) (by rw [h.2]; exact hj) hne).1, (flipped h.1 (by rw [h.2]; exact hi) (by rw [h.2]; exact hj) hne).2.1.trans h.2⟩
theorem Vt.flip2 (h : Vt m l) {i j : Nat} (hi : i < m) (hj : j < m) (hne : i ≠ j) : flipM (flipM l i j) j i = l := flipped2 h.1 (by rw [h.2]; exact hi) (by rw [h.2]; exact hj) hne
theorem Vt.bflip (h : Vt m l) {i j : Nat} (hi : i < m) (hj : j < m) (hne : i ≠ j) : bt (flipM l i j) i j = !bt l i j := by
  have := (flipped h.1 (p := i) (q := j) (by rw [h.2]; exact hi) (by rw [h.2]; exact hj) hne).2.2.2 i j (by rw [h.2]; exact hi) (by rw [h.2]; exact hj)
  refine this.trans ?_
  unfold isG
  cases bt l i j <;> simp
theorem Vt.sc_le (h : Vt m l) {i : Nat} (hi : i < m) : sc l i < m := by have := sc_lt h.1 (show i < l.length by rw [h.2]; exact hi); rw [h.2] at this; exact this
theorem Vt.other (h : Vt m l) {i j : Nat} (hi : i < m) (hj : j < m) (hne : i ≠ j) : bt l i j = !bt l j i := Ok.other h.1 (by rw [h.2]; exact hi) (by rw [h.2]; exact hj) hne
theorem Vt.self (h : Vt m l) {i : Nat} (hi : i < m) : bt l i i = false := Ok.self h.1 (by rw [h.2]; exact hi)
theorem scL_len (h : Vt m l) : (scL l).length = m := by unfold scL; rw [List.length_map, scoresL_len, h.2]
theorem scL_at (h : Vt m l) {i : Nat} (hi : i < m) : (scL l).getD i 0 = (sc l i : Int) := by
  unfold scL
  rw [getD_map_ofNat]
  congr 1
  have hi' : i < l.length := by rw [h.2]; exact hi
  obtain ⟨x, hx, _, hx8⟩ := h.1.nat hi'
  rw [List.getD_eq_getElem?_getD, scoresL_at l i x hi' hx, Option.getD_some, ← pc_sc h.1 hi', hx]
  rfl
end

theorem turn_ok (m : Nat) (a : Option Addr) (l : List Int) (cap : Nat) (w : World) (h : Vt m l) (hrow : IntRow w a l) :
    Calls Tryd.prog 8 #[.agg #[.int .i64 m, .slice a m cap]] w fun e w' => (∃ a0 c0, e = .returned (.tuple #[.agg #[.int .i64 m, .slice a0 m c0], .bool true]) ∧ IntRow w' a0 (turnL l)) ∧ Below w.heap.size w w' := by
  obtain ⟨hok, rfl⟩ := h
  refine (implTurn_ok (l.length : Int) a l cap w hrow (Vt.max ⟨hok, rfl⟩) (okB_L hok)).mono ?_
  rintro e w' ⟨⟨a0, c0, rfl, ho⟩, hb⟩
  obtain ⟨_, h2, h3, _⟩ := turned hok
  refine ⟨⟨a0, c0, ?_, own_int ho⟩, hb⟩
  rw [h3, h2]
theorem ren_ok (m : Nat) (a : Option Addr) (l : List Int) (cap : Nat) (an : Option Addr) (ns : List Int) (cn : Nat) (w : World) (h : Vt m l) (hn : Names m ns) (hrow : IntRow w a l) (hrn : IntRow w an ns) :
    Calls Tryd.prog 9 #[.agg #[.int .i64 m, .slice a m cap], .slice an m cn] w fun e w' => (∃ a0 c0, e = .returned (.tuple #[.agg #[.int .i64 m, .slice a0 m c0], .bool true]) ∧ IntRow w' a0 (renL l ns)) ∧ Below w.heap.size w w' := by
  obtain ⟨hok, rfl⟩ := h
  have hp := hn.perm
  have hc := implRename (l.length : Int) a l cap an ns cn w hrow (Vt.max ⟨hok, rfl⟩) hrn (by rw [hn.1]; exact Vt.max ⟨hok, rfl⟩)
  rw [hn.1] at hc
  refine hc.mono ?_
  rintro e w' ⟨⟨a0, c0, rfl, ho⟩, hb⟩
  obtain ⟨_, h2, h3, _⟩ := renamed hok hp
  refine ⟨⟨a0, c0, ?_, own_int ho⟩, hb⟩
  rw [h3, h2, renB_L hok hp]
theorem flipM_ok (m : Nat) (a : Option Addr) (l : List Int) (cap i j : Nat) (w : World) (h : Vt m l) (hi : i < m) (hj : j < m) (hne : i ≠ j) (hrow : IntRow w a l) :
    Calls Tryd.prog 21 #[.agg #[.int .i64 m, .slice a m cap], .int .i64 i, .int .i64 j] w fun e w' => (∃ a0 c0, e = .returned (.tuple #[.agg #[.int .i64 m, .slice a0 m c0], .bool true]) ∧ IntRow w' a0 (flipM l i j)) ∧ Below w.heap.size w w' := by
  obtain ⟨hok, rfl⟩ := h
  refine (implFlip (l.length : Int) a l cap i j w hrow (Vt.max ⟨hok, rfl⟩)).mono ?_
  rintro e w' ⟨⟨a0, c0, rfl, ho⟩, hb⟩
  obtain ⟨_, h2, h3, _⟩ := flipped hok hi hj hne
  refine ⟨⟨a0, c0, ?_, own_int ho⟩, hb⟩
  rw [h3, h2, flipB_L hok hi hj hne]
theorem scores_ok (m : Nat) (a : Option Addr) (l : List Int) (cap : Nat) (w : World) (h : Vt m l) (hrow : IntRow w a l) :
    Calls Tryd.prog 10 #[.agg #[.int .i64 m, .slice a m cap]] w fun e w' => (∃ a0 c0, e = .returned (.slice a0 m c0) ∧ IntRow w' a0 (scL l)) ∧ Below w.heap.size w w' := by
  have hlen := scL_len h
  obtain ⟨hok, rfl⟩ := h
  refine (implScoresOf (l.length : Int) a l cap w hrow (Vt.max ⟨hok, rfl⟩)).mono ?_
  rintro e w' ⟨⟨v, rfl, ho⟩, hb⟩
  have hr : resS (l.length : Int) l = scoresL l := by unfold resS; rw [if_pos (okB_L hok)]
  rw [hr, nv_iv, ← List.length_map (f := Int.ofNat)] at ho
  change w'.ownsRow w.heap.size 3 1 v (scL l).length ((scL l).map iv) at ho
  obtain ⟨a0, c0, rfl, hrd, _⟩ := own_read ho
  rw [hlen]
  exact ⟨⟨a0, c0, rfl, hrd⟩, hb⟩
theorem same_ok (m : Nat) (a b : Option Addr) (l : List Int) (ca cb : Nat) (w : World) (h : Vt m l) (ha : IntRow w a l) (hb : IntRow w b l) :
    Calls Tryd.prog 11 #[.agg #[.int .i64 m, .slice a m ca], .agg #[.int .i64 m, .slice b m cb]] w fun e w' => e = .returned (.bool true) ∧ Below w.heap.size w w' := by
  obtain ⟨hok, rfl⟩ := h
  refine (implSame (l.length : Int) a l ca (l.length : Int) b l cb w ha hb (Vt.max ⟨hok, rfl⟩) (Vt.max ⟨hok, rfl⟩)).mono ?_
  rintro e w' ⟨rfl, hb⟩
  rw [cd_same hok]
  exact ⟨rfl, hb⟩
theorem count_turn (m : Nat) (a b : Option Addr) (l : List Int) (ca cb : Nat) (w : World) (h : Vt m l) (ha : IntRow w a l) (hb : IntRow w b (turnL l)) {K : Nat} (hK : 2 * K = m * (m - 1)) :
    Calls Tryd.prog 13 #[.agg #[.int .i64 m, .slice a m ca], .agg #[.int .i64 m, .slice b m cb]] w fun e w' => e = .returned (.int .i64 K) ∧ Below w.heap.size w w' := by
  have hu := h.turn
  obtain ⟨hok, rfl⟩ := h
  have hc := implCount (l.length : Int) a l ca ((turnL l).length : Int) b (turnL l) cb w ha hb (Vt.max ⟨hok, rfl⟩) (Vt.max hu)
  rw [hu.2] at hc
  refine hc.mono ?_
  rintro e w' ⟨rfl, hb⟩
  obtain ⟨K', hK', e⟩ := cd_turned hok
  have : K = K' := by omega
  have e2 : cdR (l.length : Int) l (l.length : Int) (turnL l) = (K' : Int) := by rw [← e]; congr 1; exact congrArg Int.ofNat hu.2.symm
  rw [e2, this]
  exact ⟨rfl, hb⟩
theorem count_flip (m : Nat) (a b : Option Addr) (l : List Int) (ca cb i j : Nat) (w : World) (h : Vt m l) (hi : i < m) (hj : j < m) (hne : i ≠ j) (ha : IntRow w a (flipM l i j)) (hb : IntRow w b l) :
    Calls Tryd.prog 13 #[.agg #[.int .i64 m, .slice a m ca], .agg #[.int .i64 m, .slice b m cb]] w fun e w' => e = .returned (.int .i64 1) ∧ Below w.heap.size w w' := by
  have hu := h.flip hi hj hne
  obtain ⟨hok, rfl⟩ := h
  have hc := implCount ((flipM l i j).length : Int) a (flipM l i j) ca (l.length : Int) b l cb w ha hb (Vt.max hu) (Vt.max ⟨hok, rfl⟩)
  rw [hu.2] at hc
  refine hc.mono ?_
  rintro e w' ⟨rfl, hb⟩
  have e2 : cdR (l.length : Int) (flipM l i j) (l.length : Int) l = 1 := by rw [← cd_flipped hok hi hj hne]; congr 1; exact congrArg Int.ofNat hu.2.symm
  rw [e2]
  exact ⟨rfl, hb⟩
theorem score_ok (m : Nat) (a : Option Addr) (l : List Int) (cap i : Nat) (w : World) (h : Vt m l) (hi : i < m) (hrow : IntRow w a l) :
    Calls Tryd.prog 14 #[.agg #[.int .i64 m, .slice a m cap], .int .i64 i] w fun e w' => e = .returned (.int .i64 (sc l i)) ∧ Below w.heap.size w w' := by
  obtain ⟨hok, rfl⟩ := h
  refine (implScoreOf (l.length : Int) a l cap i w hrow (Vt.max ⟨hok, rfl⟩)).mono ?_
  rintro e w' ⟨rfl, hb⟩
  have e2 : pl (l.length : Int) (i : Int) = true := pl_iff.2 (by omega)
  have e3 : scoreR (l.length : Int) l (i : Int) = (sc l i : Int) := by
    unfold scoreR
    rw [okB_L hok, e2, Bool.and_self, if_pos rfl, Int.toNat_natCast, pc_sc hok hi]
  rw [e3]
  exact ⟨rfl, hb⟩
theorem beat_ok (m : Nat) (a : Option Addr) (l : List Int) (cap i j : Nat) (w : World) (h : Vt m l) (hi : i < m) (hj : j < m) (hrow : IntRow w a l) :
    Calls Tryd.prog 15 #[.agg #[.int .i64 m, .slice a m cap], .int .i64 i, .int .i64 j] w fun e w' => e = .returned (.bool (bt l i j)) ∧ Below w.heap.size w w' := by
  obtain ⟨hok, rfl⟩ := h
  refine (implDoesBeat (l.length : Int) a l cap i j w hrow (Vt.max ⟨hok, rfl⟩)).mono ?_
  rintro e w' ⟨rfl, hb⟩
  have e1 : pl (l.length : Int) (i : Int) = true := pl_iff.2 (by omega)
  have e2 : pl (l.length : Int) (j : Int) = true := pl_iff.2 (by omega)
  have e3 : dbB (l.length : Int) l (i : Int) (j : Int) = bt l i j := by
    unfold dbB
    rw [okB_L hok, e1, e2, Int.toNat_natCast, Int.toNat_natCast]; rfl
  rw [e3]
  exact ⟨rfl, hb⟩
theorem part_ok (m : Nat) (a : Option Addr) (l : List Int) (cap s : Nat) (w : World) (h : Vt m l) (h1 : 1 ≤ s) (h2 : s < 2 ^ m) (hrow : IntRow w a l) :
    Calls Tryd.prog 19 #[.agg #[.int .i64 m, .slice a m cap], .int .i64 s] w fun e w' => (∃ a0 n0 c0, e = .returned (.tuple #[.agg #[.int .i64 (pc s), .slice a0 n0 c0], .bool true])) ∧ Below w.heap.size w w' := by
  obtain ⟨hok, rfl⟩ := h
  refine (implPart (l.length : Int) a l cap s w hrow (Vt.max ⟨hok, rfl⟩)).mono ?_
  rintro e w' ⟨⟨a0, c0, rfl, ho⟩, hb⟩
  obtain ⟨e1, e2⟩ := parted hok h1 h2
  rw [e1, e2]
  exact ⟨⟨_, _, _, rfl⟩, hb⟩
/-- A tour's text. -/
noncomputable def txt (l : List Int) : ByteArray := ⟨(fmtR (l.length : Int) l).toArray⟩
theorem fmt_ok (m : Nat) (a : Option Addr) (l : List Int) (cap : Nat) (w : World) (h : Vt m l) (hrow : IntRow w a l) (ht : HasTab w) :
    Calls Tryd.prog 17 #[.agg #[.int .i64 m, .slice a m cap]] w fun e w' => e = .returned (.string (txt l)) ∧ Below w.heap.size w w' := by
  obtain ⟨hok, rfl⟩ := h
  exact implFormat (l.length : Int) a l cap w hrow (Vt.max ⟨hok, rfl⟩) ht
theorem txt_size {m : Nat} {l : List Int} (h : Vt m l) {K : Nat} (hK : 2 * K = m * (m - 1)) : (txt l).size = 2 + K := by
  obtain ⟨hok, rfl⟩ := h
  obtain ⟨K', hK', e⟩ := fmtR_len hok
  have : K = K' := by omega
  show (fmtR (l.length : Int) l).toArray.size = _
  rw [List.size_toArray, e, this]
theorem parse_ok (m : Nat) (l : List Int) (w : World) (h : Vt m l) (ht : HasTab w) (he : HasErrs w) (hm : HasMax w) :
    Calls Tryd.prog 16 #[.string (txt l)] w fun e w' => (∃ a0 c0, e = .returned (.tuple #[.agg #[.int .i64 m, .slice a0 m c0], .bool true]) ∧ IntRow w' a0 l) ∧ Below w.heap.size w w' := by
  obtain ⟨hok, rfl⟩ := h
  have hs : (txt l).size ≤ 1048576 := by
    obtain ⟨K, hK, e⟩ := fmtR_len hok
    have h56 : l.length * (l.length - 1) ≤ 8 * 7 := Nat.mul_le_mul hok.le.2 (by have := hok.le.2; omega)
    show (fmtR (l.length : Int) l).toArray.size ≤ _
    rw [List.size_toArray]; omega
  obtain ⟨e1, e2⟩ := parse_yes (text_L hok)
  refine (implParse (txt l) w hs ht he hm).mono ?_
  have e3 : (txt l).data.toList = fmtR (l.length : Int) l := rfl
  rw [e3, e1, e2]
  rintro e w' ⟨⟨a0, c0, rfl, ho⟩, hb⟩
  exact ⟨⟨a0, c0, rfl, own_int ho⟩, hb⟩
end Go.Proofs.YtepladakcepgdaaDoor
