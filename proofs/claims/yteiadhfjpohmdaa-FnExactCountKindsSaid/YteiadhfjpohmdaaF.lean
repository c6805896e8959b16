/-
  Bits of small sets; 'newTour', 'addWin'; both 'ScoresOf'. The sets are below 256.
-/
import Derived.Test.YteiadhfjpohmdaaE
namespace Go.Proofs.Yteiadhfjpohmdaa
open Go.ChangeShapes Go.WideShapes Go.ChangeAt Go.RowKit
set_option linter.unusedVariables false

theorem ofInt_small (a : Nat) (h : a < 2 ^ 62) : (BitVec.ofInt 64 (a : Int)).toNat = a := by
  rw [BitVec.toNat_ofInt]; omega
theorem wrap_small (a : Nat) (h : a < 2 ^ 62) : IntKind.i64.wrap (a : Int) = a := by
  rw [IntKind.wrap_i64]; omega
theorem i64_or (a b : Nat) (ha : a < 2 ^ 62) (hb : b < 2 ^ 62) : bits .or .i64 (a : Int) (b : Int) = ((a ||| b : Nat) : Int) := by
  show IntKind.i64.wrap ((BitVec.ofInt 64 a ||| BitVec.ofInt 64 b).toNat : Nat) = _
  rw [BitVec.toNat_or, ofInt_small a ha, ofInt_small b hb]
  exact wrap_small _ (Nat.or_lt_two_pow ha hb)
theorem i64_xor (a b : Nat) (ha : a < 2 ^ 62) (hb : b < 2 ^ 62) : bits .xor .i64 (a : Int) (b : Int) = ((a ^^^ b : Nat) : Int) := by
  show IntKind.i64.wrap ((BitVec.ofInt 64 a ^^^ BitVec.ofInt 64 b).toNat : Nat) = _
  rw [BitVec.toNat_xor, ofInt_small a ha, ofInt_small b hb]
  exact wrap_small _ (Nat.xor_lt_two_pow ha hb)

def nv (y : Nat) : Value := .int .i64 (y : Int)
theorem nv_iv (ys : List Nat) : ys.map nv = (ys.map Int.ofNat).map iv := by rw [List.map_map]; rfl
theorem zeros (k : Nat) : (madeCells #[Value.int .i64 0] k).toList = (List.replicate k 0).map nv := by
  rw [toList_madeCells_one]; simp [nv]

set_option maxHeartbeats 400000 in
theorem newTour_any (n : Nat) (w : World) (hn : n ≤ 64) :
    Calls Try.prog 81 #[.int .i64 n] w fun e w' => (∃ g, e = .returned (.agg #[.int .i64 n, .slice (some ⟨g, 0, none⟩) n n]) ∧ w'.ownsRow w.heap.size 3 1 (.slice (some ⟨g, 0, none⟩) n n) n ((List.replicate n 0).map nv)) ∧ Below w.heap.size w w' := by
  obtain ⟨i0, hi, hz0, hz1, hz2⟩ := info_parts infoInt
  obtain ⟨Wa, hWa⟩ : ∃ Wa, Wa = w.alloc (.cells #[.int .i64 0, .slice none 0 0] 27) := ⟨_, rfl⟩
  have hba : Below w.heap.size w Wa := by rw [hWa]; exact (Below.refl _ _).alloc (Nat.le_refl _) _
  have sa : Wa.heap.size = w.heap.size + 1 := by rw [hWa]; simp
  have xa : Box Wa w.heap.size 27 (.int .i64 0) (.slice none 0 0) := by rw [hWa]; exact Box.new _ _ _ _
  have HWa := Lib.hid hWa
  clear hWa
  go_enter Try.func81, Try.ntmps81
  go_wp2_with (refine wpList_make_full _ rfl _ _ 22 rfl Wa.heap.size 3 i0 (.int .i64 0) 1 Try.underlying22 hi hz0 hz1 .i64 .i64 _ _ n rfl rfl rfl rfl ?c1 ?c2 ?c3 ?_)
  case c1 => rw [hz2]; omega
  case c2 => unfold maxLen; omega
  case c3 => rw [HWa.out]; exact Nat.le_refl _
  rw [← HWa.out]
  intro w1 hown hg
  have hb1 : Below Wa.heap.size Wa w1 := (Below.refl _ Wa).grown hg (Nat.le_refl _) (fun k hk => by cases hk)
  have x1 := xa.below hb1 xa.lt
  rw [zeros] at hown
  have c0 := x1.c0
  have c1 := x1.c1
  have f0 := x1.f0
  have f1 := x1.f1
  have X := Lib.hid x1
  have HO := Lib.hid hown
  clear x1 hown hg xa
  go_wp2
  refine bodyPost_ret (v := .agg #[.int .i64 n, .slice (some ⟨w.heap.size + 1, 0, none⟩) n n]) (Box.res1 rfl _ rfl ((X.out.set0 _).set1 _)) rfl ⟨⟨w.heap.size + 1, rfl, ?_⟩, ?_⟩
  · exact (own_set (own_set HO.out ⟨w.heap.size, 0, none⟩ _ (by show w.heap.size < w.heap.size + 1; omega)) ⟨w.heap.size, 1, none⟩ _ (by show w.heap.size < w.heap.size + 1; omega)).mono (by omega)
  · exact ((hba.trans (hb1.mono (by omega))).setCell (p := ⟨w.heap.size, 0, none⟩) (Nat.le_refl _) _).setCell (p := ⟨w.heap.size, 1, none⟩) (Nat.le_refl _) _

set_option maxHeartbeats 400000 in
theorem addWin_any (B g m cap i j : Nat) (ys : List Nat) (w : World) (hm : m ≤ 64) (hi : i < m) (hj : j ≤ 8) (hy : ∀ y ∈ ys, y < 256) (hB : B ≤ w.heap.size)
    (hown : w.ownsRow B 3 1 (.slice (some ⟨g, 0, none⟩) m cap) m (ys.map nv)) :
    Calls Try.prog 82 #[.agg #[.int .i64 m, .slice (some ⟨g, 0, none⟩) m cap], .int .i64 i, .int .i64 j] w fun e w' => (∃ v, e = .returned v) ∧ w'.ownsRow B 3 1 (.slice (some ⟨g, 0, none⟩) m cap) m ((ys.set i (ys.getD i 0 ||| 2 ^ j)).map nv) ∧ Below B w w' := by
  have hlen : ys.length = m := by simpa using hown.1
  have hgB := (hown.lt g rfl).1
  have hgl := (hown.lt g rfl).2
  have hown1 := hown.alloc (.cells #[.int .i64 m, .slice (some ⟨g, 0, none⟩) m cap] 27)
  obtain ⟨y, hyy⟩ : ∃ y, y = ys.getD i 0 := ⟨_, rfl⟩
  have hy256 : y < 256 := by rw [hyy, List.getD_eq_getElem?_getD, List.getElem?_eq_getElem (by omega)]; exact hy _ (List.getElem_mem _)
  have hc := hown1.cellAt i (by omega)
  rw [List.getElem?_map, show ys[i]? = some y by rw [hyy, List.getD_eq_getElem?_getD, List.getElem?_eq_getElem (by omega)]; rfl] at hc
  have hc' : (w.alloc (.cells #[.int .i64 (m : Int), .slice (some ⟨g, 0, none⟩) m cap] 27)).cell? ⟨g, i, none⟩ = some (.int .i64 (y : Int)) := hc
  have hf := hown1.frozenAt i
  have hp8 := pow_le j hj
  have hor : bits .or .i64 (y : Int) (wrap64 (2 ^ j)) = ((y ||| 2 ^ j : Nat) : Int) := by rw [wrapPow j hj]; exact i64_or _ _ (by omega) (by omega)
  have hst := (hown.stored i (nv (y ||| 2 ^ j))).1
  rw [show ((ys.map nv).set i (nv (y ||| 2 ^ j))) = (ys.set i (ys.getD i 0 ||| 2 ^ j)).map nv by rw [← hyy, List.map_set]] at hst
  obtain ⟨z, hz⟩ : ∃ z : Int, z = ((y ||| 2 ^ j : Nat) : Int) := ⟨_, rfl⟩
  have hst2 : (w.setCell ⟨g, i, none⟩ (.int .i64 z)).ownsRow B 3 1 (.slice (some ⟨g, 0, none⟩) m cap) m ((ys.set i (ys.getD i 0 ||| 2 ^ j)).map nv) := by rw [hz]; exact hst
  rw [← hz] at hor
  have HS := Lib.hid hst2
  have him : (i : Int) < (m : Int) := by omega
  clear hst hst2 hc hown hown1 hy hyy hz
  go_enter Try.func82, Try.ntmps82
  go_wp2
  go_region
  all_goals
    go_wp2
    go_end0
    exact ⟨⟨_, rfl⟩, (HS.out.alloc (.cells #[.int .i64 m, .slice (some ⟨g, 0, none⟩) m cap] 27)).drew, (((Below.refl B w).setCell (p := ⟨g, i, none⟩) hgB _).alloc (by simpa using hB) _).drew⟩

/-- The scores. -/
def scoresL (l : List Int) : List Nat := l.map fun x => pc x.toNat
theorem scoresL_len (l : List Int) : (scoresL l).length = l.length := by simp [scoresL]
theorem scoresL_at (l : List Int) (k x : Nat) (hk : k < l.length) (hx : l.getD k 0 = x) : (scoresL l)[k]? = some (pc x) := by
  have : l[k]? = some (x : Int) := by rw [List.getD_eq_getElem?_getD, List.getElem?_eq_getElem hk] at hx; rw [List.getElem?_eq_getElem hk]; exact congrArg some hx
  simp [scoresL, this]
theorem take_snoc {α : Type} (l : List α) (k : Nat) (x : α) (h : l[k]? = some x) : l.take (k + 1) = l.take k ++ [x] := by
  rw [List.take_add_one, h]; rfl
/-- The cells of the first k numbers. -/
def upTo (ys : List Nat) (k : Nat) : List Value := (ys.take k).map nv
theorem upTo_succ (ys : List Nat) (k x : Nat) (h : ys[k]? = some x) : upTo ys (k + 1) = upTo ys k ++ [.int .i64 x] := by
  unfold upTo
  rw [take_snoc ys k x h, List.map_append]; rfl
theorem upTo_all (ys : List Nat) : upTo ys ys.length = ys.map nv := by simp [upTo]
/-- A row that is filled from its start. -/
def fillTo (ys : List Nat) (m k : Nat) : List Nat := ys.take k ++ List.replicate (m - k) 0
theorem fillTo_set (ys : List Nat) (m k x : Nat) (hm : ys.length = m) (hk : k < m) (hx : ys[k]? = some x) : (fillTo ys m k).set k x = fillTo ys m (k + 1) := by
  unfold fillTo
  rw [List.set_append, if_neg (by simp; omega), take_snoc ys k x hx]
  have e1 : k - (ys.take k).length = 0 := by simp; omega
  have e2 : m - k = (m - (k + 1)) + 1 := by omega
  rw [e1, e2, List.replicate_succ, List.set_cons_zero, List.append_assoc]
  rfl
theorem fillTo_all (ys : List Nat) : fillTo ys ys.length ys.length = ys := by simp [fillTo]

/-- What both 'ScoresOf' answer. -/
noncomputable def resS (n : Int) (l : List Int) : List Nat := if okB n l then scoresL l else []

set_option maxHeartbeats 400000 in
theorem implScoresOf (n : Int) (a : Option Addr) (l : List Int) (cap : Nat) (w : World) (hrow : IntRow w a l) (hl : l.length ≤ maxLen) :
    Calls Try.prog 68 #[.agg #[.int .i64 n, .slice a l.length cap]] w fun e w' => (∃ v, e = .returned v ∧ w'.ownsRow w.heap.size 3 1 v (resS n l).length ((resS n l).map nv)) ∧ Below w.heap.size w w' := by
  obtain ⟨i0, hi, hz0, hz1, hz2⟩ := info_parts infoInt
  obtain ⟨Wa, hWa⟩ : ∃ Wa, Wa = w.alloc (.cells #[.int .i64 n, .slice a l.length cap] 27) := ⟨_, rfl⟩
  have HWa := Lib.hid hWa
  have hba : Below w.heap.size w Wa := by rw [hWa]; exact (Below.refl _ _).alloc (Nat.le_refl _) _
  have xa : Box Wa w.heap.size 27 (.int .i64 n) (.slice a l.length cap) := by rw [hWa]; exact Box.new _ _ _ _
  have hrowa : IntRow Wa a l := hrow.below hba (Nat.le_refl _)
  have HL := Lib.hid hl
  clear hl hrow hWa
  cases hok : okB n l
  · have HO := Lib.hid hok
    have HE : Hid (resS n l = []) := by show _ = _; unfold resS; rw [hok]; rfl
    clear hok
    go_enter Try.func68, Try.ntmps68
    go_wp2_with fail
    rw [← HWa.out]
    refine (implTourOk n a l cap Wa hrowa HL.out).mono ?_
    rintro e w1 ⟨rfl, hb1⟩
    rw [HO.out]
    go_wp2
    go_ret
    exact ⟨⟨_, rfl, by rw [HE.out]; exact World.ownsRow_nil _ _ _ _⟩, hba.trans (hb1.mono hba.size)⟩
  · have HO := Lib.hid hok
    have HK : Hid (Ok n l) := okB_iff.1 hok
    have HE : Hid (resS n l = scoresL l) := by show _ = _; unfold resS; rw [hok]; rfl
    have hnl : n = (l.length : Int) := HK.out.2.2.1.symm
    have hl8 : l.length ≤ 8 := by have := HK.out.2.1; have := HK.out.2.2.1; omega
    have HLn := Lib.hid (scoresL_len l)
    subst hnl
    clear hok
    go_enter Try.func68, Try.ntmps68
    go_wp2_with fail
    rw [← HWa.out]
    refine (implTourOk _ a l cap Wa hrowa HL.out).mono ?_
    rintro e w1 ⟨rfl, hb1⟩
    rw [HO.out]
    have xa1 := xa.below hb1 xa.lt
    have hrow1 := hrowa.below hb1 (Nat.le_refl _)
    have c0 := xa1.c0
    have c1 := xa1.c1
    go_wp2_with (refine wpList_make_full _ rfl _ _ 22 rfl w.heap.size 3 i0 (.int .i64 0) 1 Try.underlying22 hi hz0 hz1 .i64 .i64 _ _ l.length rfl rfl rfl rfl ?c1 ?c2 ?c3 ?_)
    case c1 => rw [hz2]; omega
    case c2 => unfold maxLen; omega
    case c3 => exact (hba.trans (hb1.mono hba.size)).size
    intro w2 hown hg
    have hb2 : Below w1.heap.size w1 w2 := (Below.refl _ _).grown hg (Nat.le_refl _) (fun k hk => by cases hk)
    have b1 := hba.trans (hb1.mono hba.size)
    have b2 := b1.trans (hb2.mono b1.size)
    have hxa2 := xa1.below hb2 xa1.lt
    have hrow2 := hrow1.below hb2 (Nat.le_refl _)
    have hown1 : w2.ownsRow w.heap.size 3 1 (.slice (some ⟨w1.heap.size, 0, none⟩) l.length l.length) l.length ((fillTo (scoresL l) l.length 0).map nv) := by
      rw [zeros] at hown; exact hown
    clear hown hg c0 c1
    have c1 := hxa2.c1
    go_wp2
    go_loopw [15] (fun i wr => ∃ (k : Nat), k ≤ l.length ∧ i = .int .i64 k ∧ wr.ownsRow w.heap.size 3 1 (.slice (some ⟨w1.heap.size, 0, none⟩) l.length l.length) l.length ((fillTo (scoresL l) l.length k).map nv) ∧ Below w1.heap.size w1 wr) (fun i _ => l.length - (intOf i).toNat)
    case atStart => exact ⟨0, Nat.zero_le _, rfl, hown1, hb2⟩
    case round =>
      obtain ⟨k, hk, rfl, hown, hb⟩ := hrel
      by_cases hlt : k < l.length
      · obtain ⟨x, hx, _, hx8⟩ := HK.out.nat hlt
        obtain ⟨b, off, rfl, hbb2, hcx⟩ := hrow1.at hlt
        rw [hx] at hcx
        have hcr := (hb.cell (p := ⟨b, off + k, none⟩) hbb2).trans hcx
        have hib : (k : Int) < (l.length : Int) := by omega
        have hmx : l.length ≤ 9223372036854775807 := by omega
        have hst := (hown.stored k (nv (pc x))).1
        rw [← List.map_set, fillTo_set (scoresL l) l.length k (pc x) HLn.out hlt (scoresL_at l k x hlt hx)] at hst
        have hst2 : (wr.setCell ⟨w1.heap.size, k, none⟩ (.int .i64 (pc x))).ownsRow w.heap.size 3 1 (.slice (some ⟨w1.heap.size, 0, none⟩) l.length l.length) l.length ((fillTo (scoresL l) l.length (k + 1)).map nv) := hst
        have hcy := hown.cellAt k (by omega)
        have hfr := hown.frozenAt k
        obtain ⟨u, hu⟩ : ∃ u, ((fillTo (scoresL l) l.length k).map nv)[k]? = some u := ⟨_, List.getElem?_eq_getElem (by have := hown.1; simp at this; simp; omega)⟩
        rw [hu] at hcy
        have H2 := Lib.hid hst2
        have hb3 : Below w1.heap.size w1 (wr.setCell ⟨w1.heap.size, k, none⟩ (.int .i64 (pc x))) := hb.setCell (p := ⟨w1.heap.size, k, none⟩) (Nat.le_refl _) _
        clear hx hcx hst hst2 hu hown
        go_wp2_with fail
        refine (countElements_any x hx8 _).mono ?_
        rintro e w' ⟨rfl, rfl⟩
        go_wp2
        go_roundw
        case rel => exact ⟨k + 1, by omega, by go_num, H2.out, hb3⟩
        case measure => simp [intOf]; omega
      · obtain rfl : k = l.length := by omega
        have hown2 : wr.ownsRow w.heap.size 3 1 (.slice (some ⟨w1.heap.size, 0, none⟩) l.length l.length) (scoresL l).length ((scoresL l).map nv) := by
          have := hown
          rw [show fillTo (scoresL l) l.length l.length = scoresL l by rw [← HLn.out]; exact fillTo_all _] at this
          rw [HLn.out]; exact this
        clear hown
        go_wp2
        go_ret
        exact ⟨⟨_, rfl, by rw [HE.out]; exact hown2⟩, b1.trans (hb.mono b1.size)⟩
end Go.Proofs.Yteiadhfjpohmdaa
