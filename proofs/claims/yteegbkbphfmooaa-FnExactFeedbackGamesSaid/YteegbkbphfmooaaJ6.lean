/-
  'IsWay' of the program. No conditions but the bounds that Go gives a slice.
-/
import Derived.Test.YteegbkbphfmooaaJ1
namespace Go.Proofs.Yteegbkbphfmooaa
open Go.ChangeShapes Go.WideShapes Go.ChangeAt Go.RowKit
set_option linter.unusedVariables false

/-- A list of numbers that is a way of the tour. -/
def Good (l L : List Int) : Prop := (∀ x ∈ L, 0 ≤ x ∧ x < (l.length : Int)) ∧ Hw.Way (ww l) (L.map Int.toNat)
theorem Good.nil (l : List Int) : Good l [] := ⟨by simp, Hw.Way.nil _⟩
theorem Good.init {l L : List Int} {x : Int} (h : Good l (L ++ [x])) : Good l L ∧ 0 ≤ x ∧ x < (l.length : Int) ∧ x.toNat ∉ L.map Int.toNat ∧ (L = [] ∨ (ww l ((L.map Int.toNat).getLastD 0)).testBit x.toNat = true) := by
  have h2 := h.2
  rw [List.map_append, List.map_singleton] at h2
  obtain ⟨a, b, c⟩ := h2.init
  have hx := h.1 x (by simp)
  refine ⟨⟨fun y hy => h.1 y (by simp [hy]), a⟩, hx.1, hx.2, b, ?_⟩
  rcases c with c | c
  · exact .inl (by simpa using c)
  · exact .inr c
theorem Good.snoc {l L : List Int} {x : Int} (h : Good l L) (h0 : 0 ≤ x) (h1 : x < (l.length : Int)) (hb : x.toNat ∉ L.map Int.toNat) (hl : L = [] ∨ (ww l ((L.map Int.toNat).getLastD 0)).testBit x.toNat = true) : Good l (L ++ [x]) := by
  refine ⟨fun y hy => ?_, ?_⟩
  · rcases List.mem_append.1 hy with h2 | h2
    · exact h.1 y h2
    · obtain rfl : y = x := by simpa using h2
      exact ⟨h0, h1⟩
  · rw [List.map_append, List.map_singleton]
    refine h.2.snoc hb ?_
    rcases hl with rfl | hl
    · exact .inl rfl
    · exact .inr hl
theorem Hw.Way.pre {f : Nat → Nat} {p q : List Nat} (h : Hw.Way f (p ++ q)) : Hw.Way f p := by
  have hnd := List.nodup_append.1 h.1
  refine ⟨hnd.1, fun i hi => ?_⟩
  have := h.2 i (by rw [List.length_append]; omega)
  rwa [Hw.getD_append_lt hi, Hw.getD_append_lt (by omega)] at this
theorem Good.take {l L : List Int} (h : Good l L) (j : Nat) : Good l (L.take j) := by
  refine ⟨fun x hx => h.1 x (List.mem_of_mem_take hx), ?_⟩
  have h2 := h.2
  rw [← List.take_append_drop j L, List.map_append] at h2
  exact h2.pre
theorem Good.len {l L : List Int} (h : Good l L) : L.length ≤ l.length := by
  have := Hw.way_len (m := l.length) h.2.1 (fun x hx => by
    obtain ⟨y, hy, rfl⟩ := List.mem_map.1 hx
    have := h.1 y hy
    omega)
  simpa using this
theorem Good.small {l L : List Int} (h : Good l L) (h8 : l.length ≤ 8) : ∀ x ∈ L.map Int.toNat, x < 8 := fun x hx => by
  obtain ⟨y, hy, rfl⟩ := List.mem_map.1 hx
  have := h.1 y hy
  omega
/-- Whether a list is a way of a valid tour. -/
noncomputable def isW (n : Int) (l L : List Int) : Bool := by classical exact decide (Ok n l ∧ Good l L)
theorem isW_false {n : Int} {l L : List Int} (h : ¬ (Ok n l ∧ Good l L)) : isW n l L = false := by simp [isW, h]
theorem isW_true {n : Int} {l L : List Int} (h : Ok n l ∧ Good l L) : isW n l L = true := by simp [isW, h]
/-- Where the loop stands. -/
def WyAt (l L : List Int) (k s : Nat) : Prop := Good l (L.take k) ∧ Hw.Sp ((L.take k).map Int.toNat) s
theorem WyAt.zero (l L : List Int) : WyAt l L 0 0 := ⟨by simpa using Good.nil l, fun x => by simp⟩
theorem take_last (L : List Int) (k : Nat) (hk : k < L.length) (h0 : 0 < k) : ((L.take k).map Int.toNat).getLastD 0 = (L.getD (k - 1) 0).toNat := by
  rw [Hw.last_getD _ (by intro e; have := congrArg List.length e; rw [List.length_map, List.length_take, List.length_nil] at this; omega)]
  simp only [List.length_map, List.length_take]
  rw [show min k L.length - 1 = k - 1 by omega, List.getD_eq_getElem?_getD, List.getElem?_map, List.getElem?_take, if_pos (by omega), List.getD_eq_getElem?_getD]
  rw [List.getElem?_eq_getElem (show k - 1 < L.length by omega)]; rfl

theorem wwBit {n : Int} {l : List Int} (h : Ok n l) {c b : Nat} (hc : c < l.length) : bt l c b = (ww l c).testBit b := by
  obtain ⟨e, _, _⟩ := h.ww hc
  unfold bt
  rw [e, bi_nat]

set_option maxRecDepth 100000 in
set_option maxHeartbeats 2000000 in
theorem implIsWay (n : Int) (a : Option Addr) (l : List Int) (cap : Nat) (an : Option Addr) (L : List Int) (cn : Nat) (w : World) (hrow : IntRow w a l) (hl : l.length ≤ maxLen) (hrn : IntRow w an L) (hn : L.length ≤ maxLen) :
    Calls Try.prog 24 #[.agg #[.int .i64 n, .slice a l.length cap], .slice an L.length cn] w fun e w' => e = .returned (.bool (isW n l L)) ∧ Below w.heap.size w w' := by
  obtain ⟨Wa, hWa⟩ : ∃ Wa, Wa = w.alloc (.cells #[.int .i64 n, .slice a l.length cap] 25) := ⟨_, rfl⟩
  have HWa := Lib.hid hWa
  have hba : Below w.heap.size w Wa := by rw [hWa]; exact (Below.refl _ _).alloc (Nat.le_refl _) _
  have xa : Box Wa w.heap.size 25 (.int .i64 n) (.slice a l.length cap) := by rw [hWa]; exact Box.new _ _ _ _
  have hrowa : IntRow Wa a l := hrow.below hba (Nat.le_refl _)
  have hrna : IntRow Wa an L := hrn.below hba (Nat.le_refl _)
  have HL := Lib.hid hl
  unfold maxLen at hn
  clear hl hrow hrn hWa
  cases hok : okB n l
  · have HO := Lib.hid hok
    have HE : Hid (isW n l L = false) := isW_false (fun h => by rw [okB_true h.1] at hok; cases hok)
    clear hok
    go_enter Try.func24, Try.ntmps24
    go_wp2_with fail
    rw [← HWa.out]
    refine (implTourOk n a l cap Wa hrowa HL.out).mono ?_
    rintro e w1 ⟨rfl, hb1⟩
    rw [HO.out]
    have B1 := Lib.hid (hba.trans (hb1.mono hba.size))
    clear hb1
    go_wp2
    go_ret
    exact ⟨by rw [HE.out]; rfl, B1.out⟩
  have HO := Lib.hid hok
  have HK : Hid (Ok n l) := okB_iff.1 hok
  have hnl := HK.out.2.2.1
  have h8 : l.length ≤ 8 := by have := HK.out.2.1; omega
  subst hnl
  clear hok
  go_enter Try.func24, Try.ntmps24
  go_wp2_with fail
  rw [← HWa.out]
  refine (implTourOk _ a l cap Wa hrowa HL.out).mono ?_
  rintro e w1 ⟨rfl, hb1⟩
  rw [HO.out]
  have X1 := Lib.hid (xa.below hb1 xa.lt)
  have B1 := Lib.hid (hba.trans (hb1.mono hba.size))
  have R1 := Lib.hid (hrowa.below hb1 (Nat.le_refl _))
  have N1 := Lib.hid (hrna.below hb1 (Nat.le_refl _))
  clear hb1 xa hrowa hrna hba
  go_wp2
  go_loopw [5, 13] (fun b i wr => ∃ k s : Nat, k ≤ L.length ∧ i = .int .i64 k ∧ b = .int .i64 (s : Int) ∧ Hid (WyAt l L k s) ∧ Below w1.heap.size w1 wr) (fun _ i _ => L.length - (intOf i).toNat)
  case atStart => exact ⟨0, 0, Nat.zero_le _, rfl, rfl, WyAt.zero _ _, Below.refl _ _⟩
  case round =>
    obtain ⟨k, s, hk, rfl, rfl, hwy, hb⟩ := hrel
    by_cases hlt : k < L.length
    · have hsp := hwy.out.2
      have hgd := hwy.out.1
      have hs8 : s < 256 := hsp.lt (hgd.small h8)
      obtain ⟨bq, off, rfl, hbb, hcx⟩ := N1.out.at hlt
      obtain ⟨x, hx⟩ : ∃ x, x = L.getD k 0 := ⟨_, rfl⟩
      rw [← hx] at hcx
      have hcr := (hb.cell (p := ⟨bq, off + k, none⟩) hbb).trans hcx
      have xr := X1.out.below hb X1.out.lt
      have c0 := xr.c0
      have c1 := xr.c1
      have hrr := R1.out.below hb (Nat.le_refl _)
      have hq0 := fun d os => cell_regrown c0 d os
      have hq1 := fun d os => cell_regrown c1 d os
      have hqx := fun d os => cell_regrown hcr d os
      have hrq : ∀ d os, IntRow (Go.Sort.grow (redrawn wr d) os) a l := fun d os => hrr.below (below_regrown wr d os) (Nat.le_refl _)
      have hki : (k : Int) < (L.length : Int) := by omega
      have htk : L.take (k + 1) = L.take k ++ [x] := take_snoc L k x (by rw [hx, List.getD_eq_getElem?_getD, List.getElem?_eq_getElem hlt]; rfl)
      have HB := Lib.hid (B1.out.trans (hb.mono B1.out.size))
      -- whether the player is one
      cases hp : pl l.length x
      · have HE : Hid (isW (l.length : Int) l L = false) := isW_false (fun h => by
          have h2 := h.2.take (k + 1)
          rw [htk] at h2
          have h3 := h2.init
          have : pl l.length x = true := pl_iff.2 ⟨h3.2.1, h3.2.2.1⟩
          rw [hp] at this; cases this)
        have cP : ∀ d os, Calls Try.prog 73 #[.agg #[.int .i64 (l.length : Int), .slice a l.length cap], .int .i64 x] (Go.Sort.grow (redrawn wr d) os) fun e w'' => e = .returned (.bool false) ∧ ∃ p : Regrown, w'' = Go.Sort.grow (redrawn wr p.d) p.os :=
          fun d os => Calls.regrown_of ((hasPlayer_any _ _ _ _ _ _).mono fun e w' ⟨he, hw⟩ => ⟨by rw [he]; exact congrArg (fun b => Ending.returned (.bool b)) hp, hw⟩)
        clear hwy hsp hgd hx hcx htk hp hrq hrr xr c0 c1
        go_wp2
        refine wp_region_quiet_below (by kernel_rfl) (by kernel_rfl) ?_
        repeat (go_big_quiet_step (exact cP _ _))
        refine wpQuiet_nil ?_
        intro wq hw'
        have hbq : Below wr.heap.size wr wq := by obtain ⟨⟨dq, osq⟩, hw''⟩ := hw'; rw [hw'']; exact below_regrown wr dq osq
        have HBQ := Lib.hid (HB.out.trans (hbq.mono HB.out.size))
        clear hw' cP hq0 hq1 hqx hcr hbq hb
        go_wp2
        go_ret
        exact ⟨by rw [HE.out]; rfl, HBQ.out⟩
      · obtain ⟨y, hy, hyl⟩ : ∃ y : Nat, x = y ∧ y < l.length := by have := pl_iff.1 hp; exact ⟨x.toNat, by omega, by omega⟩
        have cP : ∀ d os, Calls Try.prog 73 #[.agg #[.int .i64 (l.length : Int), .slice a l.length cap], .int .i64 (y : Int)] (Go.Sort.grow (redrawn wr d) os) fun e w'' => e = .returned (.bool true) ∧ ∃ p : Regrown, w'' = Go.Sort.grow (redrawn wr p.d) p.os :=
          fun d os => Calls.regrown_of ((hasPlayer_any _ _ _ _ _ _).mono fun e w' ⟨he, hw⟩ => ⟨by rw [he, ← hy]; exact congrArg (fun b => Ending.returned (.bool b)) hp, hw⟩)
        subst hy
        have hy64 : y < 64 := by omega
        have cE : ∀ (b : Bool), s.testBit y = b → ∀ d os, Calls Try.prog 76 #[.int .i64 (s : Int), .int .i64 (y : Int)] (Go.Sort.grow (redrawn wr d) os) fun e w'' => e = .returned (.bool b) ∧ ∃ p : Regrown, w'' = Go.Sort.grow (redrawn wr p.d) p.os :=
          fun b hb2 d os => Calls.regrown_of ((hasElement_any _ _ _ hy64).mono fun e w' ⟨he, hw⟩ => ⟨by rw [he, bi_nat, hb2], hw ▸ Below.refl _ _⟩)
        have hmem : s.testBit y = ((L.take k).map Int.toNat).contains y := hsp y
        cases hs : s.testBit y
        · have cE0 := cE false hs
          have hnin : y ∉ (L.take k).map Int.toNat := by
            rw [hs] at hmem
            intro h; rw [List.contains_iff_mem.2 h] at hmem; cases hmem
          have hp8 := pow_le y (by omega)
          have hor : bits .or .i64 (s : Int) (wrap64 (2 ^ y)) = ((s ||| 2 ^ y : Nat) : Int) := by rw [wrapPow y (by omega)]; exact i64_or _ _ (by omega) (by omega)
          obtain ⟨z, hz⟩ : ∃ z, z = s ||| 2 ^ y := ⟨_, rfl⟩
          have hspz : Hw.Sp ((L.take (k + 1)).map Int.toNat) z := by
            rw [htk, List.map_append, hz]; exact hsp.snoc
          rw [← hz] at hor
          by_cases hk0 : 0 < k
          · obtain ⟨b2, off2, hae, hbb2, hcx2⟩ := N1.out.at (show k - 1 < L.length by omega)
            obtain ⟨rfl, rfl⟩ : bq = b2 ∧ off = off2 := by simpa using hae
            have hgp := hgd.1 (L.getD (k - 1) 0) (by
              rw [List.getD_eq_getElem?_getD, List.getElem?_eq_getElem (show k - 1 < L.length by omega)]
              have : (L.take k)[k - 1]'(by simp; omega) = L[k - 1] := by simp
              exact this ▸ List.getElem_mem _)
            obtain ⟨u, hu⟩ : ∃ u : Nat, L.getD (k - 1) 0 = u := ⟨(L.getD (k - 1) 0).toNat, by omega⟩
            rw [hu] at hcx2
            have hul : u < l.length := by omega
            have hlast : ((L.take k).map Int.toNat).getLastD 0 = u := by rw [take_last L k hlt hk0, hu]; rfl
            have hcr2 := (hb.cell (p := ⟨bq, off + (k - 1), none⟩) hbb).trans hcx2
            have hqy := fun d os => cell_regrown hcr2 d os
            have cB : ∀ (b : Bool), (ww l u).testBit y = b → ∀ d os, Calls Try.prog 77 #[.agg #[.int .i64 (l.length : Int), .slice a l.length cap], .int .i64 (u : Int), .int .i64 (y : Int)] (Go.Sort.grow (redrawn wr d) os) fun e w'' => e = .returned (.bool b) ∧ ∃ p : Regrown, w'' = Go.Sort.grow (redrawn wr p.d) p.os :=
              fun b hb2 d os => Calls.regrown_of ((beats_any _ _ l cap u y _ (hrq d os) HL.out hul hy64).mono fun e w' ⟨he, hw⟩ => ⟨by rw [he, wwBit HK.out hul, hb2], hw⟩)
            have hk1 : (0 : Int) < (k : Int) := by omega
            have hk2 : (1 : Int) ≤ (k : Int) := by omega
            have hk3 : ((k : Int) - 1).toNat = k - 1 := by omega
            cases hbe : (ww l u).testBit y
            · have cB0 := cB false hbe
              have HE : Hid (isW (l.length : Int) l L = false) := isW_false (fun h => by
                have h2 := h.2.take (k + 1)
                rw [htk] at h2
                rcases h2.init.2.2.2.2 with h3 | h3
                · have := congrArg List.length h3; rw [List.length_take, List.length_nil] at this; omega
                · rw [hlast] at h3
                  rw [show ((y : Int)).toNat = y from rfl, hbe] at h3; cases h3)
              clear hwy hsp hgd hx hcx htk hp hrq hrr xr c0 c1 cE cB hbe hs hmem hlast hu hgp hspz hor hz hnin
              go_wp2
              refine wp_region_quiet_below (by kernel_rfl) (by kernel_rfl) ?_
              repeat (go_big_quiet_step (first | exact cP _ _ | exact cE0 _ _ | exact cB0 _ _))
              refine wpQuiet_nil ?_
              intro wq hw'
              have hbq : Below wr.heap.size wr wq := by obtain ⟨⟨dq, osq⟩, hw''⟩ := hw'; rw [hw'']; exact below_regrown wr dq osq
              have HBQ := Lib.hid (HB.out.trans (hbq.mono HB.out.size))
              clear hw' cP cE0 cB0 hq0 hq1 hqx hqy hcr hcr2 hbq hb
              go_wp2
              go_ret
              exact ⟨by rw [HE.out]; rfl, HBQ.out⟩
            · have cB0 := cB true hbe
              have HN : Hid (WyAt l L (k + 1) z) := ⟨by rw [htk]; exact hgd.snoc (by omega) (by omega) hnin (.inr (by rw [hlast]; exact hbe)), hspz⟩
              clear hwy hsp hgd hx hcx htk hp hrq hrr xr c0 c1 cE cB hbe hs hmem hlast hu hgp hspz hz hnin
              go_wp2
              refine wp_region_quiet_below (by kernel_rfl) (by kernel_rfl) ?_
              repeat (go_big_quiet_step (first | exact cP _ _ | exact cE0 _ _ | exact cB0 _ _))
              refine wpQuiet_nil ?_
              intro wq hw'
              have hbq : Below wr.heap.size wr wq := by obtain ⟨⟨dq, osq⟩, hw''⟩ := hw'; rw [hw'']; exact below_regrown wr dq osq
              have HBW := Lib.hid (hb.trans (hbq.mono hb.size))
              clear hw' cP cE0 cB0 hq0 hq1 hqx hqy hcr hcr2 hbq hb
              go_wp2
              go_roundw
              case rel => exact ⟨k + 1, z, by omega, by go_num, rfl, HN, HBW.out⟩
              case measure => simp [intOf]; omega
          · have hk1 : ¬ (0 : Int) < (k : Int) := by omega
            have HN : Hid (WyAt l L (k + 1) z) := ⟨by rw [htk]; exact hgd.snoc (by omega) (by omega) hnin (.inl (by rw [show k = 0 by omega]; rfl)), hspz⟩
            clear hwy hsp hgd hx hcx htk hp hrq hrr xr c0 c1 cE hs hmem hspz hz hnin
            go_wp2
            refine wp_region_quiet_below (by kernel_rfl) (by kernel_rfl) ?_
            repeat (go_big_quiet_step (first | exact cP _ _ | exact cE0 _ _))
            refine wpQuiet_nil ?_
            intro wq hw'
            have hbq : Below wr.heap.size wr wq := by obtain ⟨⟨dq, osq⟩, hw''⟩ := hw'; rw [hw'']; exact below_regrown wr dq osq
            have HBW := Lib.hid (hb.trans (hbq.mono hb.size))
            clear hw' cP cE0 hq0 hq1 hqx hcr hbq hb
            go_wp2
            go_roundw
            case rel => exact ⟨k + 1, z, by omega, by go_num, rfl, HN, HBW.out⟩
            case measure => simp [intOf]; omega
        · have cE0 := cE true hs
          have HE : Hid (isW (l.length : Int) l L = false) := isW_false (fun h => by
            have h2 := h.2.take (k + 1)
            rw [htk] at h2
            have h3 := h2.init.2.2.2.1
            rw [hs] at hmem
            exact h3 (List.contains_iff_mem.1 hmem.symm))
          clear hwy hsp hgd hx hcx htk hp hrq hrr xr c0 c1 cE hs hmem
          go_wp2
          refine wp_region_quiet_below (by kernel_rfl) (by kernel_rfl) ?_
          repeat (go_big_quiet_step (first | exact cP _ _ | exact cE0 _ _))
          refine wpQuiet_nil ?_
          intro wq hw'
          have hbq : Below wr.heap.size wr wq := by obtain ⟨⟨dq, osq⟩, hw''⟩ := hw'; rw [hw'']; exact below_regrown wr dq osq
          have HBQ := Lib.hid (HB.out.trans (hbq.mono HB.out.size))
          clear hw' cP cE0 hq0 hq1 hqx hcr hbq hb
          go_wp2
          go_ret
          exact ⟨by rw [HE.out]; rfl, HBQ.out⟩
    · obtain rfl : k = L.length := by omega
      have HE : Hid (isW (l.length : Int) l L = true) := isW_true ⟨HK.out, by have := hwy.out.1; rwa [List.take_of_length_le (Nat.le_refl _)] at this⟩
      have HB := Lib.hid (B1.out.trans (hb.mono B1.out.size))
      clear hb hwy
      go_wp2
      go_ret
      exact ⟨by rw [HE.out]; rfl, HB.out⟩
end Go.Proofs.Yteegbkbphfmooaa
