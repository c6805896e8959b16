/-
  'RenameTour' of the model. No conditions but the bounds that Go gives a slice.
-/
import Derived.Test.YteiadhfjpohmdaaX
import Derived.Laws.MakeOwn
namespace Go.Proofs.Yteiadhfjpohmdaa
open Go.ChangeShapes Go.WideShapes Go.ChangeAt Go.RowKit Go.Shelf
set_option linter.unusedVariables false

theorem make_row (m : Nat) (hm : m ≤ 64) (W : World) : (Instr.makeSlice 22 (.int .i64 (m : Int)) (.int .i64 (m : Int))).run Try.prog W = .ok (.slice (some ⟨W.heap.size, 0, none⟩) m m) (W.alloc (.cells (madeCells #[.int .i64 0] m) 3)) := by
  obtain ⟨i0, hi, hz0, hz1, hz2⟩ := info_parts infoInt
  have := run_makeSlice (P := Try.prog) (w := W) 22 3 i0 (.int .i64 0) Try.underlying22 hi hz0 .i64 .i64 (m : Int) (m : Int) (by omega) (Int.le_refl _) (by rw [hz1]; simp; omega) (by rw [hz2]; omega) (by omega)
  rw [hz1] at this
  have e : (Value.int IntKind.i64 0).cells = #[.int .i64 0] := rfl
  simpa [e] using this

set_option maxHeartbeats 4000000 in
theorem l02Rename_any (a : Option Addr) (l : List Int) (cap : Nat) (an : Option Addr) (ns : List Int) (cn : Nat) (w : World) (hrow : IntRow w a l) (hrn : IntRow w an ns) (hok : Ok l.length l) (hp : permB l.length ns = true) :
    Calls Try.prog 88 #[.agg #[.int .i64 (l.length : Int), .slice a l.length cap], .slice an ns.length cn] w fun e w' => (∃ g, e = .returned (.agg #[.int .i64 (l.length : Int), .slice (some ⟨g, 0, none⟩) l.length l.length]) ∧ w'.ownsRow w.heap.size 3 1 (.slice (some ⟨g, 0, none⟩) l.length l.length) l.length ((renF ns (gamesL l.length l)).map nv)) ∧ Below w.heap.size w w' := by
  have hl8 : l.length ≤ 8 := by have := hok.2.1; omega
  have hnn : ns.length = l.length := (permB_iff.1 hp).1
  have HK := Lib.hid hok
  have HP := Lib.hid hp
  have HNN := Lib.hid hnn
  have HRW := Lib.hid hrow
  have HRN := Lib.hid hrn
  obtain ⟨R, hR⟩ : ∃ R, R = madeCells #[.int .i64 0] l.length := ⟨_, rfl⟩
  have hmk : ∀ W : World, (Instr.makeSlice 22 (.int .i64 (l.length : Int)) (.int .i64 (l.length : Int))).run Try.prog W = .ok (.slice (some ⟨W.heap.size, 0, none⟩) l.length l.length) (W.alloc (.cells R 3)) := by rw [hR]; exact make_row _ (by omega)
  have hRz : R.toList = (renF ns ([] : List (Pl l.length))).map nv := by rw [hR, zeros]; rfl
  have hRs : R.size = l.length := by have := congrArg List.length hRz; simpa [renF_len] using this
  have HRZ := Lib.hid hRz
  have HRS := Lib.hid hRs
  clear hR hRz hRs hok hp hnn hrow hrn
  go_enter Try.func88, Try.ntmps88
  go_wp2
  go_region
  · have xo : Box ((((w.alloc (.cells #[.int .i64 (l.length : Int), .slice a l.length cap] 27)).alloc (.cells #[.int .i64 0, .slice none 0 0] 27)).alloc (.cells R 3)).alloc (.cells #[.int .i64 (l.length : Int), .slice (some ⟨w.heap.size + 1 + 1, 0, none⟩) l.length l.length] 27)).drew (w.heap.size + 1 + 1 + 1) 27 (.int .i64 (l.length : Int)) (.slice (some ⟨w.heap.size + 1 + 1, 0, none⟩) l.length l.length) := by
      have := Box.new (((w.alloc (.cells #[.int .i64 (l.length : Int), .slice a l.length cap] 27)).alloc (.cells #[.int .i64 0, .slice none 0 0] 27)).alloc (.cells R 3)) 27 (.int .i64 (l.length : Int)) (.slice (some ⟨w.heap.size + 1 + 1, 0, none⟩) l.length l.length)
      simp only [World.size_alloc] at this
      exact this.drew
    have ow : (((((w.alloc (.cells #[.int .i64 (l.length : Int), .slice a l.length cap] 27)).alloc (.cells #[.int .i64 0, .slice none 0 0] 27)).alloc (.cells R 3)).alloc (.cells #[.int .i64 (l.length : Int), .slice (some ⟨w.heap.size + 1 + 1, 0, none⟩) l.length l.length] 27)).drew).ownsRow w.heap.size 3 1 (.slice (some ⟨w.heap.size + 1 + 1, 0, none⟩) l.length l.length) l.length R.toList := by
      have := (World.ownsRow_lit (base := w.heap.size) (e := 3) (size := 1) ((w.alloc (.cells #[.int .i64 (l.length : Int), .slice a l.length cap] 27)).alloc (.cells #[.int .i64 0, .slice none 0 0] 27)) R l.length (by simp; omega) (by unfold maxLen; omega) (by rw [HRS.out]; simp)).alloc (.cells #[.int .i64 (l.length : Int), .slice (some ⟨w.heap.size + 1 + 1, 0, none⟩) l.length l.length] 27)
      simp only [World.size_alloc] at this
      exact this.drew
    have x1 : Box ((w.alloc (.cells #[.int .i64 (l.length : Int), .slice a l.length cap] 27)).alloc (.cells #[.int .i64 0, .slice none 0 0] 27)) (w.heap.size + 1) 27 (.int .i64 0) (.slice none 0 0) := by
      have := Box.new (w.alloc (.cells #[.int .i64 (l.length : Int), .slice a l.length cap] 27)) 27 (.int .i64 0) (.slice none 0 0)
      simp only [World.size_alloc] at this
      exact this
    have t1 : Box ((w.alloc (.cells #[.int .i64 (l.length : Int), .slice a l.length cap] 27)).alloc (.cells #[.int .i64 0, .slice none 0 0] 27)) w.heap.size 27 (.int .i64 (l.length : Int)) (.slice a l.length cap) := (Box.new w 27 _ _).more _
    have b2 : Below w.heap.size w ((w.alloc (.cells #[.int .i64 (l.length : Int), .slice a l.length cap] 27)).alloc (.cells #[.int .i64 0, .slice none 0 0] 27)) := (Below.one _ _).alloc (by simp) _
    obtain ⟨W5, hW5⟩ : ∃ W5, W5 = ((((w.alloc (.cells #[.int .i64 (l.length : Int), .slice a l.length cap] 27)).alloc (.cells #[.int .i64 0, .slice none 0 0] 27)).alloc (.cells R 3)).alloc (.cells #[.int .i64 (l.length : Int), .slice (some ⟨w.heap.size + 1 + 1, 0, none⟩) l.length l.length] 27)).drew := ⟨_, rfl⟩
    rw [← hW5] at xo ow ⊢
    have xr : Box W5 (w.heap.size + 1) 27 (.int .i64 0) (.slice none 0 0) := by rw [hW5]; exact ((x1.more _).more _).drew
    have xt : Box W5 w.heap.size 27 (.int .i64 (l.length : Int)) (.slice a l.length cap) := by rw [hW5]; exact ((t1.more _).more _).drew
    have bz : Below w.heap.size w W5 := by rw [hW5]; exact ((b2.alloc (by simp <;> omega) _).alloc (by simp <;> omega) _).drew
    obtain ⟨g, hg⟩ : ∃ g, g = w.heap.size + 1 + 1 := ⟨_, rfl⟩
    obtain ⟨po, hpo⟩ : ∃ po, po = w.heap.size + 1 + 1 + 1 := ⟨_, rfl⟩
    rw [← hpo] at xo ⊢
    rw [← hg] at xo ow ⊢
    have hgp : Hid (g ≠ po) := (show g ≠ po by omega)
    have hgr : Hid (g ≠ w.heap.size + 1) := (show g ≠ _ by omega)
    have hgt : Hid (w.heap.size ≠ g) := (show _ ≠ g by omega)
    have hwg : Hid (w.heap.size ≤ g) := (show _ ≤ g by omega)
    have XO := Lib.hid xo
    have XR := Lib.hid xr
    have XT := Lib.hid xt
    have BZ := Lib.hid bz
    rw [HRZ.out] at ow
    have OW := Lib.hid ow
    have d1 := xt.c1
    clear hW5 xo ow x1 t1 b2 xr xt bz hg hpo
    go_wp2
    go_loopw [18] (fun i wr => ∃ k : Nat, k ≤ l.length ∧ i = .int .i64 k ∧ Hid (wr.ownsRow w.heap.size 3 1 (.slice (some ⟨g, 0, none⟩) l.length l.length) l.length ((renF ns (gamesTo l.length l k)).map nv)) ∧ Hid (KeepsBut g W5 wr) ∧ Hid (Below w.heap.size w wr)) (fun i _ => l.length - (intOf i).toNat)
    case atStart => exact ⟨0, Nat.zero_le _, rfl, OW.out, KeepsBut.refl _ _, BZ.out⟩
    case round =>
      clear d1
      obtain ⟨k, hk, rfl, how, hkp, hbl⟩ := hrel
      by_cases hlt : k < l.length
      · obtain ⟨x, hx, _, hx8⟩ := HK.out.nat hlt
        obtain ⟨b, off, rfl, hbb, hcx⟩ := (HRW.out.below hbl.out (Nat.le_refl _)).at hlt
        rw [hx] at hcx
        have hib : (k : Int) < (l.length : Int) := by omega
        have hmx : l.length ≤ 9223372036854775807 := by omega
        have HX := Lib.hid hx
        have H0 : Hid (wr.ownsRow w.heap.size 3 1 (.slice (some ⟨g, 0, none⟩) l.length l.length) l.length ((renF ns (preS l.length l ⟨k, hlt⟩ 0)).map nv)) := by rw [preS_zero]; exact how.out
        have d1 := (XT.out.but hkp.out hgt.out).c1
        clear hx how
        go_wp2
        go_loopw [26] (fun j wr2 => ∃ q : Nat, q ≤ l.length ∧ j = .int .i64 q ∧ Hid (wr2.ownsRow w.heap.size 3 1 (.slice (some ⟨g, 0, none⟩) l.length l.length) l.length ((renF ns (preS l.length l ⟨k, hlt⟩ q)).map nv)) ∧ Hid (KeepsBut g W5 wr2) ∧ Hid (Below w.heap.size w wr2)) (fun j _ => l.length - (intOf j).toNat)
        case atStart => exact ⟨0, Nat.zero_le _, rfl, H0, hkp, hbl⟩
        case round =>
          clear H0 hkp hbl hcx d1
          obtain ⟨j, hj, rfl, how, hkp, hbl⟩ := hrel
          by_cases hlt2 : j < l.length
          · have hjb : (j : Int) < (l.length : Int) := by omega
            have hbt0 : bi x j = bt l k j := by unfold bt; rw [HX.out]
            cases hf : bi x j
            · have hpre := preS_no l.length l ⟨k, hlt⟩ ⟨j, hlt2⟩ (by rw [← hf]; exact hbt0.symm)
              have G1 : Hid (wr.ownsRow w.heap.size 3 1 (.slice (some ⟨g, 0, none⟩) l.length l.length) l.length ((renF ns (preS l.length l ⟨k, hlt⟩ (j + 1))).map nv)) := by rw [hpre]; exact how.out
              unfold bi at hf
              clear how hpre hbt0
              go_wp2
              go_roundw
              case rel => exact ⟨j + 1, by omega, by go_num, G1, hkp, hbl⟩
              case measure => simp [intOf]; omega
            · have hpre := preS_yes l.length l ⟨k, hlt⟩ ⟨j, hlt2⟩ (by rw [← hf]; exact hbt0.symm)
              have hnew := preS_new l.length l ⟨k, hlt⟩ ⟨j, hlt2⟩
              have hclr := renF_bit HP.out ⟨k, hlt⟩ ⟨j, hlt2⟩ _ hnew
              obtain ⟨hn1, hv1⟩ := nm_val HP.out hlt
              obtain ⟨hn2, hv2⟩ := nm_val HP.out hlt2
              have hRW := HRN.out.below hbl.out (Nat.le_refl _)
              obtain ⟨bn, on, he1, _, hc1⟩ := hRW.at (k := k) (by have := HNN.out; omega)
              obtain ⟨bn', on', he2, _, hc2⟩ := hRW.at (k := j) (by have := HNN.out; omega)
              rw [he1] at he2
              obtain ⟨rfl, rfl⟩ : bn = bn' ∧ on = on' := by simpa using he2
              subst he1
              rw [hn1] at hc1
              rw [hn2] at hc2
              obtain ⟨ys, hys⟩ : ∃ ys, ys = renF ns (preS l.length l ⟨k, hlt⟩ j) := ⟨_, rfl⟩
              have hyl : ys.length = l.length := by rw [hys]; exact renF_len _ _
              have hy256 : ∀ y ∈ ys, y < 256 := by rw [hys]; exact renF_lt hl8 HP.out _
              obtain ⟨v1, hvv1⟩ : ∃ v1, v1 = nm ns k := ⟨_, rfl⟩
              obtain ⟨v2, hvv2⟩ : ∃ v2, v2 = nm ns j := ⟨_, rfl⟩
              rw [← hvv1] at hc1 hv1
              rw [← hvv2] at hc2 hv2
              have how' := how.out
              change wr.ownsRow w.heap.size 3 1 (.slice (some ⟨g, 0, none⟩) l.length l.length) l.length ((renF ns (preS l.length l ⟨k, hlt⟩ j)).map nv) at how'
              rw [← hys] at how'
              have hclr' : (ys.getD v1 0).testBit v2 = false := by rw [hys, hvv1, hvv2]; exact hclr
              obtain ⟨q, hq⟩ : ∃ q, q = ys.getD v1 0 := ⟨_, rfl⟩
              have hq8 : q < 256 := by rw [hq]; exact getD_lt256 ys v1 hy256
              obtain ⟨z, hz⟩ : ∃ z, z = 2 ^ v2 := ⟨_, rfl⟩
              have hzw : wrap64 (2 ^ v2) = (z : Int) := by rw [hz]; exact wrapPow v2 (by omega)
              have hzw2 : IntKind.i64.wrap (2 ^ v2) = (z : Int) := by rw [hz]; exact wrapPow2 v2 (by omega)
              have hz8 : z ≤ 256 := by rw [hz]; exact pow_le v2 (by omega)
              have hor : q + z = q ||| 2 ^ v2 := by rw [hz]; exact add_or q v2 hq8 (by omega) (by rw [hq]; exact hclr')
              have hcq : wr.cell? ⟨g, v1, none⟩ = some (.int .i64 q) := by
                rw [how'.cellAt v1 (by omega), List.getElem?_map, show ys[v1]? = some q by rw [hq, List.getD_eq_getElem?_getD, List.getElem?_eq_getElem (by omega)]; rfl]; rfl
              have hfr := how'.frozenAt v1
              have hst := (how'.stored v1 (nv (q + z))).1
              have hset : (ys.map nv).set v1 (nv (q + z)) = (renF ns (preS l.length l ⟨k, hlt⟩ (j + 1))).map nv := by
                rw [hpre, renF_snoc, ← List.map_set, hor, hq, hvv2]
                show _ = (renStep ns _ _).map nv
                unfold renStep
                rw [← hys, hvv1]
              rw [hset] at hst
              have HST := Lib.hid hst
              have hi1 : (k : Int) < (ns.length : Int) := by have := HNN.out; omega
              have hi2 : (j : Int) < (ns.length : Int) := by have := HNN.out; omega
              have hiv : (v1 : Int) < (l.length : Int) := by omega
              have d0 := (XO.out.but hkp.out (fun e => hgp.out e.symm)).c1
              have hmn : ns.length ≤ 9223372036854775807 := by have := HNN.out; omega
              unfold bi at hf
              clear how hpre hnew hclr hn1 hn2 hRW he2 hys hyl hy256 hvv1 hvv2 how' hclr' hq hz hor hst hset hbt0
              go_wp2
              go_region
              all_goals
                obtain ⟨w7, hw7⟩ : ∃ w7, w7 = (wr.setCell ⟨g, v1, none⟩ (.int .i64 ((q : Int) + (z : Int)))).drew := ⟨_, rfl⟩
                rw [← hw7]
                have G1 : Hid (w7.ownsRow w.heap.size 3 1 (.slice (some ⟨g, 0, none⟩) l.length l.length) l.length ((renF ns (preS l.length l ⟨k, hlt⟩ (j + 1))).map nv)) := by
                  show World.ownsRow _ _ _ _ _ _ _
                  rw [hw7]
                  have := HST.out
                  unfold nv at this
                  rw [Int.natCast_add] at this
                  exact this.drew
                have gg : wr.grownBy w7 (some g) := by
                  rw [hw7]
                  exact ⟨rfl, rfl, rfl, by simp [World.setCell, World.drew], fun i hi hn => heap_setCell_other wr ⟨g, v1, none⟩ i _ (fun e => hn (by rw [e]))⟩
                have G2 := Lib.hid (hkp.out.trans (KeepsBut.grown gg))
                have G3 : Hid (Below w.heap.size w w7) := by
                  show Below _ _ _
                  rw [hw7]; exact (hbl.out.setCell (p := ⟨g, v1, none⟩) hwg.out _).drew
                clear hw7 gg hc1 hc2 hcq hfr d0
                go_wp2
                go_roundw
                case rel => exact ⟨j + 1, by omega, by go_num, G1, G2, G3⟩
                case measure => simp [intOf]; omega
          · obtain rfl : j = l.length := by omega
            have G1 : Hid (wr.ownsRow w.heap.size 3 1 (.slice (some ⟨g, 0, none⟩) l.length l.length) l.length ((renF ns (gamesTo l.length l (k + 1))).map nv)) := by
              have := how.out
              rw [preS_end] at this; exact this
            clear how
            go_wp2
            go_roundw
            case rel => exact ⟨k + 1, by omega, by go_num, G1, hkp, hbl⟩
            case measure => simp [intOf]; omega
      · obtain rfl : k = l.length := by omega
        have xz := XR.out.but hkp.out (fun e => hgr.out e.symm)
        have d0 := (XO.out.but hkp.out (fun e => hgp.out e.symm)).c0
        have d1 := (XO.out.but hkp.out (fun e => hgp.out e.symm)).c1
        have e0 := xz.c0
        have e1 := xz.c1
        have e2 := xz.f0
        have e3 := xz.f1
        have XZ := Lib.hid xz
        clear xz
        go_wp2
        refine bodyPost_ret (v := .agg #[.int .i64 l.length, .slice (some ⟨g, 0, none⟩) l.length l.length]) (Box.res1 rfl _ rfl ((XZ.out.set0 _).set1 _)) rfl ?_
        refine ⟨⟨g, rfl, ?_⟩, ?_⟩
        · exact own_other (own_other how.out ⟨w.heap.size + 1, 0, none⟩ _ (fun e => hgr.out e)) ⟨w.heap.size + 1, 1, none⟩ _ (fun e => hgr.out e)
        · exact (hbl.out.setCell (p := ⟨w.heap.size + 1, 0, none⟩) (Nat.le_succ _) _).setCell (p := ⟨w.heap.size + 1, 1, none⟩) (Nat.le_succ _) _
  · have xo : Box ((((w.alloc (.cells #[.int .i64 (l.length : Int), .slice a l.length cap] 27)).alloc (.cells #[.int .i64 0, .slice none 0 0] 27)).alloc (.cells #[.int .i64 (l.length : Int), .slice (some ⟨w.heap.size + 1 + 1 + 1, 0, none⟩) l.length l.length] 27)).alloc (.cells R 3)).drew (w.heap.size + 1 + 1) 27 (.int .i64 (l.length : Int)) (.slice (some ⟨w.heap.size + 1 + 1 + 1, 0, none⟩) l.length l.length) := by
      have := (Box.new ((w.alloc (.cells #[.int .i64 (l.length : Int), .slice a l.length cap] 27)).alloc (.cells #[.int .i64 0, .slice none 0 0] 27)) 27 (.int .i64 (l.length : Int)) (.slice (some ⟨w.heap.size + 1 + 1 + 1, 0, none⟩) l.length l.length)).more (.cells R 3)
      simp only [World.size_alloc] at this
      exact this.drew
    have ow : (((((w.alloc (.cells #[.int .i64 (l.length : Int), .slice a l.length cap] 27)).alloc (.cells #[.int .i64 0, .slice none 0 0] 27)).alloc (.cells #[.int .i64 (l.length : Int), .slice (some ⟨w.heap.size + 1 + 1 + 1, 0, none⟩) l.length l.length] 27)).alloc (.cells R 3)).drew).ownsRow w.heap.size 3 1 (.slice (some ⟨w.heap.size + 1 + 1 + 1, 0, none⟩) l.length l.length) l.length R.toList := by
      have := World.ownsRow_lit (base := w.heap.size) (e := 3) (size := 1) (((w.alloc (.cells #[.int .i64 (l.length : Int), .slice a l.length cap] 27)).alloc (.cells #[.int .i64 0, .slice none 0 0] 27)).alloc (.cells #[.int .i64 (l.length : Int), .slice (some ⟨w.heap.size + 1 + 1 + 1, 0, none⟩) l.length l.length] 27)) R l.length (by simp; omega) (by unfold maxLen; omega) (by rw [HRS.out]; simp)
      simp only [World.size_alloc] at this
      exact this.drew
    have x1 : Box ((w.alloc (.cells #[.int .i64 (l.length : Int), .slice a l.length cap] 27)).alloc (.cells #[.int .i64 0, .slice none 0 0] 27)) (w.heap.size + 1) 27 (.int .i64 0) (.slice none 0 0) := by
      have := Box.new (w.alloc (.cells #[.int .i64 (l.length : Int), .slice a l.length cap] 27)) 27 (.int .i64 0) (.slice none 0 0)
      simp only [World.size_alloc] at this
      exact this
    have t1 : Box ((w.alloc (.cells #[.int .i64 (l.length : Int), .slice a l.length cap] 27)).alloc (.cells #[.int .i64 0, .slice none 0 0] 27)) w.heap.size 27 (.int .i64 (l.length : Int)) (.slice a l.length cap) := (Box.new w 27 _ _).more _
    have b2 : Below w.heap.size w ((w.alloc (.cells #[.int .i64 (l.length : Int), .slice a l.length cap] 27)).alloc (.cells #[.int .i64 0, .slice none 0 0] 27)) := (Below.one _ _).alloc (by simp) _
    obtain ⟨W5, hW5⟩ : ∃ W5, W5 = ((((w.alloc (.cells #[.int .i64 (l.length : Int), .slice a l.length cap] 27)).alloc (.cells #[.int .i64 0, .slice none 0 0] 27)).alloc (.cells #[.int .i64 (l.length : Int), .slice (some ⟨w.heap.size + 1 + 1 + 1, 0, none⟩) l.length l.length] 27)).alloc (.cells R 3)).drew := ⟨_, rfl⟩
    rw [← hW5] at xo ow ⊢
    have xr : Box W5 (w.heap.size + 1) 27 (.int .i64 0) (.slice none 0 0) := by rw [hW5]; exact ((x1.more _).more _).drew
    have xt : Box W5 w.heap.size 27 (.int .i64 (l.length : Int)) (.slice a l.length cap) := by rw [hW5]; exact ((t1.more _).more _).drew
    have bz : Below w.heap.size w W5 := by rw [hW5]; exact ((b2.alloc (by simp <;> omega) _).alloc (by simp <;> omega) _).drew
    obtain ⟨g, hg⟩ : ∃ g, g = w.heap.size + 1 + 1 + 1 := ⟨_, rfl⟩
    obtain ⟨po, hpo⟩ : ∃ po, po = w.heap.size + 1 + 1 := ⟨_, rfl⟩
    rw [← hg] at xo ow ⊢
    rw [← hpo] at xo ⊢
    have hgp : Hid (g ≠ po) := (show g ≠ po by omega)
    have hgr : Hid (g ≠ w.heap.size + 1) := (show g ≠ _ by omega)
    have hgt : Hid (w.heap.size ≠ g) := (show _ ≠ g by omega)
    have hwg : Hid (w.heap.size ≤ g) := (show _ ≤ g by omega)
    have XO := Lib.hid xo
    have XR := Lib.hid xr
    have XT := Lib.hid xt
    have BZ := Lib.hid bz
    rw [HRZ.out] at ow
    have OW := Lib.hid ow
    have d1 := xt.c1
    clear hW5 xo ow x1 t1 b2 xr xt bz hg hpo
    go_wp2
    go_loopw [18] (fun i wr => ∃ k : Nat, k ≤ l.length ∧ i = .int .i64 k ∧ Hid (wr.ownsRow w.heap.size 3 1 (.slice (some ⟨g, 0, none⟩) l.length l.length) l.length ((renF ns (gamesTo l.length l k)).map nv)) ∧ Hid (KeepsBut g W5 wr) ∧ Hid (Below w.heap.size w wr)) (fun i _ => l.length - (intOf i).toNat)
    case atStart => exact ⟨0, Nat.zero_le _, rfl, OW.out, KeepsBut.refl _ _, BZ.out⟩
    case round =>
      clear d1
      obtain ⟨k, hk, rfl, how, hkp, hbl⟩ := hrel
      by_cases hlt : k < l.length
      · obtain ⟨x, hx, _, hx8⟩ := HK.out.nat hlt
        obtain ⟨b, off, rfl, hbb, hcx⟩ := (HRW.out.below hbl.out (Nat.le_refl _)).at hlt
        rw [hx] at hcx
        have hib : (k : Int) < (l.length : Int) := by omega
        have hmx : l.length ≤ 9223372036854775807 := by omega
        have HX := Lib.hid hx
        have H0 : Hid (wr.ownsRow w.heap.size 3 1 (.slice (some ⟨g, 0, none⟩) l.length l.length) l.length ((renF ns (preS l.length l ⟨k, hlt⟩ 0)).map nv)) := by rw [preS_zero]; exact how.out
        have d1 := (XT.out.but hkp.out hgt.out).c1
        clear hx how
        go_wp2
        go_loopw [26] (fun j wr2 => ∃ q : Nat, q ≤ l.length ∧ j = .int .i64 q ∧ Hid (wr2.ownsRow w.heap.size 3 1 (.slice (some ⟨g, 0, none⟩) l.length l.length) l.length ((renF ns (preS l.length l ⟨k, hlt⟩ q)).map nv)) ∧ Hid (KeepsBut g W5 wr2) ∧ Hid (Below w.heap.size w wr2)) (fun j _ => l.length - (intOf j).toNat)
        case atStart => exact ⟨0, Nat.zero_le _, rfl, H0, hkp, hbl⟩
        case round =>
          clear H0 hkp hbl hcx d1
          obtain ⟨j, hj, rfl, how, hkp, hbl⟩ := hrel
          by_cases hlt2 : j < l.length
          · have hjb : (j : Int) < (l.length : Int) := by omega
            have hbt0 : bi x j = bt l k j := by unfold bt; rw [HX.out]
            cases hf : bi x j
            · have hpre := preS_no l.length l ⟨k, hlt⟩ ⟨j, hlt2⟩ (by rw [← hf]; exact hbt0.symm)
              have G1 : Hid (wr.ownsRow w.heap.size 3 1 (.slice (some ⟨g, 0, none⟩) l.length l.length) l.length ((renF ns (preS l.length l ⟨k, hlt⟩ (j + 1))).map nv)) := by rw [hpre]; exact how.out
              unfold bi at hf
              clear how hpre hbt0
              go_wp2
              go_roundw
              case rel => exact ⟨j + 1, by omega, by go_num, G1, hkp, hbl⟩
              case measure => simp [intOf]; omega
            · have hpre := preS_yes l.length l ⟨k, hlt⟩ ⟨j, hlt2⟩ (by rw [← hf]; exact hbt0.symm)
              have hnew := preS_new l.length l ⟨k, hlt⟩ ⟨j, hlt2⟩
              have hclr := renF_bit HP.out ⟨k, hlt⟩ ⟨j, hlt2⟩ _ hnew
              obtain ⟨hn1, hv1⟩ := nm_val HP.out hlt
              obtain ⟨hn2, hv2⟩ := nm_val HP.out hlt2
              have hRW := HRN.out.below hbl.out (Nat.le_refl _)
              obtain ⟨bn, on, he1, _, hc1⟩ := hRW.at (k := k) (by have := HNN.out; omega)
              obtain ⟨bn', on', he2, _, hc2⟩ := hRW.at (k := j) (by have := HNN.out; omega)
              rw [he1] at he2
              obtain ⟨rfl, rfl⟩ : bn = bn' ∧ on = on' := by simpa using he2
              subst he1
              rw [hn1] at hc1
              rw [hn2] at hc2
              obtain ⟨ys, hys⟩ : ∃ ys, ys = renF ns (preS l.length l ⟨k, hlt⟩ j) := ⟨_, rfl⟩
              have hyl : ys.length = l.length := by rw [hys]; exact renF_len _ _
              have hy256 : ∀ y ∈ ys, y < 256 := by rw [hys]; exact renF_lt hl8 HP.out _
              obtain ⟨v1, hvv1⟩ : ∃ v1, v1 = nm ns k := ⟨_, rfl⟩
              obtain ⟨v2, hvv2⟩ : ∃ v2, v2 = nm ns j := ⟨_, rfl⟩
              rw [← hvv1] at hc1 hv1
              rw [← hvv2] at hc2 hv2
              have how' := how.out
              change wr.ownsRow w.heap.size 3 1 (.slice (some ⟨g, 0, none⟩) l.length l.length) l.length ((renF ns (preS l.length l ⟨k, hlt⟩ j)).map nv) at how'
              rw [← hys] at how'
              have hclr' : (ys.getD v1 0).testBit v2 = false := by rw [hys, hvv1, hvv2]; exact hclr
              obtain ⟨q, hq⟩ : ∃ q, q = ys.getD v1 0 := ⟨_, rfl⟩
              have hq8 : q < 256 := by rw [hq]; exact getD_lt256 ys v1 hy256
              obtain ⟨z, hz⟩ : ∃ z, z = 2 ^ v2 := ⟨_, rfl⟩
              have hzw : wrap64 (2 ^ v2) = (z : Int) := by rw [hz]; exact wrapPow v2 (by omega)
              have hzw2 : IntKind.i64.wrap (2 ^ v2) = (z : Int) := by rw [hz]; exact wrapPow2 v2 (by omega)
              have hz8 : z ≤ 256 := by rw [hz]; exact pow_le v2 (by omega)
              have hor : q + z = q ||| 2 ^ v2 := by rw [hz]; exact add_or q v2 hq8 (by omega) (by rw [hq]; exact hclr')
              have hcq : wr.cell? ⟨g, v1, none⟩ = some (.int .i64 q) := by
                rw [how'.cellAt v1 (by omega), List.getElem?_map, show ys[v1]? = some q by rw [hq, List.getD_eq_getElem?_getD, List.getElem?_eq_getElem (by omega)]; rfl]; rfl
              have hfr := how'.frozenAt v1
              have hst := (how'.stored v1 (nv (q + z))).1
              have hset : (ys.map nv).set v1 (nv (q + z)) = (renF ns (preS l.length l ⟨k, hlt⟩ (j + 1))).map nv := by
                rw [hpre, renF_snoc, ← List.map_set, hor, hq, hvv2]
                show _ = (renStep ns _ _).map nv
                unfold renStep
                rw [← hys, hvv1]
              rw [hset] at hst
              have HST := Lib.hid hst
              have hi1 : (k : Int) < (ns.length : Int) := by have := HNN.out; omega
              have hi2 : (j : Int) < (ns.length : Int) := by have := HNN.out; omega
              have hiv : (v1 : Int) < (l.length : Int) := by omega
              have d0 := (XO.out.but hkp.out (fun e => hgp.out e.symm)).c1
              have hmn : ns.length ≤ 9223372036854775807 := by have := HNN.out; omega
              unfold bi at hf
              clear how hpre hnew hclr hn1 hn2 hRW he2 hys hyl hy256 hvv1 hvv2 how' hclr' hq hz hor hst hset hbt0
              go_wp2
              go_region
              all_goals
                obtain ⟨w7, hw7⟩ : ∃ w7, w7 = (wr.setCell ⟨g, v1, none⟩ (.int .i64 ((q : Int) + (z : Int)))).drew := ⟨_, rfl⟩
                rw [← hw7]
                have G1 : Hid (w7.ownsRow w.heap.size 3 1 (.slice (some ⟨g, 0, none⟩) l.length l.length) l.length ((renF ns (preS l.length l ⟨k, hlt⟩ (j + 1))).map nv)) := by
                  show World.ownsRow _ _ _ _ _ _ _
                  rw [hw7]
                  have := HST.out
                  unfold nv at this
                  rw [Int.natCast_add] at this
                  exact this.drew
                have gg : wr.grownBy w7 (some g) := by
                  rw [hw7]
                  exact ⟨rfl, rfl, rfl, by simp [World.setCell, World.drew], fun i hi hn => heap_setCell_other wr ⟨g, v1, none⟩ i _ (fun e => hn (by rw [e]))⟩
                have G2 := Lib.hid (hkp.out.trans (KeepsBut.grown gg))
                have G3 : Hid (Below w.heap.size w w7) := by
                  show Below _ _ _
                  rw [hw7]; exact (hbl.out.setCell (p := ⟨g, v1, none⟩) hwg.out _).drew
                clear hw7 gg hc1 hc2 hcq hfr d0
                go_wp2
                go_roundw
                case rel => exact ⟨j + 1, by omega, by go_num, G1, G2, G3⟩
                case measure => simp [intOf]; omega
          · obtain rfl : j = l.length := by omega
            have G1 : Hid (wr.ownsRow w.heap.size 3 1 (.slice (some ⟨g, 0, none⟩) l.length l.length) l.length ((renF ns (gamesTo l.length l (k + 1))).map nv)) := by
              have := how.out
              rw [preS_end] at this; exact this
            clear how
            go_wp2
            go_roundw
            case rel => exact ⟨k + 1, by omega, by go_num, G1, hkp, hbl⟩
            case measure => simp [intOf]; omega
      · obtain rfl : k = l.length := by omega
        have xz := XR.out.but hkp.out (fun e => hgr.out e.symm)
        have d0 := (XO.out.but hkp.out (fun e => hgp.out e.symm)).c0
        have d1 := (XO.out.but hkp.out (fun e => hgp.out e.symm)).c1
        have e0 := xz.c0
        have e1 := xz.c1
        have e2 := xz.f0
        have e3 := xz.f1
        have XZ := Lib.hid xz
        clear xz
        go_wp2
        refine bodyPost_ret (v := .agg #[.int .i64 l.length, .slice (some ⟨g, 0, none⟩) l.length l.length]) (Box.res1 rfl _ rfl ((XZ.out.set0 _).set1 _)) rfl ?_
        refine ⟨⟨g, rfl, ?_⟩, ?_⟩
        · exact own_other (own_other how.out ⟨w.heap.size + 1, 0, none⟩ _ (fun e => hgr.out e)) ⟨w.heap.size + 1, 1, none⟩ _ (fun e => hgr.out e)
        · exact (hbl.out.setCell (p := ⟨w.heap.size + 1, 0, none⟩) (Nat.le_succ _) _).setCell (p := ⟨w.heap.size + 1, 1, none⟩) (Nat.le_succ _) _
end Go.Proofs.Yteiadhfjpohmdaa
