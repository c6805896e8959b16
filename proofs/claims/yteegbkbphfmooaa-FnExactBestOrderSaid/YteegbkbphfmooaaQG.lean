/-
  'bestOrders' of the program. No conditions but the bounds that Go gives a slice.
-/
import Derived.Test.YteegbkbphfmooaaQF
namespace Go.Proofs.Yteegbkbphfmooaa
open Go.ChangeShapes Go.WideShapes Go.ChangeAt Go.RowKit Go.Sort
set_option linter.unusedVariables false

theorem pc_all {m s : Nat} (hm : m ≤ 8) (hs : s < 2 ^ m) (h : pc s = m) : s = 2 ^ m - 1 := by
  have : ∀ m : Fin 9, ∀ s : Fin 256, s.val < 2 ^ m.val → pc s.val = m.val → s.val = 2 ^ m.val - 1 := by decide +kernel
  exact this ⟨m, by omega⟩ ⟨s, by have := pow_le m hm; omega⟩ hs h
theorem pc_none {s : Nat} (hs : s < 256) (h : pc s = 0) : s = 0 := by
  have : ∀ s : Fin 256, pc s.val = 0 → s.val = 0 := by decide +kernel
  exact this ⟨s, hs⟩ h
theorem pc_top {m : Nat} (hm : m ≤ 8) : pc (2 ^ m - 1) = m := by
  have : ∀ m : Fin 9, pc (2 ^ m.val - 1) = m.val := by decide +kernel
  exact this ⟨m, by omega⟩
theorem Rv.gm_zero (f : Nat → Nat → Bool) : Rv.gm f 0 = 0 := rfl
theorem Rv.gn_zero (f : Nat → Nat → Bool) : Rv.gn f 0 = 1 := rfl
theorem Rv.gv_zero (f : Nat → Nat → Bool) : Rv.gv f 0 = 0 := rfl
theorem RowG.nil (W : World) (B : Nat) : RowG W B 0 none 0 0 := World.ownsRow_nil _ _ _ _

theorem results_tmp_cellQ {fn : Func} {p u : Tmp} {ty : TypeId} (h : fn.results = #[.tmp u, .cell p ty]) (tmps : Array Value) (P : Program) (w : World) :
    (results fn tmps).run P w =
      ((asAddr (tmps.getD p undef)).run P w).andThen fun a w₁ => ((loadVar ty a).run P w₁).andThen fun v w₂ => .ok (.tuple #[tmps.getD u undef, v]) w₂ := by
  simp only [results, h]
  simp [Sem.run_bind, Result.andThen]
theorem Box.resTG {w : World} {g : Nat} {v0 v1 x : Value} {fn : Func} {p u : Tmp} (hf : fn.results = #[.tmp u, .cell p 73]) (tmps : Array Value) (hp : tmps.getD p undef = .pointer (some ⟨g, 0, none⟩)) (hu : tmps.getD u undef = x) (h : Box w g 73 v0 v1) :
    (results fn tmps).run Try.prog w = .ok (.tuple #[x, .agg #[v0, v1]]) w := by
  rw [results_tmp_cellQ hf, hp, hu, asAddr_ptr]
  simp only [Result.andThen, run_loadVar_row w g 73 73 _ _ _ h Try.underlying73 rfl (by kernel_rfl)]
/-- The map that the program has after j rounds. -/
def MS (f : Nat → Nat → Bool) (m : Nat) (w W : World) (g j : Nat) : Prop :=
  ∃ n D M, n ≤ 8 ^ j ∧ W.ownsMap Try.prog 108 RV g n D ∧ Vw D M ∧ Ent W (g + 1) j M (Rv.PK f m j) ∧ RowKit.Below w.heap.size w W ∧ w.heap.size ≤ g
theorem MS.on {f : Nat → Nat → Bool} {m : Nat} {w W W' : World} {g j : Nat} (h : MS f m w W g j) (hb : RowKit.Below W.heap.size W W') : MS f m w W' g j := by
  obtain ⟨n, D, M, h1, h2, h3, h4, h5, h6⟩ := h
  exact ⟨n, D, M, h1, h2.kept (below_grown hb) (by simp), h3, h4.below hb, h5.trans (hb.mono h5.size), h6⟩

/-- What 'bestOrders' returns. -/
def BestR (f : Nat → Nat → Bool) (m : Nat) (w : World) (e : Ending) (w' : World) : Prop :=
  (∃ a c, e = .returned (.tuple #[.int .i64 ((Rv.gm f (2 ^ m - 1) : Nat) : Int), .agg #[.slice a m c, .int .i64 ((Rv.gn f (2 ^ m - 1) : Nat) : Int)]]) ∧ RowG w' w.heap.size m a c (Rv.gv f (2 ^ m - 1))) ∧ RowKit.Below w.heap.size w w'

set_option maxRecDepth 100000 in
set_option maxHeartbeats 8000000 in
theorem bestOrders_any (m : Nat) (a : Option Addr) (l : List Int) (cap : Nat) (w : World) (hm : l.length = m) (hok : Ok m l) (hrow : IntRow w a l) :
    Calls Try.prog 81 #[.agg #[.int .i64 (m : Int), .slice a m cap]] w (BestR (bt l) m w) := by
  have h8 : m ≤ 8 := by have := hok.2.1; omega
  have HK := Lib.hid hok
  have HM := Lib.hid hm
  have HR := Lib.hid hrow
  obtain ⟨f, hf⟩ : ∃ f, f = bt l := ⟨_, rfl⟩
  rw [← hf]
  have HLEN : Hid (∀ (k n b0 B0 : Nat) (D : DataW Value) (M : Nat → Nat → Option Value) (W : World), IntRow W a l → k < m → n ≤ 100000000 → W.ownsMap Try.prog 108 RV b0 n D → Vw D M → Ent W B0 k M (Rv.PK f m k) →
      Calls Try.prog 124 #[.agg #[.int .i64 (m : Int), .slice a m cap], .map (some b0)] W fun e w' => e = .returned (.map (some (W.heap.size + 1))) ∧ LS f m k a cap W w' (8 * n) (Rv.QF m k)) :=
    fun k n b0 B0 D M W h1 h2 h3 h4 h5 h6 => by rw [hf] at h6 ⊢; exact lengthened_any m k n b0 B0 a l cap D M W hm hok h1 h2 h3 h4 h5 h6
  obtain ⟨Wa, hWa⟩ : ∃ Wa, Wa = ((w.alloc (.cells #[.int .i64 (m : Int), .slice a m cap] 25)).alloc (.cells #[.slice none 0 0, .int .i64 0] 73)).alloc (.map #[] 0) := ⟨_, rfl⟩
  have hsz : Wa.heap.size = w.heap.size + 3 := by rw [hWa]; simp
  have hba : RowKit.Below w.heap.size w Wa := by rw [hWa]; exact (((Below.refl _ _).alloc (Nat.le_refl _) _).alloc (by simp) _).alloc (by simp; omega) _
  have xa : Box Wa w.heap.size 25 (.int .i64 (m : Int)) (.slice a m cap) := by rw [hWa]; exact ((Box.new _ _ _ _).more _).more _
  have xb : Box Wa (w.heap.size + 1) 73 (.slice none 0 0) (.int .i64 0) := by
    rw [hWa]
    have := (Box.new (w.alloc (.cells #[.int .i64 (m : Int), .slice a m cap] 25)) 73 (.slice none 0 0) (.int .i64 0)).more (.map #[] 0)
    simpa using this
  have hmk : Wa.ownsMap Try.prog 108 RV (w.heap.size + 2) 0 (.map []) := by
    rw [hWa]
    have := World.ownsMap_made ((w.alloc (.cells #[.int .i64 (m : Int), .slice a m cap] 25)).alloc (.cells #[.slice none 0 0, .int .i64 0] 73)) Try.prog 108 RV
    simpa using this
  obtain ⟨Wb, D0, hrun0, hown0, hv0, hg0⟩ := store_any hmk Vw.empty (by unfold maxLen; omega) (show 0 < 256 by omega) (show 0 ≤ 200 by omega) (.agg #[.slice none 0 0, .int .i64 1])
  unfold KV at hrun0
  have e0 : ((0 : Nat) : Int) = 0 := rfl
  rw [e0, hWa] at hrun0
  have hb0 : RowKit.Below w.heap.size w Wb := hba.grown hg0 hba.size (fun j hj => by cases hj; omega)
  have XA := Lib.hid (box_kept xa hg0 (by simp))
  have XB := Lib.hid (box_kept xb hg0 (by simp))
  have hms : MS f m w Wb (w.heap.size + 2) 0 := by
    refine ⟨1, D0, _, Nat.le_refl _, hown0, hv0, ?_, hb0, by omega⟩
    refine Ent.put (t := (0, 1, 0)) (P := fun _ _ => none) (Ent.empty fun _ _ _ _ => rfl) (RowG.nil _ _) ?_ fun s r hs hr hne => ?_
    · unfold Rv.PK
      rw [if_pos ⟨Nat.two_pow_pos m, by rfl, (Rv.gm_zero f).symm⟩]; rfl
    · unfold Rv.PK
      rw [if_neg]
      rintro ⟨h1, h2, h3⟩
      obtain rfl := pc_none hs h2
      exact hne ⟨rfl, h3⟩
  have HMS := Lib.hid hms
  have HB0 := Lib.hid hb0
  have hmm := @run_makeMap Try.prog
  have hm0 : 0 < m := by have := hok.1; omega
  clear hok hm hrow hf hWa hsz hba xa xb hmk hown0 hv0 hg0 hb0 hms e0
  go_enter Try.func81, Try.ntmps81
  have c0 := XA.out.c0
  have c1 := XA.out.c1
  go_wp2
  clear hrun0 hmm c0 c1
  go_loopw [4, 15] (fun mp i wr => ∃ j g : Nat, j ≤ m ∧ i = .int .i64 (j : Int) ∧ mp = .map (some g) ∧ w.heap.size + 2 ≤ g ∧ Hid (MS f m w wr g j) ∧ Hid (Box wr w.heap.size 25 (.int .i64 (m : Int)) (.slice a m cap)) ∧ Hid (Box wr (w.heap.size + 1) 73 (.slice none 0 0) (.int .i64 0))) (fun _ i _ => m - (intOf i).toNat)
  case atStart => exact ⟨0, w.heap.size + 2, Nat.zero_le _, rfl, rfl, Nat.le_refl _, HMS, XA, XB⟩
  case round =>
    obtain ⟨j, g, hj, rfl, rfl, hgw, hms, hxa, hxb⟩ := hrel
    by_cases hlt : j < m
    · have hji : (j : Int) < (m : Int) := by omega
      have c0 := hxa.out.c0
      have c1 := hxa.out.c1
      obtain ⟨n, D, M, hn, hown, hv, hent, hbl, hgg⟩ := hms.out
      have hn8 : n ≤ 100000000 := by
        have h1 := Nat.pow_le_pow_right (n := 8) (by omega) (show j ≤ 8 by omega)
        have h2 : (8 : Nat) ^ 8 = 16777216 := by decide
        omega
      have HC := Lib.hid (HLEN.out j n g (g + 1) D M wr (HR.out.below hbl (Nat.le_refl _)) hlt hn8 hown hv hent)
      have HN := Lib.hid hn
      have HBL := Lib.hid hbl
      clear hn hown hv hent hbl hms hn8
      go_wp2_with fail
      refine HC.out.mono ?_
      rintro e w5 ⟨rfl, hls⟩
      have HLS := Lib.hid hls
      obtain ⟨n', D', M', hn', hown', hv', hent'⟩ := hls.out
      have HD := Lib.hid (deleteWorse_any (wr.heap.size + 1) n' D' M' w5 hown' hv' hent'.shape)
      have HE := Lib.hid hent'
      have HN' := Lib.hid hn'
      have hsw : w.heap.size ≤ wr.heap.size := HBL.out.size
      clear hls hn' hown' hv' hent' HC c0 c1
      go_wp2_with fail
      refine HD.out.mono ?_
      rintro e w6 ⟨⟨v, rfl⟩, ⟨D6, hown6, hv6⟩, hg6⟩
      have hwr2 : w.heap.size + 1 < wr.heap.size := hxb.out.lt
      have hx6 := box_kept (hxa.out.below HLS.out.below hxa.out.lt) hg6 (by simp <;> omega)
      have hy6 := box_kept (hxb.out.below HLS.out.below hxb.out.lt) hg6 (by simp <;> omega)
      have hm6 : MS f m w w6 (wr.heap.size + 1) (j + 1) := by
        refine ⟨n', D6, dw M', ?_, hown6, hv6, ?_, ?_, by omega⟩
        · have h1 := HN'.out
          have h2 := HN.out
          rw [Nat.pow_succ]; omega
        · exact ((HE.out.dw.turn hg6 (by omega)).mono (by omega)).congr fun s r hs hr => (Rv.EE_end h8 hs r).symm
        · exact (HBL.out.trans (HLS.out.below.mono hsw)).grown hg6 (Nat.le_trans HBL.out.size HLS.out.below.size) (fun k hk => by cases hk; omega)
      have HM6 := Lib.hid hm6
      have HX6 := Lib.hid hx6
      have HY6 := Lib.hid hy6
      clear hown6 hv6 hg6 hx6 hy6 hm6 HD
      go_wp2
      go_roundw
      case rel => exact ⟨j + 1, wr.heap.size + 1, by omega, by go_num, rfl, by omega, HM6, HX6, HY6⟩
      case measure => simp [intOf]; omega
    · obtain rfl : j = m := by omega
      obtain ⟨n, D, M, hn, hown, hv, hent, hbl, hgg⟩ := hms.out
      obtain ⟨F, hF⟩ : ∃ F, F = 2 ^ j - 1 := ⟨_, rfl⟩
      obtain ⟨G, hG⟩ : ∃ G, G = Rv.gm f F := ⟨_, rfl⟩
      have hF8 : F < 256 := by have := pow_le j h8; have := Nat.one_le_two_pow (n := j); omega
      have hG64 : G ≤ 64 := by rw [hG]; exact (Rv.G_bound f hF8).1
      obtain ⟨ak, ck, gn0, hmf, hrk, hgn⟩ : ∃ (ak : Option Addr) (ck gn0 : Nat), M F G = some (.agg #[.slice ak j ck, .int .i64 (gn0 : Int)]) ∧ RowG wr (g + 1) j ak ck (Rv.gv f F) ∧ gn0 = Rv.gn f F := by
        have h1 := (hent F G hF8 (by omega)).2 (Rv.gm f F, Rv.gn f F, Rv.gv f F) (by
          unfold Rv.PK
          rw [if_pos ⟨by rw [hF]; have := Nat.one_le_two_pow (n := j); omega, by rw [hF]; exact pc_top h8, hG⟩])
        obtain ⟨a1, c1, h2, h3⟩ := h1
        exact ⟨a1, c1, _, h2, h3, rfl⟩
      have honly : Hid (∀ s q v, s < 256 → q ≤ 200 → M s q = some v → s = F ∧ q = G) := fun s q v hs hq hms2 => by
        have h1 := hent s q hs hq
        cases hp : Rv.PK f j j s q with
        | none => rw [h1.1 hp] at hms2; cases hms2
        | some t =>
          unfold Rv.PK at hp
          split at hp
          · rename_i h4
            have h5 := pc_all h8 h4.1 h4.2.1
            exact ⟨by rw [hF]; exact h5, by rw [hG, hF, ← h5]; exact h4.2.2⟩
          · cases hp
      obtain ⟨W0, rfl⟩ : ∃ W0, W0 = wr := ⟨_, rfl⟩
      obtain ⟨A6, hA6⟩ : ∃ A6, A6 = W0.heap.size := ⟨_, rfl⟩
      obtain ⟨WA, hWA⟩ : ∃ WA, WA = W0.alloc (.cells #[.slice none 0 0, .int .i64 0] 73) := ⟨_, rfl⟩
      have hszA : WA.heap.size = A6 + 1 := by rw [hWA, hA6]; simp
      have hbA : RowKit.Below W0.heap.size W0 WA := by rw [hWA]; exact (Below.refl _ _).alloc (Nat.le_refl _) _
      have hxA : Box WA A6 73 (.slice none 0 0) (.int .i64 0) := by rw [hWA, hA6]; exact Box.new _ _ _ _
      have HOA := Lib.hid (hown.kept (below_grown hbA) (by simp))
      have HV := Lib.hid hv
      have HMF := Lib.hid hmf
      have HRK := Lib.hid hrk
      have HGN := Lib.hid hgn
      have HFF := Lib.hid hF
      have HGG := Lib.hid hG
      have HA6 := Lib.hid hA6
      have HWA := Lib.hid hWA
      have HSZA := Lib.hid hszA
      have HBA := Lib.hid hbA
      have HXA := Lib.hid hxA
      have HBL := Lib.hid hbl
      have hgA : g < A6 := by rw [hA6]; exact hown.lt
      have hwA : w.heap.size + 1 < A6 := by rw [hA6]; exact hxb.out.lt
      clear hn hown hv hent hbl hF hG hmf hrk hgn hA6 hWA hszA hbA hxA
      go_wp2_with (first | (at_range; rw [← HA6.out, ← HWA.out]; refine wpList_range_Rg _ rfl _ rfl g n M rfl HOA.out HV.out ?_; intro w1 cnt0 hrg hg1 hsz1; rw [HSZA.out] at hrg ⊢) | go_in)
      have hb1 : RowKit.Below WA.heap.size WA w1 := ⟨hg1.os, hg1.tape, hg1.output, hg1.size, fun i hi => hg1.block i hi (by simp)⟩
      have HRG := Lib.hid hrg
      have HB1 : Hid (RowKit.Below A6 W0 w1) := by rw [HA6.out]; exact HBA.out.trans (hb1.mono HBA.out.size)
      have HX1 := Lib.hid (HXA.out.below hb1 HXA.out.lt)
      clear hrg hg1 hsz1 hb1
      go_frame
      go_loopw [5, 26] (fun fw _ wz => ∃ L cnt, Hid (Rg wz g (A6 + 1) n M L cnt) ∧ Hid (RowKit.Below A6 W0 wz) ∧ Hid (∃ v0 v1, Box wz A6 73 v0 v1 ∧ (L F G = false → fw = .int .i64 (G : Int) ∧ v0 = .slice ak j ck ∧ v1 = .int .i64 (gn0 : Int)))) (fun _ _ wz => wz.rangeLeft g (A6 + 1))
      case atStart => exact ⟨_, cnt0, HRG, HB1, _, _, HX1.out, fun h => by have h2 : (M F G).isSome = false := h; rw [HMF.out] at h2; cases h2⟩
      case round =>
        obtain ⟨L, cnt, hrg, hbz, hfin⟩ := hrel
        clear HRG HB1 HX1
        have hml : wr.rangeLeft g (A6 + 1) = cnt := hrg.out.left_eq
        go_wp2_with (first | (at_next; refine wpList_next_Rg _ rfl _ rfl g (A6 + 1) n _ L cnt rfl hrg.out ?_ ?_) | go_in)
        · intro hl
          obtain ⟨v0, v1, hx, hdone⟩ := hfin.out
          obtain ⟨rfl, rfl, rfl⟩ := hdone (hl F G hF8 (by omega))
          have HX := Lib.hid hx
          have hy := hxb.out.below (HA6.out ▸ hbz.out) hxb.out.lt
          have HY := Lib.hid hy
          have BW : Hid (RowKit.Below w.heap.size w wr) := HBL.out.trans ((HA6.out ▸ hbz.out : RowKit.Below W0.heap.size W0 wr).mono HBL.out.size)
          have HRW := Lib.hid (HRK.out.below (HA6.out ▸ hbz.out : RowKit.Below W0.heap.size W0 wr))
          clear hl hml hx hy hdone hfin
          go_wp2
          have K1 : Hid (wr.drew.cell? ⟨A6, 0, none⟩ = some (.slice ak j ck) ∧ wr.drew.cell? ⟨A6, 1, none⟩ = some (.int .i64 (gn0 : Int))) := ⟨HX.out.drew.c0, HX.out.drew.c1⟩
          have X2 := Lib.hid (HX.out.drew.other ⟨w.heap.size + 1, 0, none⟩ (.slice ak j ck) (by simp <;> omega))
          have K2 : Hid ((wr.drew.setCell ⟨w.heap.size + 1, 0, none⟩ (.slice ak j ck)).cell? ⟨A6, 0, none⟩ = some (.slice ak j ck) ∧ (wr.drew.setCell ⟨w.heap.size + 1, 0, none⟩ (.slice ak j ck)).cell? ⟨A6, 1, none⟩ = some (.int .i64 (gn0 : Int))) := ⟨X2.out.c0, X2.out.c1⟩
          have X3 := Lib.hid (X2.out.other ⟨w.heap.size + 1, 1, none⟩ (.int .i64 (gn0 : Int)) (by simp <;> omega))
          have K3 : Hid (((wr.drew.setCell ⟨w.heap.size + 1, 0, none⟩ (.slice ak j ck)).setCell ⟨w.heap.size + 1, 1, none⟩ (.int .i64 (gn0 : Int))).cell? ⟨A6, 0, none⟩ = some (.slice ak j ck) ∧ ((wr.drew.setCell ⟨w.heap.size + 1, 0, none⟩ (.slice ak j ck)).setCell ⟨w.heap.size + 1, 1, none⟩ (.int .i64 (gn0 : Int))).cell? ⟨A6, 1, none⟩ = some (.int .i64 (gn0 : Int))) := ⟨X3.out.c0, X3.out.c1⟩
          have e0 := HY.out.c0
          have e1 := HY.out.c1
          have f0 := HY.out.f0
          have f1 := HY.out.f1
          go_region_held3 (fun V => V.cell? ⟨A6, 0, none⟩ = some (.slice ak j ck) ∧ V.cell? ⟨A6, 1, none⟩ = some (.int .i64 (gn0 : Int)))
            (first | (exact K1.out) | (exact K2.out) | (exact K3.out))
            (first | fail)
          go_wp2
          refine bodyPost_ret (v := .tuple #[.int .i64 (G : Int), .agg #[.slice ak j ck, .int .i64 (gn0 : Int)]]) (Box.resTG rfl _ rfl rfl ((HY.out.drew.set0 _).set1 _)) rfl ⟨⟨ak, ck, ?_, ?_⟩, ?_⟩
          · rw [HGG.out, HGN.out, HFF.out]
          · rw [← HFF.out]
            exact (own_set (own_set (HRW.out.below (Below.refl _ _).drew) ⟨w.heap.size + 1, 0, none⟩ _ (by show w.heap.size + 1 < g + 1; omega)) ⟨w.heap.size + 1, 1, none⟩ _ (by show w.heap.size + 1 < g + 1; omega)).mono (by omega)
          · exact (BW.out.drew.setCell (p := ⟨w.heap.size + 1, 0, none⟩) (Nat.le_succ _) _).setCell (p := ⟨w.heap.size + 1, 1, none⟩) (Nat.le_succ _) _
        · intro s q v W1 cnt1 hs hq hms2 hL hrg1 hlt hg1 hsz1 hen
          obtain ⟨rfl, rfl⟩ := honly.out s q v hs hq hms2
          rw [HMF.out] at hms2
          obtain rfl := Option.some.inj hms2
          unfold KV at hen ⊢
          obtain ⟨v0, v1, hx, hdone⟩ := hfin.out
          obtain ⟨K, hKs⟩ : ∃ K, K = W1.heap.size := ⟨_, rfl⟩
          have hKw : A6 + 1 < K := by have := hrg1.ne; omega
          obtain ⟨L1, hL1⟩ : ∃ L1 : Nat → Nat → Bool, L1 = fun a b => L a b && !decide (a = s ∧ b = q) := ⟨_, rfl⟩
          obtain ⟨W3, hW3⟩ : ∃ W3, W3 = (W1.alloc (.cells #[.int .i64 (s : Int), .int .i64 (q : Int)] 108)).alloc (.cells #[.slice ak j ck, .int .i64 (gn0 : Int)] 73) := ⟨_, rfl⟩
          have hb3 : RowKit.Below W1.heap.size W1 W3 := by rw [hW3]; exact ((Below.refl _ _).alloc (Nat.le_refl _) _).alloc (by simp) _
          have x6 : Box W3 K 108 (.int .i64 (s : Int)) (.int .i64 (q : Int)) := by rw [hW3, hKs]; exact (Box.new _ _ _ _).more _
          have x7 : Box W3 (K + 1) 73 (.slice ak j ck) (.int .i64 (gn0 : Int)) := by
            rw [hW3, hKs]
            have := Box.new (W1.alloc (.cells #[.int .i64 (s : Int), .int .i64 (q : Int)] 108)) 73 (.slice ak j ck) (.int .i64 (gn0 : Int))
            simpa using this
          have x8 : Box W3 A6 73 v0 v1 := (box_kept hx hg1 (by simp <;> omega)).below hb3 (by omega)
          have RG3 : Hid (Rg W3 g (A6 + 1) n M L1 cnt1) := (hrg1.on hb3).congr (fun _ _ _ _ => rfl) (fun s2 q2 _ _ => by rw [hL1]; simp)
          have hbw3 : RowKit.Below A6 W0 W3 := (hbz.out.grown hg1 (by have := hbz.out.size; have := HA6.out; omega) (fun k hk => by cases hk; omega)).trans (hb3.mono (by omega))
          have BW3 := Lib.hid hbw3
          have HW3 := Lib.hid hW3
          have X6 := Lib.hid x6
          have X7 := Lib.hid x7
          have X8 := Lib.hid x8
          have HKs := Lib.hid hKs
          have HL1 := Lib.hid hL1
          have hA6K : A6 < W3.heap.size := x8.lt
          clear hsz1 hrg1 hg1 hrg hfin hdone hx hW3 hb3 x6 x7 x8 hKs hL1 hbw3 hbz hL
          go_wp2
          rw [← HKs.out, ← HW3.out]
          have S1 : Hid (W3.drew.cell? ⟨K, 1, none⟩ = some (.int .i64 (q : Int)) ∧ W3.drew.cell? ⟨K + 1, 0, none⟩ = some (.slice ak j ck) ∧ W3.drew.cell? ⟨K + 1, 1, none⟩ = some (.int .i64 (gn0 : Int))) := ⟨X6.out.drew.c1, X7.out.drew.c0, X7.out.drew.c1⟩
          have Y6 := Lib.hid (X6.out.drew.other ⟨A6, 0, none⟩ (.slice ak j ck) (by simp <;> omega))
          have Y7 := Lib.hid (X7.out.drew.other ⟨A6, 0, none⟩ (.slice ak j ck) (by simp <;> omega))
          have S2 : Hid ((W3.drew.setCell ⟨A6, 0, none⟩ (.slice ak j ck)).cell? ⟨K, 1, none⟩ = some (.int .i64 (q : Int)) ∧ (W3.drew.setCell ⟨A6, 0, none⟩ (.slice ak j ck)).cell? ⟨K + 1, 0, none⟩ = some (.slice ak j ck) ∧ (W3.drew.setCell ⟨A6, 0, none⟩ (.slice ak j ck)).cell? ⟨K + 1, 1, none⟩ = some (.int .i64 (gn0 : Int))) := ⟨Y6.out.c1, Y7.out.c0, Y7.out.c1⟩
          have Z6 := Lib.hid (Y6.out.other ⟨A6, 1, none⟩ (.int .i64 (gn0 : Int)) (by simp <;> omega))
          have Z7 := Lib.hid (Y7.out.other ⟨A6, 1, none⟩ (.int .i64 (gn0 : Int)) (by simp <;> omega))
          have S3 : Hid (((W3.drew.setCell ⟨A6, 0, none⟩ (.slice ak j ck)).setCell ⟨A6, 1, none⟩ (.int .i64 (gn0 : Int))).cell? ⟨K, 1, none⟩ = some (.int .i64 (q : Int)) ∧ ((W3.drew.setCell ⟨A6, 0, none⟩ (.slice ak j ck)).setCell ⟨A6, 1, none⟩ (.int .i64 (gn0 : Int))).cell? ⟨K + 1, 0, none⟩ = some (.slice ak j ck) ∧ ((W3.drew.setCell ⟨A6, 0, none⟩ (.slice ak j ck)).setCell ⟨A6, 1, none⟩ (.int .i64 (gn0 : Int))).cell? ⟨K + 1, 1, none⟩ = some (.int .i64 (gn0 : Int))) := ⟨Z6.out.c1, Z7.out.c0, Z7.out.c1⟩
          have e0 := X8.out.c0
          have e1 := X8.out.c1
          have f0 := X8.out.f0
          have f1 := X8.out.f1
          go_region_held3 (fun V => V.cell? ⟨K, 1, none⟩ = some (.int .i64 (q : Int)) ∧ V.cell? ⟨K + 1, 0, none⟩ = some (.slice ak j ck) ∧ V.cell? ⟨K + 1, 1, none⟩ = some (.int .i64 (gn0 : Int)))
            (first | (exact S1.out) | (exact S2.out) | (exact S3.out))
            (first | fail)
          clear e0 e1 f0 f1
          obtain ⟨W7, hW7⟩ : ∃ W7, W7 = ((W3.setCell ⟨A6, 0, none⟩ (.slice ak j ck)).setCell ⟨A6, 1, none⟩ (.int .i64 (gn0 : Int))).drew := ⟨_, rfl⟩
          have hg7 : W3.grownBy W7 (some A6) := by
            rw [hW7]
            refine World.grownBy.andThen (b' := (W3.setCell ⟨A6, 0, none⟩ (.slice ak j ck)).setCell ⟨A6, 1, none⟩ (.int .i64 (gn0 : Int))) ⟨rfl, rfl, rfl, by simp [World.setCell], fun k hk hne => ?_⟩ (below_grown (Below.refl _ _).drew) (fun j hj => by cases hj)
            rw [heap_setCell_other _ _ _ _ (fun e => hne (by rw [e])), heap_setCell_other _ _ _ _ (fun e => hne (by rw [e]))]
          have hx7 : Box W7 A6 73 (.slice ak j ck) (.int .i64 (gn0 : Int)) := by rw [hW7]; exact ((X8.out.set0 _).set1 _).drew
          have RG7 := Lib.hid (RG3.out.kept hg7 (by simp <;> omega) (by simp))
          have BW7 : Hid (RowKit.Below A6 W0 W7) := BW3.out.grown hg7 (Nat.le_of_lt hA6K) (fun k hk => by cases hk; exact Nat.le_refl _)
          have HX7 := Lib.hid hx7
          have HW7 := Lib.hid hW7
          have hm7 : W7.rangeLeft g (A6 + 1) = cnt1 := RG7.out.left_eq
          clear hW7 hg7 hx7 S1 S2 S3 Y6 Y7 Z6 Z7
          go_wp2
          rw [← HW7.out]
          exact ⟨⟨L1, cnt1, RG7, BW7, _, _, HX7.out, fun _ => ⟨rfl, rfl, rfl⟩⟩, by rw [hm7, hml]; omega⟩
end Go.Proofs.Yteegbkbphfmooaa
