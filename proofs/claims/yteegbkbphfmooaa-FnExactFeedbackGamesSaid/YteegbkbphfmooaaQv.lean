/-
  The model's table of best orders ('l08Table'). No conditions but the bounds that Go gives a slice.
-/
import Derived.Test.YteegbkbphfmooaaQu
import Derived.Test.YteegbkbphfmooaaN
namespace Go.Proofs.Yteegbkbphfmooaa
open Go.ChangeShapes Go.WideShapes Go.ChangeAt Go.RowKit Go.Sort
set_option linter.unusedVariables false

def tb (f : Nat → Nat → Bool) (k : Nat) : List Int := (List.range k).map fun s => ((Rv.gm f s : Nat) : Int)
def tw (f : Nat → Nat → Bool) (k : Nat) : List Int := (List.range k).map fun s => ((Rv.gn f s : Nat) : Int)
theorem tb_at (f : Nat → Nat → Bool) {k s : Nat} (h : s < k) : (tb f k).getD s 0 = ((Rv.gm f s : Nat) : Int) := by
  unfold tb
  rw [List.getD_eq_getElem?_getD, List.getElem?_map, List.getElem?_range h]; rfl
theorem tw_at (f : Nat → Nat → Bool) {k s : Nat} (h : s < k) : (tw f k).getD s 0 = ((Rv.gn f s : Nat) : Int) := by
  unfold tw
  rw [List.getD_eq_getElem?_getD, List.getElem?_map, List.getElem?_range h]; rfl
theorem tb_next (f : Nat → Nat → Bool) (k : Nat) : tb f (k + 1) = tb f k ++ [((Rv.gm f k : Nat) : Int)] := by
  unfold tb; rw [List.range_succ, List.map_append]; rfl
theorem tw_next (f : Nat → Nat → Bool) (k : Nat) : tw f (k + 1) = tw f k ++ [((Rv.gn f k : Nat) : Int)] := by
  unfold tw; rw [List.range_succ, List.map_append]; rfl
theorem set_in {m s b : Nat} (hs : s < 2 ^ m) (h : s.testBit b = true) : b < m := by
  rcases Nat.lt_or_ge b m with h1 | h1
  · exact h1
  · rw [Nat.testBit_lt_two_pow (Nat.lt_of_lt_of_le hs (Nat.pow_le_pow_right (by omega) h1))] at h; cases h

theorem sub_facts {k b : Nat} (hk : k < 256) (hb8 : b < 8) (hbt : k.testBit b = true) : ∃ q left : Nat, q ≤ k ∧ wrap64 (2 ^ b) = (q : Int) ∧ left < k ∧ (k : Int) - (q : Int) = (left : Int) ∧ left.testBit b = false ∧ Hid (left = k - 2 ^ b) := by
  obtain ⟨_, h2⟩ := Hw.sub_bit hk hb8 hbt
  have h3 : k - 2 ^ b < k := Nat.sub_lt (Nat.lt_of_lt_of_le Nat.one_le_two_pow h2) Nat.one_le_two_pow
  have h4 : ((k - 2 ^ b : Nat) : Int) = (k : Int) - ((2 ^ b : Nat) : Int) := Int.ofNat_sub h2
  refine ⟨2 ^ b, k - 2 ^ b, h2, wrapPow b (Nat.le_of_lt hb8), h3, h4.symm, ?_, rfl⟩
  rw [Rv.sub_tb hk hb8 hbt]; simp

/-- What 'l08Table' returns. -/
def TabR (f : Nat → Nat → Bool) (N : Nat) (w : World) (e : Ending) (w' : World) : Prop :=
  (∃ gb cb gw cw, e = .returned (.tuple #[.slice (some ⟨gb, 0, none⟩) N cb, .slice (some ⟨gw, 0, none⟩) N cw]) ∧ w'.ownsRow w.heap.size 3 1 (.slice (some ⟨gb, 0, none⟩) N cb) N ((tb f N).map iv) ∧ w'.ownsRow w.heap.size 3 1 (.slice (some ⟨gw, 0, none⟩) N cw) N ((tw f N).map iv)) ∧ Below w.heap.size w w'

set_option maxRecDepth 100000 in
set_option maxHeartbeats 4000000 in
theorem l08Table_any (m : Nat) (a : Option Addr) (l : List Int) (cap : Nat) (w : World) (hm : l.length = m) (hok : Ok m l) (hrow : IntRow w a l) :
    Calls Try.prog 98 #[.agg #[.int .i64 (m : Int), .slice a m cap]] w (TabR (bt l) (2 ^ m) w) := by
  have h8 : m ≤ 8 := by have := hok.2.1; omega
  obtain ⟨Wa, hWa⟩ : ∃ Wa, Wa = w.alloc (.cells #[.int .i64 (m : Int), .slice a m cap] 25) := ⟨_, rfl⟩
  have HWa := Lib.hid hWa
  have hba : Below w.heap.size w Wa := by rw [hWa]; exact (Below.refl _ _).alloc (Nat.le_refl _) _
  have xa : Box Wa w.heap.size 25 (.int .i64 (m : Int)) (.slice a m cap) := by rw [hWa]; exact Box.new _ _ _ _
  have R1 := Lib.hid (hrow.below hba (Nat.le_refl _))
  have X1 := Lib.hid xa
  have B1 := Lib.hid hba
  have HK := Lib.hid hok
  have HM := Lib.hid hm
  obtain ⟨f, hf⟩ : ∃ f, f = bt l := ⟨_, rfl⟩
  obtain ⟨N, hN⟩ : ∃ N, N = 2 ^ m := ⟨_, rfl⟩
  have hN256 : N ≤ 256 := by rw [hN]; exact pow_le m h8
  have hN1 : 1 ≤ N := by rw [hN]; exact Nat.one_le_two_pow
  have HN := Lib.hid hN
  have HALL : Hid (∀ W, Calls Try.prog 99 #[.agg #[.int .i64 (m : Int), .slice a m cap]] W fun e w' => e = .returned (.int .i64 ((N : Int) - 1)) ∧ Below W.heap.size W w') := fun W => by
    have := l02All_any a m cap m W h8
    rw [← hN] at this
    refine this.mono fun e w' ⟨h1, h2⟩ => ⟨h1, h2⟩
  have HF := Lib.hid hf
  rw [← hf, ← hN]
  obtain ⟨W2, hW2⟩ : ∃ W2, W2 = (Wa.alloc (.cells #[.int .i64 0] 3)).alloc (.cells #[.int .i64 1] 3) := ⟨_, rfl⟩
  have HW2 := Lib.hid hW2
  have s1 : (Wa.alloc (.cells #[.int .i64 0] 3)).heap.size = Wa.heap.size + 1 := by simp
  have o1 : W2.ownsRow Wa.heap.size 3 1 (.slice (some ⟨Wa.heap.size, 0, none⟩) 1 1) 1 ((tb f 1).map iv) := by
    rw [hW2]
    exact (World.ownsRow_lit (base := Wa.heap.size) (e := 3) (size := 1) Wa #[.int .i64 0] 1 (Nat.le_refl _) (by unfold maxLen; omega) rfl).alloc _
  have o2 : W2.ownsRow Wa.heap.size 3 1 (.slice (some ⟨Wa.heap.size + 1, 0, none⟩) 1 1) 1 ((tw f 1).map iv) := by
    have := World.ownsRow_lit (base := Wa.heap.size) (e := 3) (size := 1) (Wa.alloc (.cells #[.int .i64 0] 3)) #[.int .i64 1] 1 (by rw [s1]; omega) (by unfold maxLen; omega) rfl
    rw [s1] at this
    rw [hW2]; exact this
  have b2 : Below Wa.heap.size Wa W2 := by rw [hW2]; exact (Below.one Wa _).alloc (Below.one Wa _).size _
  have O1 := Lib.hid o1
  have O2 := Lib.hid o2
  have hwa : Wa.heap.size = w.heap.size + 1 := by rw [hWa]; simp
  clear hWa hba xa hrow hok hm hf hN hW2 s1 o1 o2
  go_enter Try.func98, Try.ntmps98
  go_wp2
  rw [← HWa.out, ← hwa]
  rw [← HW2.out]
  clear hwa
  go_loopw [4, 5, 6] (fun vb vw i wr => ∃ (k gb cb gw cw : Nat), 1 ≤ k ∧ k ≤ N ∧ i = .int .i64 (k : Int) ∧ vb = .slice (some ⟨gb, 0, none⟩) k cb ∧ vw = .slice (some ⟨gw, 0, none⟩) k cw ∧ Hid (wr.ownsRow Wa.heap.size 3 1 (.slice (some ⟨gb, 0, none⟩) k cb) k ((tb f k).map iv)) ∧ Hid (wr.ownsRow Wa.heap.size 3 1 (.slice (some ⟨gw, 0, none⟩) k cw) k ((tw f k).map iv)) ∧ gb ≠ gw ∧ Below Wa.heap.size Wa wr) (fun _ _ i _ => N - (intOf i).toNat)
  case atStart => exact ⟨1, _, 1, _, 1, Nat.le_refl _, hN1, rfl, rfl, rfl, O1, O2, by omega, b2⟩
  case round =>
    obtain ⟨k, gb, cb, gw, cw, hk1, hkN, rfl, rfl, rfl, hob, how, hne, hb⟩ := hrel
    have hgb := hob.out.lt gb rfl
    have hgw := how.out.lt gw rfl
    have xr := X1.out.below hb X1.out.lt
    have c0 := xr.c0
    have c1 := xr.c1
    have HOB := hob
    have HOW := how
    have HB0 := Lib.hid hb
    by_cases hlt : k < N
    · have hki : (k : Int) ≤ (N : Int) - 1 := by omega
      have hs256 : k < 256 := by omega
      have hpos : 0 < pc k := by
        have : ∀ s : Fin 256, 1 ≤ s.val → 0 < pc s.val := by decide +kernel
        exact this ⟨k, hs256⟩ hk1
      have HLI : Hid (∀ W, Calls Try.prog 135 #[.int .i64 (k : Int)] W fun e w' => (∃ g c, e = .returned (.slice (some ⟨g, 0, none⟩) (elems k).length c) ∧ w'.ownsRow W.heap.size 3 1 (.slice (some ⟨g, 0, none⟩) (elems k).length c) (elems k).length ((elems k).map nv)) ∧ Below W.heap.size W w') := fun W => l02List_any k hs256 W
      obtain ⟨es, hes⟩ : ∃ es, es = elems k := ⟨_, rfl⟩
      rw [← hes] at HLI
      have HES := Lib.hid hes
      have hel : es.length ≤ 8 := by rw [hes]; exact elTo_len k 8
      clear hob how hb xr hes
      go_wp2_with fail
      refine (HALL.out wr).mono ?_
      rintro e w2 ⟨rfl, hb2⟩
      clear c0 c1
      go_wp2_with fail
      refine (HLI.out w2).mono ?_
      rintro e w3 ⟨⟨g3, c3, rfl, ho3⟩, hb3⟩
      have hb23 := hb2.trans (hb3.mono hb2.size)
      have HB3 := Lib.hid (HB0.out.trans (hb23.mono HB0.out.size))
      have HOB3 : Hid (w3.ownsRow Wa.heap.size 3 1 (.slice (some ⟨gb, 0, none⟩) k cb) k ((tb f k).map iv)) := own_below HOB.out hb23
      have HOW3 : Hid (w3.ownsRow Wa.heap.size 3 1 (.slice (some ⟨gw, 0, none⟩) k cw) k ((tw f k).map iv)) := own_below HOW.out hb23
      have hg3 := (ho3.lt g3 rfl)
      have hsz3 := hb23.size
      have HCB : Hid (∀ W, Below w3.heap.size w3 W → ∀ s, s < k → ∀ z, z = Rv.gm f s → W.cell? ⟨gb, s, none⟩ = some (.int .i64 (z : Int))) := fun W hW s hs z hz => by
        rw [hW.cell (p := ⟨gb, s, none⟩) (show gb < w3.heap.size by omega), cell_own HOB3.out hs, tb_at f hs, hz]; rfl
      have HCW : Hid (∀ W, Below w3.heap.size w3 W → ∀ s, s < k → ∀ z, z = Rv.gn f s → W.cell? ⟨gw, s, none⟩ = some (.int .i64 (z : Int))) := fun W hW s hs z hz => by
        rw [hW.cell (p := ⟨gw, s, none⟩) (show gw < w3.heap.size by omega), cell_own HOW3.out hs, tw_at f hs, hz]; rfl
      have HCE : Hid (∀ W, Below w3.heap.size w3 W → ∀ j, j < es.length → ∀ z, z = es.getD j 0 → W.cell? ⟨g3, j, none⟩ = some (.int .i64 (z : Int))) := fun W hW j hj z hz => by
        rw [hW.cell (p := ⟨g3, j, none⟩) (show g3 < w3.heap.size from hg3.2), ho3.cellAt j (by omega), List.getElem?_map, hz, List.getD_eq_getElem?_getD, List.getElem?_eq_getElem hj]; rfl
      have HX3 : Hid (∀ W, Below w3.heap.size w3 W → W.cell? ⟨w.heap.size, 0, none⟩ = some (.int .i64 (m : Int)) ∧ W.cell? ⟨w.heap.size, 1, none⟩ = some (.slice a m cap) ∧ IntRow W a l) := fun W hW => by
        have hB := HB3.out.trans (hW.mono HB3.out.size)
        have x2 := X1.out.below hB X1.out.lt
        exact ⟨x2.c0, x2.c1, R1.out.below hB (Nat.le_refl _)⟩
      clear ho3 hb2 hb3 hb23 HLI
      go_wp2
      go_loopw [7, 8, 24] (fun vl vn i wr2 => ∃ (j : Nat) (L : Int) (n : Nat), j ≤ es.length ∧ i = .int .i64 (j : Int) ∧ vl = .int .i64 L ∧ vn = .int .i64 (n : Int) ∧ Rv.pl1 (Rv.pt f k j) = L ∧ Rv.pl2 (Rv.pt f k j) = n ∧ Below w3.heap.size w3 wr2) (fun _ _ i _ => es.length - (intOf i).toNat)
      case atStart => exact ⟨0, -1, 0, Nat.zero_le _, rfl, rfl, rfl, rfl, rfl, Below.refl _ _⟩
      case round =>
        obtain ⟨j, L, n, hj, rfl, rfl, rfl, hL, hn, hb⟩ := hrel
        by_cases hlt2 : j < es.length
        · obtain ⟨s, hs⟩ : ∃ s, s = k := ⟨_, rfl⟩
          have hes := HES.out
          obtain ⟨b, hbd⟩ : ∃ b, b = es.getD j 0 := ⟨_, rfl⟩
          have hbm : b ∈ elems k := by
            rw [← hes, hbd, List.getD_eq_getElem?_getD, List.getElem?_eq_getElem hlt2]; exact List.getElem_mem _
          obtain ⟨hb8, hbt⟩ := Hw.mem_elems.1 hbm
          have hkN2 : Hid (k < 2 ^ m) := (show k < 2 ^ m from Nat.lt_of_lt_of_eq hlt HN.out)
          have hbmm : b < m := set_in hkN2.out hbt
          obtain ⟨q, left, hqk, hwp, hleft, hsub, hlf, hle⟩ := sub_facts hs256 hb8 hbt
          have hl256 : left < 256 := Nat.lt_trans hleft hs256
          have hwv : Value.int .i64 (wrap64 (2 ^ b)) = Value.int .i64 (q : Int) := by rw [hwp]
          clear hwp
          have hpn := Rv.pt_next f k j (by rw [← hes]; exact hlt2)
          rw [← hes, ← hbd, ← hle.out] at hpn
          obtain ⟨g1, hg1⟩ : ∃ g1, g1 = Rv.gm f left := ⟨_, rfl⟩
          obtain ⟨y, hy⟩ : ∃ y, y = Rv.gn f left := ⟨_, rfl⟩
          have hbl : b < l.length := by rw [HM.out]; exact hbmm
          obtain ⟨hw1, _, hw256⟩ := HK.out.ww hbl
          have hpcf := pc_first HK.out HM.out hbmm hl256 (fun b2 h2 => set_in (s := left) (Nat.lt_trans hleft hkN2.out) h2) hlf
          rw [← HF.out] at hpcf
          rw [← hpcf, ← hg1, ← hy] at hpn
          obtain ⟨c0, c1, hrr⟩ := HX3.out wr hb
          obtain ⟨ba, offa, rfl, hba2, hca⟩ := hrr.at hbl
          rw [hw1] at hca
          obtain ⟨wl, hwl⟩ : ∃ wl, wl = ww l b := ⟨_, rfl⟩
          rw [← hwl] at hca hw256 hpn
          have hand : bits .andNot .i64 (left : Int) (wl : Int) = ((left ^^^ (left &&& wl) : Nat) : Int) := Rv.i64_andNotR _ _ (by omega) (by omega)
          obtain ⟨z, hz⟩ : ∃ z, z = left ^^^ (left &&& wl) := ⟨_, rfl⟩
          have hz256 : z < 256 := by rw [hz]; exact Nat.xor_lt_two_pow (n := 8) hl256 (Nat.lt_of_le_of_lt Nat.and_le_left hl256)
          rw [← hz] at hand hpn
          obtain ⟨pz, hpz⟩ : ∃ pz, pz = pc z := ⟨_, rfl⟩
          have hpz8 : pz ≤ 8 := by rw [hpz]; exact pc_le z
          rw [← hpz] at hpn
          have hg164 : g1 ≤ 64 := by rw [hg1]; exact (Rv.G_bound f hl256).1
          have hyb : y ≤ 16777216 := by rw [hy]; exact (Rv.G_bound f hl256).2
          obtain ⟨x, hx⟩ : ∃ x, x = g1 + pz := ⟨_, rfl⟩
          have hxi0 : (g1 : Int) + (pz : Int) = (x : Int) := by omega
          rw [← hx] at hpn
          have e0 := HCE.out wr hb j hlt2 b hbd
          have e1 := HCB.out wr hb left hleft g1 hg1
          have HYY := Lib.hid hy
          have hq0 := fun d os => cell_regrown c0 d os
          have hq1' := fun d os => cell_regrown c1 d os
          have hq2 := fun d os => cell_regrown e0 d os
          have hq3 := fun d os => cell_regrown e1 d os
          have hq4 := fun d os => cell_regrown hca d os
          have cB : ∀ d os, Calls Try.prog 136 #[.int .i64 (z : Int)] (Go.Sort.grow (redrawn wr d) os) fun e w'' => e = .returned (.int .i64 (pz : Int)) ∧ ∃ r : Regrown, w'' = Go.Sort.grow (redrawn wr r.d) r.os :=
            fun d os => Calls.regrown_of ((l02Bits_any z hz256 _).mono fun e w' ⟨he, hw⟩ => ⟨by rw [he, hpz], hw ▸ Below.refl _ _⟩)
          have hji : (j : Int) < (es.length : Int) := by omega
          have hbi : (b : Int) < (m : Int) := by omega
          have hli : (left : Int) < (k : Int) := by omega
          have hb64 : b < 64 := by omega
          clear hes hbd hbm hbt hkN2 hle hg1 hy hlf hw1 hpcf hrr hwl hz hpz hx hs
          cases hpt : Rv.pt f k j with
          | none =>
            rw [hpt] at hL hn
            obtain rfl : L = -1 := hL.symm
            obtain rfl : n = 0 := hn.symm
            clear hL hn
            have hnew : Rv.pl1 (Rv.pt f k (j + 1)) = (x : Int) ∧ Rv.pl2 (Rv.pt f k (j + 1)) = y := by
              rw [hpn, hpt]
              exact ⟨rfl, rfl⟩
            have HNW := Lib.hid hnew
            have hb1 := (Rv.pt_bound f hs256 (j + 1)).2
            rw [hnew.2] at hb1
            have hlt0 : ((-1 : Int) < 0) = True := by simp
            clear hnew hpn hpt hlt0
            go_wp2
            refine wp_region_quiet_below (by kernel_rfl) (by kernel_rfl) ?_
            repeat (go_big_quiet_step (exact cB _ _))
            refine wpQuiet_nil ?_
            intro wq hw'
            have hbq : Below wr.heap.size wr wq := by obtain ⟨⟨dq, osq⟩, hw''⟩ := hw'; rw [hw'']; exact below_regrown wr dq osq
            have hb2 := hb.trans (hbq.mono hb.size)
            have e3 : wq.cell? ⟨gw, left, none⟩ = some (.int .i64 (y : Int)) := HCW.out wq hb2 left hleft y HYY.out
            clear hw' cB hq0 hq1' hq2 hq3 hq4 hbq hb
            go_wp2
            go_roundw
            case rel => exact ⟨j + 1, _, y, by omega, by go_num, rfl, by go_num, HNW.out.1, HNW.out.2, hb2⟩
            case measure => simp [intOf]; omega
          | some t =>
            obtain ⟨p, n2, v⟩ := t
            rw [hpt] at hL hn
            obtain rfl : L = (p : Int) := hL.symm
            obtain rfl : n = n2 := hn.symm
            have hpb := (Rv.pt_bound f hs256 j).1
            rw [hpt] at hpb
            have hpb2 : p ≤ 72 := by have h9 : ((p : Nat) : Int) ≤ 72 := hpb; omega
            clear hL hn hpb
            rcases Nat.lt_trichotomy x p with hxp | hxp | hxp
            · skip
              have hnew : Rv.pl1 (Rv.pt f k (j + 1)) = (x : Int) ∧ Rv.pl2 (Rv.pt f k (j + 1)) = y := by
                rw [hpn, hpt]
                unfold Rv.co Rv.cm; simp only [if_neg (show ¬ p < x by omega), if_pos hxp]; exact ⟨rfl, rfl⟩
              have HNW := Lib.hid hnew
              have hb1 := (Rv.pt_bound f hs256 (j + 1)).2
              rw [hnew.2] at hb1
              have hpi : ¬ (p : Int) < 0 := by omega
              have hxi : (x : Int) < (p : Int) := by omega
              clear hnew hpn hpt 
              go_wp2
              refine wp_region_quiet_below (by kernel_rfl) (by kernel_rfl) ?_
              repeat (go_big_quiet_step (exact cB _ _))
              refine wpQuiet_nil ?_
              intro wq hw'
              have hbq : Below wr.heap.size wr wq := by obtain ⟨⟨dq, osq⟩, hw''⟩ := hw'; rw [hw'']; exact below_regrown wr dq osq
              have hb2 := hb.trans (hbq.mono hb.size)
              have e3 : wq.cell? ⟨gw, left, none⟩ = some (.int .i64 (y : Int)) := HCW.out wq hb2 left hleft y HYY.out
              clear hw' cB hq0 hq1' hq2 hq3 hq4 hbq hb
              go_wp2
              go_roundw
              case rel => exact ⟨j + 1, _, y, by omega, by go_num, rfl, by go_num, HNW.out.1, HNW.out.2, hb2⟩
              case measure => simp [intOf]; omega
            · have hxp2 := hxp.symm
              subst hxp2
              have hnew : Rv.pl1 (Rv.pt f k (j + 1)) = (p : Int) ∧ Rv.pl2 (Rv.pt f k (j + 1)) = (n + y) := by
                rw [hpn, hpt]
                unfold Rv.co Rv.cm; simp only [if_neg (Nat.lt_irrefl p)]; exact ⟨rfl, rfl⟩
              have HNW := Lib.hid hnew
              have hb1 := (Rv.pt_bound f hs256 (j + 1)).2
              rw [hnew.2] at hb1
              have hpi : ¬ (p : Int) < 0 := by omega
              clear hnew hpn hpt 
              go_wp2
              refine wp_region_quiet_below (by kernel_rfl) (by kernel_rfl) ?_
              repeat (go_big_quiet_step (exact cB _ _))
              refine wpQuiet_nil ?_
              intro wq hw'
              have hbq : Below wr.heap.size wr wq := by obtain ⟨⟨dq, osq⟩, hw''⟩ := hw'; rw [hw'']; exact below_regrown wr dq osq
              have hb2 := hb.trans (hbq.mono hb.size)
              have e3 : wq.cell? ⟨gw, left, none⟩ = some (.int .i64 (y : Int)) := HCW.out wq hb2 left hleft y HYY.out
              clear hw' cB hq0 hq1' hq2 hq3 hq4 hbq hb
              go_wp2
              go_roundw
              case rel => exact ⟨j + 1, _, (n + y), by omega, by go_num, rfl, by go_num, HNW.out.1, HNW.out.2, hb2⟩
              case measure => simp [intOf]; omega
            · skip
              have hnew : Rv.pl1 (Rv.pt f k (j + 1)) = (p : Int) ∧ Rv.pl2 (Rv.pt f k (j + 1)) = n := by
                rw [hpn, hpt]
                unfold Rv.co Rv.cm; simp only [if_pos (show p < x by omega)]; exact ⟨rfl, rfl⟩
              have HNW := Lib.hid hnew
              have hb1 := (Rv.pt_bound f hs256 (j + 1)).2
              rw [hnew.2] at hb1
              have hpi : ¬ (p : Int) < 0 := by omega
              have hxi : ¬ (x : Int) < (p : Int) := by omega
              have hxe : ((x : Int) == (p : Int)) = false := by rw [beq_eq_false_iff_ne]; omega
              clear hnew hpn hpt 
              go_wp2
              refine wp_region_quiet_below (by kernel_rfl) (by kernel_rfl) ?_
              repeat (go_big_quiet_step (exact cB _ _))
              refine wpQuiet_nil ?_
              intro wq hw'
              have hbq : Below wr.heap.size wr wq := by obtain ⟨⟨dq, osq⟩, hw''⟩ := hw'; rw [hw'']; exact below_regrown wr dq osq
              have hb2 := hb.trans (hbq.mono hb.size)
              have e3 : wq.cell? ⟨gw, left, none⟩ = some (.int .i64 (y : Int)) := HCW.out wq hb2 left hleft y HYY.out
              clear hw' cB hq0 hq1' hq2 hq3 hq4 hbq hb
              go_wp2
              go_roundw
              case rel => exact ⟨j + 1, _, n, by omega, by go_num, rfl, rfl, HNW.out.1, HNW.out.2, hb2⟩
              case measure => simp [intOf]; omega
        · obtain rfl : j = es.length := by omega
          have hall := Rv.pt_all f hs256 hpos
          rw [← HES.out] at hall
          have hLk : L = ((Rv.gm f k : Nat) : Int) := by rw [← hL, hall, Rv.G_eq f hs256]; rfl
          have hnk : n = Rv.gn f k := by rw [← hn, hall, Rv.G_eq f hs256]; rfl
          have hbk := Rv.G_bound f hs256
          clear hL hn hall
          obtain ⟨gk, hgk⟩ : ∃ gk, gk = Rv.gm f k := ⟨_, rfl⟩
          obtain ⟨nk, hnk2⟩ : ∃ nk, nk = Rv.gn f k := ⟨_, rfl⟩
          rw [← hgk] at hLk hbk
          rw [← hnk2] at hnk hbk
          subst hLk
          subst hnk
          have HTB : Hid (tb f (k + 1) = tb f k ++ [(gk : Int)]) := by show _ = _; rw [tb_next, hgk]
          have HTW : Hid (tw f (k + 1) = tw f k ++ [(n : Int)]) := by show _ = _; rw [tw_next, hnk2]
          have OB4 : Hid ((wr.alloc (.cells #[.int .i64 (gk : Int)] 3)).ownsRow Wa.heap.size 3 1 (.slice (some ⟨gb, 0, none⟩) k cb) k ((tb f k).map iv)) := by
            have hgn : wr.grownBy (wr.alloc (.cells #[.int .i64 (gk : Int)] 3)) none := World.grownBy_alloc _ _ _
            exact own_grown (own_below HOB3.out hb) hgn (fun k _ e => by cases e)
          have OW4 : Hid ((wr.alloc (.cells #[.int .i64 (gk : Int)] 3)).ownsRow Wa.heap.size 3 1 (.slice (some ⟨gw, 0, none⟩) k cw) k ((tw f k).map iv)) := by
            have hgn : wr.grownBy (wr.alloc (.cells #[.int .i64 (gk : Int)] 3)) none := World.grownBy_alloc _ _ _
            exact own_grown (own_below HOW3.out hb) hgn (fun k _ e => by cases e)
          have hbr := HB3.out.trans (hb.mono HB3.out.size)
          have B4 := Lib.hid (hbr.alloc hbr.size (.cells #[.int .i64 (gk : Int)] 3))
          have HC4 : Hid ((wr.alloc (.cells #[.int .i64 (gk : Int)] 3)).cell? ⟨wr.heap.size, 0, none⟩ = some (iv (gk : Int))) := by
            have hh : (wr.alloc (.cells #[.int .i64 (gk : Int)] 3)).heap[wr.heap.size]? = some (.cells #[.int .i64 (gk : Int)] 3 (0, 0)) := by show (wr.heap.push _)[wr.heap.size]? = _; simp
            exact cell1 hh
          have hszr := hb.size
          clear hgk hnk2 hb hbr
          go_wp2_with (at_builtin; refine list_append1 _ rfl _ _ rfl Wa.heap.size gb k cb (tb f k) rfl OB4.out ⟨wr.heap.size, 0, none⟩ 1 (gk : Int) rfl HC4.out (by omega) B4.out.size ?_)
          intro g5 c5 w5 ho5 hg5 hb5 hat5
          have HO5 : Hid (w5.ownsRow Wa.heap.size 3 1 (.slice (some ⟨g5, 0, none⟩) (k + 1) c5) (k + 1) ((tb f (k + 1)).map iv)) := (show World.ownsRow _ _ _ _ _ _ _ from (by rw [HTB.out]; first | exact ho5 | simpa using ho5))
          have OW5 := Lib.hid (own_grown OW4.out hg5 (fun kk hk e => by
            have : kk = gw := by simp [blk] at hk; omega
            subst this
            exact hne (by simpa using e)))
          have hne5 : g5 ≠ gw := by
            rcases hat5 with h | h
            · omega
            · have h2 : g5 = wr.heap.size + 1 := by first | exact h | (rw [h]; simp)
              omega
          have B5 := Lib.hid (B4.out.trans hb5)
          have hs5 := hg5.size
          have hs5' : wr.heap.size + 1 ≤ w5.heap.size := by simpa using hs5
          clear ho5 hg5 hb5 hat5 OB4 OW4 HC4 hs5
          have O6 : Hid ((w5.alloc (.cells #[.int .i64 (n : Int)] 3)).ownsRow Wa.heap.size 3 1 (.slice (some ⟨g5, 0, none⟩) (k + 1) c5) (k + 1) ((tb f (k + 1)).map iv)) := by
            have hgn : w5.grownBy (w5.alloc (.cells #[.int .i64 (n : Int)] 3)) none := World.grownBy_alloc _ _ _
            exact own_grown HO5.out hgn (fun k _ e => by cases e)
          have OW6 : Hid ((w5.alloc (.cells #[.int .i64 (n : Int)] 3)).ownsRow Wa.heap.size 3 1 (.slice (some ⟨gw, 0, none⟩) k cw) k ((tw f k).map iv)) := by
            have hgn : w5.grownBy (w5.alloc (.cells #[.int .i64 (n : Int)] 3)) none := World.grownBy_alloc _ _ _
            exact own_grown OW5.out hgn (fun k _ e => by cases e)
          have B6 := Lib.hid (B5.out.alloc B5.out.size (.cells #[.int .i64 (n : Int)] 3))
          have HC6 : Hid ((w5.alloc (.cells #[.int .i64 (n : Int)] 3)).cell? ⟨w5.heap.size, 0, none⟩ = some (iv (n : Int))) := by
            have hh : (w5.alloc (.cells #[.int .i64 (n : Int)] 3)).heap[w5.heap.size]? = some (.cells #[.int .i64 (n : Int)] 3 (0, 0)) := by show (w5.heap.push _)[w5.heap.size]? = _; simp
            exact cell1 hh
          go_wp2_with (at_builtin; refine list_append1 _ rfl _ _ rfl Wa.heap.size gw k cw (tw f k) rfl OW6.out ⟨w5.heap.size, 0, none⟩ 1 (n : Int) rfl HC6.out (by omega) B6.out.size ?_)
          intro g7 c7 w7 ho7 hg7 hb7 hat7
          have HO7 : Hid (w7.ownsRow Wa.heap.size 3 1 (.slice (some ⟨g7, 0, none⟩) (k + 1) c7) (k + 1) ((tw f (k + 1)).map iv)) := (show World.ownsRow _ _ _ _ _ _ _ from (by rw [HTW.out]; first | exact ho7 | simpa using ho7))
          have hg5lt := (HO5.out.lt g5 rfl).2
          have OB7 := Lib.hid (own_grown O6.out hg7 (fun kk hk e => by
            have : kk = g5 := by simp [blk] at hk; omega
            subst this
            exact hne5 (by simpa using e.symm)))
          have hne7 : g5 ≠ g7 := by
            rcases hat7 with h | h
            · omega
            · have h2 : g7 = w5.heap.size + 1 := by first | exact h | (rw [h]; simp)
              omega
          have B7 : Below Wa.heap.size Wa w7 := B6.out.trans hb7
          clear ho7 hg7 hb7 hat7 O6 OW6 HC6
          go_wp2
          go_roundw
          case rel => exact ⟨k + 1, g5, c5, g7, c7, by omega, by omega, by go_num, rfl, rfl, OB7, HO7, hne7, B7⟩
          case measure => simp [intOf]; omega
    · obtain rfl : k = N := by omega
      have hki : ¬ (k : Int) ≤ (k : Int) - 1 := by omega
      clear hob how hb xr
      go_wp2_with fail
      refine (HALL.out wr).mono ?_
      rintro e w2 ⟨rfl, hb2⟩
      have HF1 := Lib.hid ((own_below HOB.out hb2).mono B1.out.size)
      have HF2 := Lib.hid ((own_below HOW.out hb2).mono B1.out.size)
      have HBF := Lib.hid (B1.out.trans ((HB0.out.trans (hb2.mono HB0.out.size)).mono B1.out.size))
      clear hb2
      go_wp2
      go_ret2
      exact ⟨⟨gb, cb, gw, cw, rfl, HF1.out, HF2.out⟩, HBF.out⟩
end Go.Proofs.Yteegbkbphfmooaa
