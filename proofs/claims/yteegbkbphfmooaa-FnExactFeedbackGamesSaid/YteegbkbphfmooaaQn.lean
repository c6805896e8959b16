/-
  Games against an order and 'BackGames' of the model. No conditions but the bounds that Go gives a slice.
-/
import Derived.Test.YteegbkbphfmooaaQm
import Derived.Test.YteegbkbphfmooaaQi
namespace Go.Proofs.Yteegbkbphfmooaa
open Go.ChangeShapes Go.WideShapes Go.ChangeAt Go.RowKit
set_option linter.unusedVariables false

theorem Rv.Od.mem {m : Nat} {o : List Nat} (h : Rv.Od m o) {a : Nat} (ha : a < m) : ∃ k, k < m ∧ o.getD k 0 = a := by
  have hl := h.len
  have hin : a ∈ o := by
    refine Decidable.byContradiction fun hn => ?_
    have hnd : (a :: o).Nodup := List.nodup_cons.2 ⟨hn, h.nd⟩
    have := Hw.way_len (m := m) hnd (fun x hx => by
      rcases List.mem_cons.1 hx with rfl | hx
      · exact ha
      · exact h.lt x hx)
    simp only [List.length_cons] at this
    omega
  obtain ⟨k, hk, e⟩ := List.mem_iff_getElem.1 hin
  refine ⟨k, by omega, ?_⟩
  rw [List.getD_eq_getElem?_getD, List.getElem?_eq_getElem hk]; exact e
/-- The places that have been written down. -/
def plc (o : List Nat) (m : Nat) : Nat → List Int
  | 0 => List.replicate m 0
  | k + 1 => (plc o m k).set (o.getD k 0) (k : Int)
theorem plc_len (o : List Nat) (m : Nat) : ∀ k, (plc o m k).length = m
  | 0 => by simp [plc]
  | k + 1 => by simp only [plc, List.length_set]; exact plc_len o m k
theorem plc_at {o : List Nat} {m : Nat} (h : Rv.Od m o) (j : Nat) : ∀ k, k ≤ m → j < k → (plc o m k).getD (o.getD j 0) 0 = (j : Int)
  | 0, _, hj => absurd hj (Nat.not_lt_zero _)
  | k + 1, hk, hj => by
    have hjm : j < m := by omega
    have hb := h.at hjm
    simp only [plc]
    rw [List.getD_eq_getElem?_getD, List.getElem?_set]
    by_cases e : j = k
    · subst e
      rw [if_pos rfl, if_pos (by rw [plc_len]; exact hb)]; rfl
    · rw [if_neg (fun e2 => h.ne (show j < k by omega) (show k < m by omega) e2.symm), ← List.getD_eq_getElem?_getD]
      exact plc_at h j k (by omega) (by omega)
theorem plc_all {o : List Nat} {m : Nat} (h : Rv.Od m o) {a : Nat} (ha : a < m) : (plc o m m).getD a 0 = ps o a := by
  obtain ⟨k, hk, rfl⟩ := h.mem ha
  rw [plc_at h k m (Nat.le_refl _) hk, ps_at h hk]

/-- What has been collected, above a world. -/
structure Lq (W0 W : World) (ao : Option Addr) (co : Nat) (gs : List (Nat × Nat)) (Ls : List (List Int)) : Prop where
  hb : Below W0.heap.size W0 W
  ss : OwnSS W W0.heap.size ao co gs Ls
theorem Lq.below {W0 W W' : World} {ao : Option Addr} {co : Nat} {gs : List (Nat × Nat)} {Ls : List (List Int)} (h : Lq W0 W ao co gs Ls) (hb : Below W.heap.size W W') : Lq W0 W' ao co gs Ls := ⟨h.hb.trans (hb.mono h.hb.size), h.ss.below hb⟩
theorem Lq.push2 {W0 W W3 : World} {ao : Option Addr} {co : Nat} {gs : List (Nat × Nat)} {Ls : List (List Int)} (h : Lq W0 W ao co gs Ls) (x y : Int) {g3 c3 : Nat}
    (hg : ((W.alloc (.cells #[.int .i64 x, .int .i64 y] 3)).alloc (.cells #[.slice (some ⟨W.heap.size, 0, none⟩) 2 2] 23)).grownBy W3 (blk ao))
    (ho : W3.ownsRow W0.heap.size 23 1 (.slice (some ⟨g3, 0, none⟩) (Ls.length + 1) c3) (Ls.length + 1) (svs gs Ls ++ [.slice (some ⟨W.heap.size, 0, none⟩) 2 2])) :
    Lq W0 W3 (some ⟨g3, 0, none⟩) c3 (gs ++ [(W.heap.size, 2)]) (Ls ++ [[x, y]]) := by
  have hs := h.hb.size
  have g1 : W.grownBy ((W.alloc (.cells #[.int .i64 x, .int .i64 y] 3)).alloc (.cells #[.slice (some ⟨W.heap.size, 0, none⟩) 2 2] 23)) none :=
    (World.grownBy_alloc W _ none).trans (World.grownBy_alloc _ _ _)
  have hrow : ((W.alloc (.cells #[.int .i64 x, .int .i64 y] 3)).alloc (.cells #[.slice (some ⟨W.heap.size, 0, none⟩) 2 2] 23)).ownsRow W0.heap.size 3 1 (.slice (some ⟨W.heap.size, 0, none⟩) [x, y].length 2) [x, y].length ([x, y].map iv) :=
    (World.ownsRow_lit (base := W0.heap.size) (e := 3) (size := 1) W #[.int .i64 x, .int .i64 y] 2 hs (by unfold maxLen; omega) rfl).alloc _
  have hb1 : Below W0.heap.size W0 ((W.alloc (.cells #[.int .i64 x, .int .i64 y] 3)).alloc (.cells #[.slice (some ⟨W.heap.size, 0, none⟩) 2 2] 23)) := by
    have hA := h.hb.alloc hs (.cells #[.int .i64 x, .int .i64 y] 3)
    exact hA.alloc hA.size _
  have hne : ∀ k, blk ao = some k → W0.heap.size ≤ k := fun k hk => (h.ss.blkO hk).1
  exact ⟨hb1.grown hg hb1.size (fun k e => hne k e), h.ss.push g1 hrow (Nat.le_refl _) hg ho⟩

set_option maxRecDepth 100000 in
set_option maxHeartbeats 4000000 in
theorem l08Back_any (m : Nat) (a : Option Addr) (l : List Int) (cap : Nat) (an : Option Addr) (o : List Nat) (cn : Nat) (w : World) (hm : l.length = m) (hok : Ok m l) (hrow : IntRow w a l) (ho : Rv.Od m o) (hrn : IntRow w an (ni o)) :
    Calls Try.prog 102 #[.agg #[.int .i64 (m : Int), .slice a m cap], .slice an m cn] w (RetSS w (bkA l o m)) := by
  obtain ⟨i0, hi, hz0, hz1, hz2⟩ := info_parts infoInt
  have h8 : m ≤ 8 := by have := hok.2.1; omega
  obtain ⟨Wa, hWa⟩ : ∃ Wa, Wa = w.alloc (.cells #[.int .i64 (m : Int), .slice a m cap] 25) := ⟨_, rfl⟩
  have HWa := Lib.hid hWa
  have hba : Below w.heap.size w Wa := by rw [hWa]; exact (Below.refl _ _).alloc (Nat.le_refl _) _
  have xa : Box Wa w.heap.size 25 (.int .i64 (m : Int)) (.slice a m cap) := by rw [hWa]; exact Box.new _ _ _ _
  have R1 := Lib.hid (hrow.below hba (Nat.le_refl _))
  have N1 := Lib.hid (hrn.below hba (Nat.le_refl _))
  have X1 := Lib.hid xa
  have B1 := Lib.hid hba
  have HK := Lib.hid hok
  have HO := Lib.hid ho
  have HM := Lib.hid hm
  have hol := ho.len
  have c0 := xa.c0
  have c1 := xa.c1
  have hsz : Wa.heap.size = w.heap.size + 1 := by rw [hWa]; simp
  clear hWa hba xa hrow hrn hok ho hm
  go_enter Try.func102, Try.ntmps102
  rw [HWa.out] at c0 c1
  go_wp2_with (refine wpList_make_full _ rfl _ _ 23 rfl (w.heap.size + 1) 3 i0 (.int .i64 0) 1 Try.underlying23 hi hz0 hz1 .i64 .i64 _ _ m rfl rfl rfl rfl ?c1 ?c2 ?c3 ?_)
  case c1 => rw [hz2]; omega
  case c2 => unfold maxLen; omega
  case c3 => simp
  rw [← HWa.out]
  intro w1 hown hg
  have hb1 : Below Wa.heap.size Wa w1 := (Below.refl _ Wa).grown hg (Nat.le_refl _) (fun k hk => by cases hk)
  have hown1 : w1.ownsRow (w.heap.size + 1) 3 1 (.slice (some ⟨w.heap.size + 1, 0, none⟩) m m) m ((plc o m 0).map iv) := by
    have e : (madeCells #[Value.int .i64 0] m).toList = (plc o m 0).map iv := by
      rw [toList_madeCells_one]; simp [plc, iv]
    rw [e] at hown; exact hown
  clear hown hg c0 c1
  go_wp2
  go_loopw [16] (fun i wr => ∃ k : Nat, k ≤ m ∧ i = .int .i64 k ∧ Hid (wr.ownsRow (w.heap.size + 1) 3 1 (.slice (some ⟨w.heap.size + 1, 0, none⟩) m m) m ((plc o m k).map iv)) ∧ Below Wa.heap.size Wa wr) (fun i _ => m - (intOf i).toNat)
  case atStart => exact ⟨0, Nat.zero_le _, rfl, hown1, hb1⟩
  case round =>
    clear hown1 hb1
    obtain ⟨k, hk, rfl, hown, hb⟩ := hrel
    by_cases hlt : k < m
    · have hko : k < o.length := by omega
      obtain ⟨bn, offn, rfl, hbn, hcn⟩ := ord_at N1.out hko
      have hcnr := (hb.cell (p := ⟨bn, offn + k, none⟩) hbn).trans hcn
      obtain ⟨x, hx⟩ : ∃ x, x = o.getD k 0 := ⟨_, rfl⟩
      have hxm : x < m := by rw [hx]; exact HO.out.at hlt
      rw [← hx] at hcnr
      have hst := (hown.out.stored x (iv (k : Int))).1
      have e2 : ((plc o m k).map iv).set x (iv (k : Int)) = (plc o m (k + 1)).map iv := by simp only [plc]; rw [← hx, List.map_set]
      rw [e2] at hst
      have hcy := cell_own hown.out hxm
      have hfr := hown.out.frozenAt x
      have hb2 : Below Wa.heap.size Wa (wr.setCell ⟨w.heap.size + 1, x, none⟩ (.int .i64 (k : Int))) := hb.setCell (p := ⟨w.heap.size + 1, x, none⟩) (by show Wa.heap.size ≤ w.heap.size + 1; omega) _
      have H2 : Hid ((wr.setCell ⟨w.heap.size + 1, x, none⟩ (.int .i64 (k : Int))).ownsRow (w.heap.size + 1) 3 1 (.slice (some ⟨w.heap.size + 1, 0, none⟩) m m) m ((plc o m (k + 1)).map iv)) := hst
      have hki : (k : Int) < (m : Int) := by omega
      have hxi : (x : Int) < (m : Int) := by omega
      clear hcn hx hst e2 hown hb
      go_wp2
      go_roundw
      case rel => exact ⟨k + 1, by omega, by go_num, H2.out, hb2⟩
      case measure => simp [intOf]; omega
    · obtain rfl : k = m := by omega
      have hpl : (plc o k k).length = k := plc_len o k k
      obtain ⟨P, hP⟩ : ∃ P, P = plc o k k := ⟨_, rfl⟩
      have HPA : Hid (∀ a, a < k → P.getD a 0 = ps o a) := fun a ha => by rw [hP]; exact plc_all HO.out ha
      rw [← hP] at hown
      have hgs := (hown.out.lt (w.heap.size + 1) rfl).2
      have HPC : Hid (∀ W, Below wr.heap.size wr W → ∀ a, a < k → W.cell? ⟨w.heap.size + 1, a, none⟩ = some (.int .i64 (ps o a))) := fun W hW a ha => by
        rw [hW.cell (p := ⟨w.heap.size + 1, a, none⟩) hgs, cell_own hown.out ha, HPA.out a ha]; rfl
      have XR := Lib.hid (X1.out.below hb X1.out.lt)
      have RR := Lib.hid (R1.out.below hb (Nat.le_refl _))
      have BR := Lib.hid (B1.out.trans (hb.mono B1.out.size))
      have hLq : Hid (Lq wr (wr.alloc (.cells #[] 23)) (some ⟨wr.heap.size, 0, none⟩) 0 [] []) := by
        refine ⟨Below.one _ _, ⟨rfl, ?_, fun i h => absurd h (Nat.not_lt_zero _), fun i j h => absurd h (Nat.not_lt_zero _)⟩⟩
        have := World.ownsRow_lit (base := wr.heap.size) (e := 23) (size := 1) wr #[] 0 (Nat.le_refl _) (by simp) rfl
        simpa [svs] using this
      obtain ⟨W0, rfl⟩ : ∃ W0, W0 = wr := ⟨_, rfl⟩
      have HCELL : Hid (∀ W, Below W0.heap.size W0 W → W.cell? ⟨w.heap.size, 0, none⟩ = some (.int .i64 (k : Int)) ∧ W.cell? ⟨w.heap.size, 1, none⟩ = some (.slice a k cap) ∧ IntRow W a l) := fun W hW => by
        have x2 := XR.out.below hW XR.out.lt
        exact ⟨x2.c0, x2.c1, RR.out.below hW (Nat.le_refl _)⟩
      have c0 := XR.out.c0
      have c1 := XR.out.c1
      obtain ⟨WL, hWL⟩ : ∃ WL, WL = W0.alloc (.cells #[] 23) := ⟨_, rfl⟩
      have HWL := Lib.hid hWL
      rw [← hWL] at hLq
      have hx0 := (XR.out.below (Below.one W0 (.cells #[] 23)) XR.out.lt)
      have d0 := hx0.c0
      have d1 := hx0.c1
      clear hown hb hgs hpl hP HPA hWL hx0 XR RR c0 c1
      obtain ⟨j0, hj, hy0, hy1, hy2⟩ := info_parts infoSl
      go_wp2
      rw [← HWL.out] at d0 d1 ⊢
      clear d0 d1
      go_loopw [8, 30] (fun v i wr => ∃ (x q : Nat) (ao : Option Addr) (co : Nat) (gs : List (Nat × Nat)), x ≤ k ∧ i = .int .i64 x ∧ v = .slice ao q co ∧ Hid (q = (bkA l o x).length) ∧ Hid (Lq W0 wr ao co gs (bkA l o x))) (fun _ i _ => k - (intOf i).toNat)
      case atStart => exact ⟨0, 0, _, 0, [], Nat.zero_le _, rfl, rfl, rfl, hLq.out⟩
      case round =>
        clear hLq
        obtain ⟨x, q, ao, co, gs, hx, rfl, rfl, hq, hlq⟩ := hrel
        obtain ⟨c0, c1, hrr⟩ := HCELL.out _ hlq.out.hb
        by_cases hlt : x < k
        · have hxi : (x : Int) < (k : Int) := by omega
          have HB0 : Hid (bkA l o x ++ bkB l o x 0 = bkA l o x) := by show _ = _; rw [bkB_zero, List.append_nil]
          have hS : Hid (Lq W0 wr ao co gs (bkA l o x ++ bkB l o x 0)) := by rw [HB0.out]; exact hlq.out
          have HLEN : Hid (q = (bkA l o x ++ bkB l o x 0).length) := by show _ = _; rw [HB0.out]; exact hq.out
          clear hlq hq hrr
          go_wp2
          clear c0 c1
          go_loopw [8, 36] (fun v i wr2 => ∃ (y q : Nat) (ao : Option Addr) (co : Nat) (gs : List (Nat × Nat)), y ≤ k ∧ i = .int .i64 y ∧ v = .slice ao q co ∧ Hid (q = (bkA l o x ++ bkB l o x y).length) ∧ Hid (Lq W0 wr2 ao co gs (bkA l o x ++ bkB l o x y))) (fun _ i _ => k - (intOf i).toNat)
          case atStart => exact ⟨0, q, ao, co, gs, Nat.zero_le _, rfl, rfl, HLEN.out, hS.out⟩
          case round =>
            clear hS HLEN HB0
            obtain ⟨y, q, ao, co, gs, hy, rfl, rfl, hq, hlq⟩ := hrel
            obtain ⟨c0, c1, hrr⟩ := HCELL.out _ hlq.out.hb
            by_cases hlt2 : y < k
            · have hyi : (y : Int) < (k : Int) := by omega
              have p0 := HPC.out _ hlq.out.hb x hlt
              have p1 := HPC.out _ hlq.out.hb y hlt2
              have hno : Hid (bk l o x y = false → bkA l o x ++ bkB l o x (y + 1) = bkA l o x ++ bkB l o x y) := fun h => by rw [bkB_no h]
              have hyes : Hid (bk l o x y = true → bkA l o x ++ bkB l o x (y + 1) = bkA l o x ++ bkB l o x y ++ [g2q x y]) := fun h => by rw [bkB_yes h, List.append_assoc]
              obtain ⟨pp, hpp⟩ : ∃ pp, pp = ps o x := ⟨_, rfl⟩
              obtain ⟨pq, hpq⟩ : ∃ pq, pq = ps o y := ⟨_, rfl⟩
              have hbk : bk l o x y = (bt l x y && decide (pq < pp)) := by rw [hpp, hpq]; rfl
              rw [← hpp] at p0
              rw [← hpq] at p1
              have hq0 := fun d os => cell_regrown c0 d os
              have hq1 := fun d os => cell_regrown c1 d os
              have hq2 := fun d os => cell_regrown p0 d os
              have hq3 := fun d os => cell_regrown p1 d os
              have cB : ∀ (b : Bool), bt l x y = b → ∀ d os, Calls Try.prog 134 #[.agg #[.int .i64 (k : Int), .slice a k cap], .int .i64 (x : Int), .int .i64 (y : Int)] (Go.Sort.grow (redrawn wr d) os) fun e w'' => e = .returned (.bool b) ∧ ∃ r : Regrown, w'' = Go.Sort.grow (redrawn wr r.d) r.os :=
                fun b hb d os => Calls.regrown_of ((l02Beats_m k a l cap x y _ HM.out (hrr.below (below_regrown wr d os) (Nat.le_refl _)) h8 hlt (by omega)).mono fun e w' ⟨he, hw⟩ => ⟨by rw [he, hb], hw⟩)
              cases h1 : bt l x y
              · have HEE := Lib.hid (hno.out (by rw [hbk, h1]; rfl))
                have cB0 := cB false h1
                clear h1 hno hyes hbk cB hrr hpp hpq p0 p1 c0 c1
                go_wp2
                refine wp_region_quiet_below (by kernel_rfl) (by kernel_rfl) ?_
                repeat (go_big_quiet_step (exact cB0 _ _))
                refine wpQuiet_nil ?_
                intro wq hw'
                have hbq : Below wr.heap.size wr wq := by obtain ⟨⟨dq, osq⟩, hw''⟩ := hw'; rw [hw'']; exact below_regrown wr dq osq
                have HS : Hid (Lq W0 wq ao co gs (bkA l o x ++ bkB l o x (y + 1)) ∧ q = (bkA l o x ++ bkB l o x (y + 1)).length) := by rw [HEE.out]; exact ⟨hlq.out.below hbq, hq.out⟩
                clear hw' cB0 hq0 hq1 hq2 hq3 hbq hlq hq HEE
                go_wp2
                go_roundw
                case rel => exact ⟨y + 1, q, ao, co, gs, by omega, by go_num, rfl, HS.out.2, HS.out.1⟩
                case measure => simp [intOf]; omega
              · have cB1 := cB true h1
                by_cases hlp : pq < pp
                · have hwk : bk l o x y = true := by rw [hbk, h1, decide_eq_true hlp]; rfl
                  have HE2 := Lib.hid (hyes.out hwk)
                  have hroom : (bkA l o x ++ bkB l o x y).length ≤ 72 := by
                    have h1 := bkA_len l o (by have := HM.out; omega) x
                    have h2 := bkB_len l o x y
                    rw [List.length_append]; omega
                  obtain ⟨Ls, hLs⟩ : ∃ Ls, Ls = bkA l o x ++ bkB l o x y := ⟨_, rfl⟩
                  rw [← hLs] at HE2 hroom hlq hq
                  obtain rfl := hq.out
                  have HLQ := hlq
                  clear h1 hno hyes hbk cB hrr hpp hpq p0 p1 c0 c1 hwk hlq hq hLs
                  go_wp2
                  refine wp_region_quiet_below (by kernel_rfl) (by kernel_rfl) ?_
                  repeat (go_big_quiet_step (exact cB1 _ _))
                  refine wpQuiet_nil ?_
                  intro w5 hw'
                  have hbq : Below wr.heap.size wr w5 := by obtain ⟨⟨dq, osq⟩, hw''⟩ := hw'; rw [hw'']; exact below_regrown wr dq osq
                  have HL5 := Lib.hid (HLQ.out.below hbq)
                  clear hw' cB1 hq0 hq1 hq2 hq3 hbq HLQ
                  have hOW := ((HL5.out.ss.out.alloc (.cells #[.int .i64 x, .int .i64 y] 3)).alloc (.cells #[.slice (some ⟨w5.heap.size, 0, none⟩) 2 2] 23))
                  have HOW := Lib.hid hOW
                  have hwz := HL5.out.hb.size
                  have HCN : Hid (∀ j u, [Value.slice (some ⟨w5.heap.size, 0, none⟩) 2 2][j]? = some u → ((w5.alloc (.cells #[.int .i64 x, .int .i64 y] 3)).alloc (.cells #[.slice (some ⟨w5.heap.size, 0, none⟩) 2 2] 23)).cell? ((⟨w5.heap.size + 1, 0, none⟩ : Addr).add j) = some u) := by
                    have h := cell_one_new (w5.alloc (.cells #[.int .i64 x, .int .i64 y] 3)) (.slice (some ⟨w5.heap.size, 0, none⟩) 2 2) 23
                    rw [World.size_alloc] at h
                    exact h
                  clear hOW
                  go_wp2_with (first | (at_builtin; refine wpList_append_own _ rfl _ _ 34 rfl W0.heap.size 23 j0 (.slice none 0 0) 1 24 Try.underlying34 hj hy0 hy1 hy2 rfl (by decide) (.slice ao Ls.length co) Ls.length (svs gs Ls) rfl HOW.out ⟨w5.heap.size + 1, 0, none⟩ 1 1 [.slice (some ⟨w5.heap.size, 0, none⟩) 2 2] rfl rfl HCN.out (by intro u hu; simp at hu; subst hu; rfl) (by unfold maxLen; omega) (by omega) (by simp; omega) ?_; intro v4 w6 ho4 hg4 hn4; obtain ⟨g4, c4, rfl, _, _, _⟩ := own_someE4 ho4; rw [blk_own] at hg4) | fail)
                  have HS := Lib.hid (HL5.out.push2 x y hg4 ho4)
                  clear ho4 hg4 hn4 HOW
                  have hlen : Ls.length + 1 = (bkA l o x ++ bkB l o x (y + 1)).length := by rw [HE2.out]; simp
                  have HLN := Lib.hid hlen
                  clear hlen
                  go_wp2
                  go_roundw
                  case rel => exact ⟨y + 1, _, _, c4, _, by omega, by go_num, rfl, HLN.out, by rw [HE2.out]; exact HS.out⟩
                  case measure => simp [intOf]; omega
                · have HEE := Lib.hid (hno.out (by rw [hbk, h1, decide_eq_false hlp]; rfl))
                  clear h1 hno hyes hbk cB hrr hpp hpq p0 p1 c0 c1
                  go_wp2
                  refine wp_region_quiet_below (by kernel_rfl) (by kernel_rfl) ?_
                  repeat (go_big_quiet_step (exact cB1 _ _))
                  refine wpQuiet_nil ?_
                  intro wq hw'
                  have hbq : Below wr.heap.size wr wq := by obtain ⟨⟨dq, osq⟩, hw''⟩ := hw'; rw [hw'']; exact below_regrown wr dq osq
                  have HS : Hid (Lq W0 wq ao co gs (bkA l o x ++ bkB l o x (y + 1)) ∧ q = (bkA l o x ++ bkB l o x (y + 1)).length) := by rw [HEE.out]; exact ⟨hlq.out.below hbq, hq.out⟩
                  clear hw' cB1 hq0 hq1 hq2 hq3 hbq hlq hq HEE
                  go_wp2
                  go_roundw
                  case rel => exact ⟨y + 1, q, ao, co, gs, by omega, by go_num, rfl, HS.out.2, HS.out.1⟩
                  case measure => simp [intOf]; omega
            · obtain rfl : y = k := by omega
              have HE2 : Hid (bkA l o (x + 1) = bkA l o x ++ bkB l o x y) := by show _ = _; rw [bkA_succ, HM.out]
              clear hrr
              go_wp2
              go_roundw
              case rel => exact ⟨x + 1, q, ao, co, gs, by omega, by go_num, rfl, by rw [HE2.out]; exact hq.out, by rw [HE2.out]; exact hlq.out⟩
              case measure => simp [intOf]; omega
        · obtain rfl : x = k := by omega
          have HB := Lib.hid (BR.out.trans (hlq.out.hb.mono BR.out.size))
          have HF := hlq
          have HQ := hq
          have hs0 := BR.out.size
          clear hlq hq hrr
          go_wp2
          go_ret
          rw [HQ.out]
          exact ⟨⟨ao, co, gs, rfl, HF.out.ss.mono hs0⟩, HB.out⟩
end Go.Proofs.Yteegbkbphfmooaa
