/-
  The orders with one more player at the end: the program. No conditions but the bounds that Go gives a slice.
-/
import Derived.Test.YteegbkbphfmooaaQE
namespace Go.Proofs.Yteegbkbphfmooaa
open Go.ChangeShapes Go.WideShapes Go.ChangeAt Go.RowKit Go.Sort
set_option linter.unusedVariables false

theorem allPlayers_q (a : Option Addr) (len cap m : Nat) (w : World) (hm : m ≤ 8) : Calls Try.prog 150 #[.agg #[.int .i64 m, .slice a len cap]] w fun e w' => e = .returned (.int .i64 ((2 ^ m - 1 : Nat) : Int)) ∧ Below w.heap.size w w' := by
  obtain ⟨P, hP⟩ : ∃ P, P = 2 ^ m := ⟨_, rfl⟩
  have hw := wrapPow m hm
  have h8 := pow_le m hm
  have h1 : 1 ≤ P := by rw [hP]; exact Nat.one_le_two_pow
  rw [← hP] at hw h8 ⊢
  have HE : Hid (((P - 1 : Nat) : Int) = (P : Int) - 1) := by show _ = _; omega
  rw [HE.out]
  clear hP
  go_enter Try.func150, Try.ntmps150
  go_wp2
  go_ret
  exact ⟨rfl, (Below.refl _ _).alloc (Nat.le_refl _) _⟩

theorem LS.step {f : Nat → Nat → Bool} {m k : Nat} {a : Option Addr} {cap : Nat} {w W : World} {N : Nat} {Q Q' : Nat → Nat → Bool} (h : LS f m k a cap w W N Q) {s b r2 n1 : Nat} {g0 : Option (Option Addr × Nat × Nat)} (hs : s < 256) (hb : b < 8) (hbs : s.testBit b = false) (hQ : Q s b = false) (hpk : pc s = k) (hr2 : r2 = Rv.gm f s + Rv.ct f s b)
    (hno : Rv.EE f Q (s ||| 2 ^ b) r2 = none → g0 = none ∧ n1 = 0) (hyes : ∀ t, Rv.EE f Q (s ||| 2 ^ b) r2 = some t → n1 = t.2.1 ∧ ∃ ag cg, g0 = some (ag, cg, t.2.2) ∧ RowG W (w.heap.size + 3) (k + 1) ag cg t.2.2)
    (hQ' : ∀ s3 b3, Q' s3 b3 = (Q s3 b3 || decide (s3 = s ∧ b3 = b))) :
    n1 + Rv.gn f s ≤ 1000000000000 ∧ (∀ ag cg v, g0 = some (ag, cg, v) → RowG W (w.heap.size + 3) (k + 1) ag cg v ∧ v < 8 ^ (k + 1)) ∧
    Rv.EE f Q' (s ||| 2 ^ b) r2 = some (r2, n1 + Rv.gn f s, g0m g0 (Rv.gv f s * 8 + b)) ∧
    ∀ s' r', s' < 256 → r' ≤ 200 → ¬ (s' = s ||| 2 ^ b ∧ r' = r2) → Rv.EE f Q' s' r' = Rv.EE f Q s' r' := by
  have h28 : s ||| 2 ^ b < 256 := Nat.or_lt_two_pow (n := 8) hs (Nat.pow_lt_pow_right (by omega) hb)
  have hpk2 : pc (s ||| 2 ^ b) = k + 1 := by rw [Hw.pc_bit hs hb hbs, hpk]
  have hgn := (Rv.G_bound f hs).2
  have hput := Rv.EE_put (f := f) (Q := Q) (Q' := Q') hs hb hbs hQ hQ' h28 r2
  rw [if_pos ⟨rfl, hr2⟩] at hput
  have htr : Rv.tr f s b = (r2, Rv.gn f s, Rv.gv f s * 8 + b) := by rw [hr2]; rfl
  refine ⟨?_, ?_, ?_, fun s' r' hs' hr' hne => ?_⟩
  · cases he : Rv.EE f Q (s ||| 2 ^ b) r2 with
    | none => rw [(hno he).2]; omega
    | some t => have h1 := (hyes t he).1; have h2 := (Rv.EE_bound h28 hpk2 he).1; omega
  · intro ag cg v hg
    cases he : Rv.EE f Q (s ||| 2 ^ b) r2 with
    | none => rw [(hno he).1] at hg; cases hg
    | some t =>
      obtain ⟨_, ag2, cg2, h3, h4⟩ := hyes t he
      rw [h3] at hg
      have h5 := Option.some.inj hg
      simp only [Prod.mk.injEq] at h5
      obtain ⟨rfl, rfl, rfl⟩ := h5
      exact ⟨h4, (Rv.EE_bound h28 hpk2 he).2⟩
  · rw [hput, htr]
    cases he : Rv.EE f Q (s ||| 2 ^ b) r2 with
    | none =>
      obtain ⟨rfl, rfl⟩ := hno he
      show some (r2, Rv.gn f s, Rv.gv f s * 8 + b) = some (r2, 0 + Rv.gn f s, Rv.gv f s * 8 + b)
      rw [Nat.zero_add]
    | some t =>
      obtain ⟨rfl, ag2, cg2, rfl, _⟩ := hyes t he
      have h6 := Rv.EE_first he
      show some (Rv.cm t (r2, Rv.gn f s, Rv.gv f s * 8 + b)) = some (r2, t.2.1 + Rv.gn f s, min t.2.2 (Rv.gv f s * 8 + b))
      unfold Rv.cm
      simp [h6]
  · rw [Rv.EE_put (f := f) (Q := Q) (Q' := Q') hs hb hbs hQ hQ' hs' r', if_neg]
    rintro ⟨h1, h2⟩
    exact hne ⟨h1, by rw [h2, hr2]⟩

/-- The world within a round: the boxes of the entry at hand, and the players who may come next. -/
structure IS (f : Nat → Nat → Bool) (m k : Nat) (a : Option Addr) (cap : Nat) (w W : World) (b0 n : Nat) (M : Nat → Nat → Option Value) (L1 : Nat → Nat → Bool) (cnt1 K s q : Nat) (ak : Option Addr) (ck gn0 ge ce x B5 N : Nat) (Q : Nat → Nat → Bool) : Prop where
  rg : Rg W b0 (w.heap.size + 2) n M L1 cnt1
  ls : LS f m k a cap w W N Q
  k6 : Box W K 108 (.int .i64 (s : Int)) (.int .i64 (q : Int))
  k7 : Box W (K + 1) 73 (.slice ak k ck) (.int .i64 (gn0 : Int))
  el : W.ownsRow B5 3 1 (.slice (some ⟨ge, 0, none⟩) (elems x).length ce) (elems x).length ((elems x).map nv)
  hK : w.heap.size + 2 < K
  hB : K ≤ B5
  hb : b0 < w.heap.size
section
variable {f : Nat → Nat → Bool} {m k : Nat} {a : Option Addr} {cap : Nat} {w W W' : World} {b0 n : Nat} {M : Nat → Nat → Option Value} {L1 : Nat → Nat → Bool} {cnt1 K s q : Nat} {ak : Option Addr} {ck gn0 ge ce x B5 N : Nat} {Q Q' : Nat → Nat → Bool}
theorem IS.on (h : IS f m k a cap w W b0 n M L1 cnt1 K s q ak ck gn0 ge ce x B5 N Q) (hb : RowKit.Below W.heap.size W W') : IS f m k a cap w W' b0 n M L1 cnt1 K s q ak ck gn0 ge ce x B5 N Q :=
  ⟨h.rg.on hb, h.ls.on hb, h.k6.below hb h.k6.lt, h.k7.below hb h.k7.lt, own_below h.el hb, h.hK, h.hB, h.hb⟩
theorem IS.drew (h : IS f m k a cap w W b0 n M L1 cnt1 K s q ak ck gn0 ge ce x B5 N Q) : IS f m k a cap w W.drew b0 n M L1 cnt1 K s q ak ck gn0 ge ce x B5 N Q := h.on (Below.refl _ _).drew
theorem IS.put (h : IS f m k a cap w W b0 n M L1 cnt1 K s q ak ck gn0 ge ce x B5 N Q) {N' : Nat} (hl : LS f m k a cap w W' N' Q') (hg : W.grownBy W' (some (w.heap.size + 1))) : IS f m k a cap w W' b0 n M L1 cnt1 K s q ak ck gn0 ge ce x B5 N' Q' := by
  have h1 := h.hK
  have h2 := h.hB
  have h3 := h.hb
  refine ⟨h.rg.kept hg (by simp <;> omega) (by simp), hl, box_kept h.k6 hg (by simp <;> omega), box_kept h.k7 hg (by simp <;> omega), ?_, h1, h2, h3⟩
  refine own_grown h.el hg fun j hj e => ?_
  have := (World.ownsRow.lt h.el j (by rw [blk_own]; exact hj)).1
  have e2 := Option.some.inj e
  omega
end

set_option maxRecDepth 100000 in
set_option maxHeartbeats 8000000 in
theorem lengthened_any (m k n b0 B0 : Nat) (a : Option Addr) (l : List Int) (cap : Nat) (D : DataW Value) (M : Nat → Nat → Option Value) (w : World) (hm : l.length = m) (hok : Ok m l) (hrow : IntRow w a l) (hk : k < m) (hn : n ≤ 100000000)
    (hown : w.ownsMap Try.prog 108 RV b0 n D) (hv : Vw D M) (hent : Ent w B0 k M (Rv.PK (bt l) m k)) :
    Calls Try.prog 124 #[.agg #[.int .i64 (m : Int), .slice a m cap], .map (some b0)] w fun e w' =>
      e = .returned (.map (some (w.heap.size + 1))) ∧ LS (bt l) m k a cap w w' (8 * n) (Rv.QF m k) := by
  have h8 : m ≤ 8 := by have := hok.2.1; omega
  have HK := Lib.hid hok
  have HM := Lib.hid hm
  have HOWN := Lib.hid hown
  have HV := Lib.hid hv
  have HE := Lib.hid hent
  have HR := Lib.hid hrow
  have hbw : b0 < w.heap.size := hown.lt
  obtain ⟨f, hf⟩ : ∃ f, f = bt l := ⟨_, rfl⟩
  rw [← hf] at HE ⊢
  have HF := Lib.hid hf
  obtain ⟨Wa, hWa⟩ : ∃ Wa, Wa = (w.alloc (.cells #[.int .i64 (m : Int), .slice a m cap] 25)).alloc (.map #[] 0) := ⟨_, rfl⟩
  have HWa := Lib.hid hWa
  have hsz : Wa.heap.size = w.heap.size + 2 := by rw [hWa]; simp
  have hba : RowKit.Below w.heap.size w Wa := by rw [hWa]; exact ((Below.refl _ _).alloc (Nat.le_refl _) _).alloc (by simp) _
  have xa : Box Wa w.heap.size 25 (.int .i64 (m : Int)) (.slice a m cap) := by rw [hWa]; exact (Box.new _ _ _ _).more _
  have hmk : Wa.ownsMap Try.prog 108 RV (w.heap.size + 1) 0 (.map []) := by
    rw [hWa]
    have := World.ownsMap_made (w.alloc (.cells #[.int .i64 (m : Int), .slice a m cap] 25)) Try.prog 108 RV
    simpa using this
  have hownA : Hid (Wa.ownsMap Try.prog 108 RV b0 n D) := hown.kept (below_grown hba) (by simp)
  have HMK := Lib.hid hmk
  have XA := Lib.hid xa
  have HBA := Lib.hid hba
  have HSZ := Lib.hid hsz
  clear hok hm hown hv hent hrow hf hWa hba xa hmk hsz
  have hmm := @run_makeMap Try.prog
  go_enter Try.func124, Try.ntmps124
  go_wp2_with (first | (at_range; rw [← HWa.out]; refine wpList_range_Rg _ rfl _ rfl b0 n M rfl hownA.out HV.out ?_; intro w1 cnt0 hrg hg1 hsz1; rw [HSZ.out] at hrg ⊢) | go_in)
  have hb1 : RowKit.Below Wa.heap.size Wa w1 := ⟨hg1.os, hg1.tape, hg1.output, hg1.size, fun i hi => hg1.block i hi (by simp)⟩
  have hcn := hrg.cnt_le
  have HRG := Lib.hid hrg
  have HLS0 : Hid (LS f m k a cap w w1 (8 * (n - cnt0)) (Rv.QL f m k (fun s q => (M s q).isSome))) := by
    refine LS.on (W := Wa) ⟨HBA.out, XA.out, 0, .map [], fun _ _ => none, Nat.zero_le _, HMK.out, Vw.empty, ?_⟩ hb1
    refine Ent.empty fun s r hs hr => Rv.EE_none hs (fun b hb8 hbt => Rv.QL_start f m k (fun s hs2 hpc => ?_) _ _) r
    rw [HE.out.some_iff (by have := pow_le m h8; omega) (by have := (Rv.G_bound f (show s < 256 by have := pow_le m h8; omega)).1; omega)]
    unfold Rv.PK
    rw [if_pos ⟨hs2, hpc, rfl⟩]; rfl
  clear hrg hg1 hsz1 hb1 hmm
  go_frame
  go_loopw [15] (fun _ wr => ∃ L cnt, cnt ≤ n ∧ Hid (Rg wr b0 (w.heap.size + 2) n M L cnt) ∧ Hid (LS f m k a cap w wr (8 * (n - cnt)) (Rv.QL f m k L))) (fun _ wr => wr.rangeLeft b0 (w.heap.size + 2))
  case atStart => exact ⟨_, cnt0, hcn, HRG, HLS0⟩
  case round =>
    obtain ⟨L, cnt, hcn2, hrg, hls⟩ := hrel
    clear HRG HLS0
    have hml : wr.rangeLeft b0 (w.heap.size + 2) = cnt := hrg.out.left_eq
    go_wp2_with (first | (at_next; refine wpList_next_Rg _ rfl _ rfl b0 (w.heap.size + 2) n _ L cnt rfl hrg.out ?_ ?_) | go_in)
    · intro hl
      have hl := Lib.hid hl
      clear hml
      go_wp2
      go_ret
      exact ⟨rfl, (hls.out.congr fun s b hs hb => (Rv.QL_end f m k hl.out hs b).symm).more (by omega)⟩
    · intro s q v W1 cnt1 hs hq hms hL hrg1 hlt hg1 hsz1 hen
      unfold KV at hen ⊢
      obtain ⟨ak, ck, gn0, rfl, hgk, hs2, hpk, hq2, hgn⟩ : ∃ (ak : Option Addr) (ck gn0 : Nat), v = .agg #[.slice ak k ck, .int .i64 (gn0 : Int)] ∧ RowG w B0 k ak ck (Rv.gv f s) ∧ s < 2 ^ m ∧ pc s = k ∧ q = Rv.gm f s ∧ gn0 = Rv.gn f s := by
        have h1 := HE.out s q hs hq
        cases hp : Rv.PK f m k s q with
        | none => rw [h1.1 hp] at hms; cases hms
        | some t =>
          obtain ⟨a1, c1, h2, h3⟩ := h1.2 t hp
          unfold Rv.PK at hp
          split at hp
          · rename_i h4
            obtain rfl := Option.some.inj hp
            rw [h2] at hms
            exact ⟨a1, c1, _, (Option.some.inj hms).symm, h3, h4.1, h4.2.1, h4.2.2, rfl⟩
          · cases hp
      have hls1 := hls.out.turn hg1
      obtain ⟨K, hKs⟩ : ∃ K, K = W1.heap.size := ⟨_, rfl⟩
      have hKw : w.heap.size + 2 < K := by have := hrg1.ne; omega
      obtain ⟨L1, hL1⟩ : ∃ L1 : Nat → Nat → Bool, L1 = fun a b => L a b && !decide (a = s ∧ b = q) := ⟨_, rfl⟩
      obtain ⟨W3, hW3⟩ : ∃ W3, W3 = (W1.alloc (.cells #[.int .i64 (s : Int), .int .i64 (q : Int)] 108)).alloc (.cells #[.slice ak k ck, .int .i64 (gn0 : Int)] 73) := ⟨_, rfl⟩
      have hb3 : RowKit.Below W1.heap.size W1 W3 := by rw [hW3]; exact ((Below.refl _ _).alloc (Nat.le_refl _) _).alloc (by simp) _
      have x6 : Box W3 K 108 (.int .i64 (s : Int)) (.int .i64 (q : Int)) := by rw [hW3, hKs]; exact (Box.new _ _ _ _).more _
      have x7 : Box W3 (K + 1) 73 (.slice ak k ck) (.int .i64 (gn0 : Int)) := by
        rw [hW3, hKs]
        have := Box.new (W1.alloc (.cells #[.int .i64 (s : Int), .int .i64 (q : Int)] 108)) 73 (.slice ak k ck) (.int .i64 (gn0 : Int))
        simpa using this
      have RG3 : Hid (Rg W3 b0 (w.heap.size + 2) n M L1 cnt1) := (hrg1.on hb3).congr (fun _ _ _ _ => rfl) (fun s2 q2 _ _ => by rw [hL1]; simp)
      have LS3 := Lib.hid (hls1.on hb3)
      have HW3 := Lib.hid hW3
      have X6 := Lib.hid x6
      have X7 := Lib.hid x7
      have HKs := Lib.hid hKs
      have HL1 := Lib.hid hL1
      have HL := Lib.hid hL
      have HQ := Lib.hid hq2
      have HG := Lib.hid hgn
      have HGK := Lib.hid hgk
      have HPK := Lib.hid hpk
      have HS2 := Lib.hid hs2
      have HQ2 := Lib.hid hq
      have HS := Lib.hid hs
      have hszk : Hid (K + 2 ≤ W3.heap.size) := (by have := x7.lt; show K + 2 ≤ W3.heap.size; omega)
      clear hsz1 hrg1 hg1 hrg hls hls1 hW3 hb3 x6 x7 hKs hL1 hL hq2 hgn hgk hpk hs2 hq hms
      go_wp2
      rw [← HKs.out, ← HW3.out]
      obtain ⟨full, hfull⟩ : ∃ full, full = 2 ^ m - 1 := ⟨_, rfl⟩
      obtain ⟨x, hx⟩ : ∃ x, x = full ^^^ (full &&& s) := ⟨_, rfl⟩
      have hf8 : full < 256 := by have := pow_le m h8; have := Nat.one_le_two_pow (n := m); omega
      have hx8 : x < 256 := by rw [hx]; exact Nat.xor_lt_two_pow (n := 8) hf8 (Nat.lt_of_le_of_lt Nat.and_le_left hf8)
      have hand : bits .andNot .i64 (full : Int) (s : Int) = (x : Int) := by rw [hx]; exact i64_andNotQ _ _ (by omega) (by omega)
      have DA : Hid (∀ W, Calls Try.prog 150 #[.agg #[.int .i64 m, .slice a m cap]] W fun e w' => e = .returned (.int .i64 (full : Int)) ∧ RowKit.Below W.heap.size W w') := fun W => by
        rw [hfull]; exact allPlayers_q a m cap m W h8
      have DE := Lib.hid (fun W => elementsOf_any x hx8 W)
      have HX := Lib.hid hx
      have HFU := Lib.hid hfull
      have KEEP : Hid (∀ V, RowKit.Below W3.heap.size W3 V → (V.cell? ⟨w.heap.size, 0, none⟩ = some (.int .i64 (m : Int)) ∧ V.cell? ⟨w.heap.size, 1, none⟩ = some (.slice a m cap) ∧ V.cell? ⟨K, 0, none⟩ = some (.int .i64 (s : Int)))) := fun V hb => by
        have t := (LS3.out.on hb).tour
        have y := X6.out.below hb X6.out.lt
        exact ⟨t.c0, t.c1, y.c0⟩
      have BD : Hid (RowKit.Below W3.heap.size W3 W3.drew) := (Below.refl _ _).drew
      have HXT : Hid (∀ c, c < 8 → x.testBit c = (decide (c < m) && !s.testBit c)) := fun c hc => by
        rw [hx, Nat.testBit_xor, Nat.testBit_and, hfull, Nat.testBit_two_pow_sub_one]
        cases decide (c < m) <;> cases s.testBit c <;> rfl
      clear hx hfull
      go_region_held3 (fun V => V.cell? ⟨w.heap.size, 0, none⟩ = some (.int .i64 (m : Int)) ∧ V.cell? ⟨w.heap.size, 1, none⟩ = some (.slice a m cap) ∧ V.cell? ⟨K, 0, none⟩ = some (.int .i64 (s : Int)))
        (first | (exact KEEP.out _ B6.out) | (exact KEEP.out _ B5.out) | (exact KEEP.out _ BD.out))
        (first
          | (go_at_call 150
             refine (DA.out _).mono ?_
             rintro e w5 ⟨rfl, hb5⟩
             have B5 := Lib.hid (BD.out.trans hb5)
             clear hb5)
          | (go_at_call 116
             refine (DE.out _).mono ?_
             rintro e w6 ⟨⟨ge, ce, rfl, hoe⟩, hb6⟩
             have B6 := Lib.hid (B5.out.trans (hb6.mono B5.out.size))
             have OE := Lib.hid hoe
             have HW5 := Lib.hid (hb6.mono B5.out.size)
             clear hb6 hoe))
      have IS0 : Hid (IS f m k a cap w w6 b0 n M L1 cnt1 K s q ak ck gn0 ge ce x K (8 * (n - cnt) + 0) (Rv.QI f m k L s ((elems x).take 0))) := by
        refine ⟨RG3.out.on B6.out, (LS3.out.on B6.out).congr fun s2 b hs2 hb2 => ?_, X6.out.below B6.out X6.out.lt, X7.out.below B6.out X7.out.lt, OE.out.mono ?_, hKw, Nat.le_refl _, hbw⟩
        · rw [List.take_zero]; exact Rv.QI_zero f m k L s s2 b
        · have h1 := hszk.out
          have h2 := B5.out.size
          omega
      go_wp2
      go_loopw [27] (fun i wi => ∃ j : Nat, j ≤ (elems x).length ∧ i = .int .i64 (j : Int) ∧ Hid (IS f m k a cap w wi b0 n M L1 cnt1 K s q ak ck gn0 ge ce x K (8 * (n - cnt) + j) (Rv.QI f m k L s ((elems x).take j)))) (fun i _ => (elems x).length - (intOf i).toNat)
      case atStart => exact ⟨0, Nat.zero_le _, rfl, IS0⟩
      case round =>
        clear IS0
        obtain ⟨j, hj, rfl, his⟩ := hrel
        by_cases hlt2 : j < (elems x).length
        · obtain ⟨b, hbd⟩ : ∃ b, b = (elems x).getD j 0 := ⟨_, rfl⟩
          have hbm : b ∈ elems x := by rw [hbd, List.getD_eq_getElem?_getD, List.getElem?_eq_getElem hlt2]; exact List.getElem_mem hlt2
          obtain ⟨hb8, hbt⟩ := Hw.mem_elems.1 hbm
          rw [HXT.out b hb8] at hbt
          simp only [Bool.and_eq_true, decide_eq_true_eq, Bool.not_eq_true'] at hbt
          obtain ⟨hbm2, hbs⟩ := hbt
          have hcx := his.out.el.cellAt j (by omega)
          rw [List.getElem?_map, show (elems x)[j]? = some b by rw [hbd, List.getD_eq_getElem?_getD, List.getElem?_eq_getElem hlt2]; rfl] at hcx
          have hcx' : wr.cell? ⟨ge, j, none⟩ = some (.int .i64 (b : Int)) := hcx
          have hbl : b < l.length := by rw [HM.out]; exact hbm2
          obtain ⟨ba, offa, rfl, hba2, hca⟩ := (HR.out.below his.out.ls.below (Nat.le_refl _)).at hbl
          obtain ⟨hw1, _, hw2⟩ := HK.out.ww hbl
          rw [hw1] at hca
          obtain ⟨y, hy⟩ : ∃ y, y = ww l b := ⟨_, rfl⟩
          rw [← hy] at hca hw2
          have hand2 : bits .and .i64 (y : Int) (s : Int) = ((y &&& s : Nat) : Int) := Rv.i64_andW _ _ (by omega) (by have := HS.out; omega)
          obtain ⟨z, hz⟩ : ∃ z, z = y &&& s := ⟨_, rfl⟩
          have hz8 : z < 256 := by rw [hz]; exact Nat.lt_of_le_of_lt Nat.and_le_left hw2
          have hct : pc z = Rv.ct f s b := by
            rw [hz, pc_in (p := elems s) (fun c => ?_) (Rv.elems_nd s) (fun c hc => (Hw.mem_elems.1 hc).1), hy]
            · unfold Rv.ct
              congr 1
              funext c
              rw [HF.out]
              exact (wwBit HK.out hbl).symm
            · rw [Bool.eq_iff_iff, List.contains_iff_mem, Hw.mem_elems]
              constructor
              · intro h
                refine ⟨?_, h⟩
                rcases Nat.lt_or_ge c 8 with h1 | h1
                · exact h1
                · rw [Nat.testBit_lt_two_pow (Nat.lt_of_lt_of_le HS.out (show 256 ≤ 2 ^ c from Nat.pow_le_pow_right (n := 2) (by omega) h1))] at h; cases h
              · exact fun h => h.2
          have hpl := pc_le z
          obtain ⟨p, hp⟩ : ∃ p, p = pc z := ⟨_, rfl⟩
          rw [← hp] at hct hpl
          have hq64 : q ≤ 64 := by rw [HQ.out]; exact (Rv.G_bound f HS.out).1
          obtain ⟨r2, hr2⟩ : ∃ r2, r2 = q + p := ⟨_, rfl⟩
          have hr200 : r2 ≤ 200 := by omega
          have hq0 : (0 : Int) ≤ (q : Int) + (p : Int) := by omega
          have hq1 : (q : Int) + (p : Int) ≤ 200 := by omega
          have hwv : IntKind.i64.wrap ((q : Int) + (p : Int)) = (r2 : Int) := by rw [IntKind.wrap_i64]; omega
          have HRR : Hid (Value.int .i64 (IntKind.i64.wrap ((q : Int) + (p : Int))) = .int .i64 (r2 : Int)) := by show _ = _; rw [hwv]
          have hwp : IntKind.i64.wrap (2 ^ b) = ((2 ^ b : Nat) : Int) := by
            have h1 := pow_le b (by omega)
            have h2 : ((2 : Int) ^ b) = ((2 ^ b : Nat) : Int) := by rw [Int.natCast_pow]; rfl
            rw [h2, IntKind.wrap_i64]
            generalize (2 ^ b : Nat) = P at h1 ⊢
            omega
          have HOR : Hid (bits .or .i64 (s : Int) (IntKind.i64.wrap (2 ^ b)) = ((s ||| 2 ^ b : Nat) : Int)) := by
            show _ = _
            rw [hwp]; exact i64_or _ _ (by have := HS.out; omega) (by have := pow_le b (by omega); omega)
          have hor : bits .or .i64 (s : Int) (wrap64 (2 ^ b)) = ((s ||| 2 ^ b : Nat) : Int) := by rw [wrapPow b (by omega)]; exact i64_or _ _ (by have := HS.out; omega) (by have := pow_le b (by omega); omega)
          obtain ⟨s2, hs2⟩ : ∃ s2, s2 = s ||| 2 ^ b := ⟨_, rfl⟩
          have hs28 : s2 < 256 := by rw [hs2]; exact Nat.or_lt_two_pow (n := 8) HS.out (Nat.pow_lt_pow_right (by omega) hb8)
          rw [← hz] at hand2
          rw [← hs2] at hor HOR
          have HC := Lib.hid (fun W => countElements_any z hz8 W)
          rw [← hp] at HC
          have KEEP8 : Hid (∀ V, RowKit.Below wr.heap.size wr V → (V.cell? ⟨w.heap.size, 1, none⟩ = some (.slice (some ⟨ba, offa, none⟩) m cap) ∧ V.cell? ⟨ba, offa + b, none⟩ = some (.int .i64 (y : Int)) ∧ V.cell? ⟨K, 0, none⟩ = some (.int .i64 (s : Int)) ∧ V.cell? ⟨K, 1, none⟩ = some (.int .i64 (q : Int)))) := fun V hb => by
            have t := his.out.on hb
            exact ⟨t.ls.tour.c1, (hb.cell (p := ⟨ba, offa + b, none⟩) hba2).trans hca, t.k6.c0, t.k6.c1⟩
          have KEEP9 : Hid (∀ V, RowKit.Below wr.heap.size wr V → V.cell? ⟨K, 0, none⟩ = some (.int .i64 (s : Int))) := fun V hb => (KEEP8.out V hb).2.2.1
          have BR8 : Hid (RowKit.Below wr.heap.size wr wr.drew) := (Below.refl _ _).drew
          have HCT := Lib.hid hct
          have HBD := Lib.hid hbd
          have HBS := Lib.hid hbs
          have HR2 := Lib.hid hr2
          have HS2E := Lib.hid hs2
          have hji : (j : Int) < ((elems x).length : Int) := by omega
          have hxi : (b : Int) < (m : Int) := by omega
          have hx0 : ¬ (b : Int) < 0 := by omega
          have hx64 : b < 64 := by omega
          clear hcx hbd hbm hbs hw1 hy hz hct hp hr2 hs2 hw2 hca hz8 hba2 hbl hwv hwp
          go_wp2
          go_region_held3 (fun V => V.cell? ⟨w.heap.size, 1, none⟩ = some (.slice (some ⟨ba, offa, none⟩) m cap) ∧ V.cell? ⟨ba, offa + b, none⟩ = some (.int .i64 (y : Int)) ∧ V.cell? ⟨K, 0, none⟩ = some (.int .i64 (s : Int)) ∧ V.cell? ⟨K, 1, none⟩ = some (.int .i64 (q : Int)))
            (first | (exact KEEP8.out _ BR8.out))
            (first
              | (go_at_call 121
                 refine (HC.out _).mono ?_
                 rintro e w7 ⟨rfl, rfl⟩))
          clear hcx'
          go_wp2
          rw [HRR.out]
          have BR9 : Hid (RowKit.Below wr.heap.size wr wr.drew.drew) := (Below.refl _ _).drew.drew
          go_region_held3 (fun V => V.cell? ⟨K, 0, none⟩ = some (.int .i64 (s : Int)))
            (first | (exact KEEP9.out _ BR9.out) | (exact KEEP9.out _ (BR9.out.alloc BR9.out.size _)) | (exact KEEP9.out _ ((BR9.out.alloc BR9.out.size _).setCell (p := ⟨wr.heap.size, 0, none⟩) (Nat.le_refl _) _)) | (exact KEEP9.out _ (((BR9.out.alloc BR9.out.size _).setCell (p := ⟨wr.heap.size, 0, none⟩) (Nat.le_refl _) _).setCell (p := ⟨wr.heap.size, 1, none⟩) (Nat.le_refl _) _)))
            (first | fail)
          go_wp2
          rw [HOR.out]
          obtain ⟨T, hT⟩ : ∃ T, T = wr.heap.size := ⟨_, rfl⟩
          obtain ⟨W9, hW9⟩ : ∃ W9, W9 = (wr.alloc (.cells #[.int .i64 (s2 : Int), .int .i64 (r2 : Int)] 108)).drew.drew := ⟨_, rfl⟩
          have hb9 : RowKit.Below wr.heap.size wr W9 := by rw [hW9]; exact ((Below.refl _ _).alloc (Nat.le_refl _) _).drew.drew
          have x11 : Box W9 T 108 (.int .i64 (s2 : Int)) (.int .i64 (r2 : Int)) := by
            rw [hW9, hT]
            exact (Box.new wr 108 (.int .i64 (s2 : Int)) (.int .i64 (r2 : Int))).drew.drew
          have IS9 := Lib.hid (his.out.on hb9)
          have hTw : w.heap.size + 2 < T := by have := his.out.k6.lt; have := his.out.hK; omega
          rw [← hT, ← hW9]
          clear KEEP8 KEEP9 BR8 BR9 his hW9 hb9 hT hand2 hor HOR HRR
          obtain ⟨g0, n1, hlk, hno, hyes⟩ := IS9.out.drew.ls.look hs28 hr200
          have hQn : Rv.QI f m k L s ((elems x).take j) s b = false := Rv.QI_not (by rw [← HQ.out]; exact HL.out) (fun hh => by
            obtain ⟨i, hi, he⟩ := List.getElem_of_mem hh
            rw [List.length_take] at hi
            rw [List.getElem_take] at he
            have h1 := (List.getElem_inj (Rv.elems_nd x) (i := i) (j := j) (h₀ := by omega) (h₁ := hlt2)).1 (by rw [he, HBD.out, List.getD_eq_getElem?_getD, List.getElem?_eq_getElem hlt2]; rfl)
            omega)
          obtain ⟨hnn, hg0, hT1, hT2⟩ := IS9.out.drew.ls.step HS.out hb8 HBS.out hQn HPK.out (r2 := r2) (by rw [HR2.out, HCT.out, HQ.out]) (by rw [← HS2E.out]; exact hno) (by rw [← HS2E.out]; exact hyes) (Q' := Rv.QI f m k L s ((elems x).take (j + 1))) (fun s3 b3 => by rw [Rv.take_snocN _ _ hlt2, ← HBD.out]; exact Rv.QI_next f m k L s _ b s3 b3)
          rw [← HG.out] at hnn hT1
          rw [← HS2E.out] at hT1 hT2
          have HT1 := Lib.hid hT1
          have HT2 := Lib.hid hT2
          have HG0 := Lib.hid hg0
          have hlen8 : (elems x).length ≤ 8 := elTo_len x 8
          have hx11 := Lib.hid x11
          have BD9 : Hid (RowKit.Below W9.heap.size W9 W9.drew) := (Below.refl _ _).drew
          have hgv8 : Hid (Rv.gv f s < 8 ^ k) := by have := Rv.gv_lt f HS.out; rw [HPK.out] at this; exact this
          have hk8 : k < 8 := by omega
          have hsz9 : Hid (w.heap.size + 3 ≤ W9.heap.size) := (by have := IS9.out.k6.lt; have := IS9.out.hK; show w.heap.size + 3 ≤ W9.heap.size; omega)
          have DW : Hid (Calls Try.prog 151 #[.agg #[g0v g0 (k + 1), .int .i64 (n1 : Int)], .agg #[.slice ak k ck, .int .i64 (gn0 : Int)], .int .i64 (b : Int)] W9.drew (WithR (w.heap.size + 3) (k + 1) (n1 + gn0) (g0m g0 (Rv.gv f s * 8 + b)) W9.drew)) :=
            with_any (w.heap.size + 3) B0 k n1 gn0 (Rv.gv f s) b ak ck g0 W9.drew hk8 hb8 hnn hgv8.out hsz9.out (HGK.out.below (IS9.out.drew.ls.below)) HG0.out
          have KEEP10 : Hid (∀ V, RowKit.Below W9.heap.size W9 V → (V.cell? ⟨K + 1, 0, none⟩ = some (.slice ak k ck) ∧ V.cell? ⟨K + 1, 1, none⟩ = some (.int .i64 (gn0 : Int)) ∧ V.cell? ⟨T, 0, none⟩ = some (.int .i64 (s2 : Int)) ∧ V.cell? ⟨T, 1, none⟩ = some (.int .i64 (r2 : Int)))) := fun V hb => by
            have t := (IS9.out.on hb).k7
            have u := hx11.out.below hb hx11.out.lt
            exact ⟨t.c0, t.c1, u.c0, u.c1⟩
          have hNN : 8 * (n - cnt) + j < 1000000000000 := by omega
          clear hnn hT1 hT2 hg0 hQn hno hyes x11
          go_region_held3 (fun V => V.cell? ⟨K + 1, 0, none⟩ = some (.slice ak k ck) ∧ V.cell? ⟨K + 1, 1, none⟩ = some (.int .i64 (gn0 : Int)) ∧ V.cell? ⟨T, 0, none⟩ = some (.int .i64 (s2 : Int)) ∧ V.cell? ⟨T, 1, none⟩ = some (.int .i64 (r2 : Int)))
            (first | (exact HS11.out) | (exact KEEP10.out _ B10.out) | (exact KEEP10.out _ BD9.out))
            (first
              | (go_at_call 151
                 refine DW.out.mono ?_
                 rintro e w10 ⟨⟨g11, c11, rfl, hg11⟩, hb10⟩
                 have B10 := Lib.hid (BD9.out.trans hb10)
                 obtain ⟨W11, hrun11, hls11, hgr11⟩ := (IS9.out.ls.on B10.out).store hNN hs28 hr200 (t := (r2, n1 + gn0, g0m g0 (Rv.gv f s * 8 + b))) hg11 HT1.out HT2.out
                 simp only [Int.natCast_add] at hrun11
                 have IS11 := Lib.hid ((IS9.out.on B10.out).put hls11 hgr11)
                 have HS11 : Hid (W11.cell? ⟨K + 1, 0, none⟩ = some (.slice ak k ck) ∧ W11.cell? ⟨K + 1, 1, none⟩ = some (.int .i64 (gn0 : Int)) ∧ W11.cell? ⟨T, 0, none⟩ = some (.int .i64 (s2 : Int)) ∧ W11.cell? ⟨T, 1, none⟩ = some (.int .i64 (r2 : Int))) := by
                   have t := IS11.out.k7
                   have u := box_kept (hx11.out.below B10.out hx11.out.lt) hgr11 (by simp <;> omega)
                   exact ⟨t.c0, t.c1, u.c0, u.c1⟩
                 clear hb10 hg11 hls11 hgr11))
          have IS12 : Hid (IS f m k (some ⟨ba, offa, none⟩) cap w W11 b0 n M L1 cnt1 K s q ak ck gn0 ge ce x K (8 * (n - cnt) + (j + 1)) (Rv.QI f m k L s ((elems x).take (j + 1)))) := IS11.out
          clear IS11 HS11 B10 hrun11 KEEP10 DW hlk
          go_wp2
          go_roundw
          case rel => exact ⟨j + 1, by omega, by go_num, IS12⟩
          case measure => simp [intOf]; omega
        · obtain rfl : j = (elems x).length := by omega
          have hm1 : wr.rangeLeft b0 (w.heap.size + 2) = cnt1 := his.out.rg.left_eq
          have hlen8 : (elems x).length ≤ 8 := elTo_len x 8
          go_wp2
          go_roundw
          case rel =>
            refine ⟨L1, cnt1, by omega, his.out.rg, (his.out.ls.congr fun s3 b3 hs3 hb3 => ?_).more (by omega)⟩
            rw [List.take_length, HL1.out, HQ.out]
            exact Rv.QI_end HS2.out HPK.out HXT.out hb3
          case measure => rw [hm1, hml]; omega
end Go.Proofs.Yteegbkbphfmooaa
