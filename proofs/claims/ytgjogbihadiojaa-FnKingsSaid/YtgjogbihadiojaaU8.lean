/-
  'KingStep' of the program and of the model. No conditions but the bounds that Go gives a slice.
-/
import Derived.Test.YtgjogbihadiojaaU7
import Derived.Test.YtgjogbihadiojaaJ0
namespace Go.Proofs.Ytgjogbihadiojaa
open Go.ChangeShapes Go.WideShapes Go.ChangeAt Go.RowKit
set_option linter.unusedVariables false

/-- What both 'KingStep' answer. -/
noncomputable def stepR (n : Int) (l : List Int) (k : Int) : Int := if okB n l && pl n k then ((Kk.step (ww l) l.length k.toNat : Nat) : Int) else -1
/-- The step among the first k players. -/
def st8 (l : List Int) (v k : Nat) : Nat := Kk.stepTo (fun x y => (ww l x).testBit y) (fun x => pc (ww l x)) v k
theorem st8_lt {n : Int} {l : List Int} (h : Ok n l) {v : Nat} (hv : v < l.length) : ∀ k, k ≤ l.length → st8 l v k < l.length := fun k hk => by
  rcases Kk.step_spec (b := fun x y => (ww l x).testBit y) (s := fun x => pc (ww l x)) ((okVa h).self v hv) k with ⟨h1, _⟩ | ⟨h1, _⟩
  · unfold st8; rw [h1]; exact hv
  · unfold st8; omega
theorem st8_succ (l : List Int) (v k : Nat) : st8 l v (k + 1) = if (ww l k).testBit v && (st8 l v k == v || decide (pc (ww l (st8 l v k)) < pc (ww l k))) then k else st8 l v k := rfl
/-- How many elements a number names. -/
def rr8 (z : Int) : Int := ((pc z.toNat : Nat) : Int)
theorem scoresL_ww {n : Int} {l : List Int} (h : Ok n l) {k : Nat} (hk : k < l.length) : ((scoresL l).map Int.ofNat).getD k 0 = ((pc (ww l k) : Nat) : Int) := by
  have e := scoresL_at l k (ww l k) hk (h.ww hk).1
  rw [List.getD_eq_getElem?_getD, List.getElem?_map, e]; rfl


set_option maxRecDepth 100000 in
set_option maxHeartbeats 4000000 in
theorem implStep (n : Int) (a : Option Addr) (l : List Int) (cap : Nat) (kk : Int) (w : World) (hrow : IntRow w a l) (hl : l.length ≤ maxLen) :
    Calls Try.prog 34 #[.agg #[.int .i64 n, .slice a l.length cap], .int .i64 kk] w fun e w' => e = .returned (.int .i64 (stepR n l kk)) ∧ Below w.heap.size w w' := by
  obtain ⟨Wa, hWa⟩ : ∃ Wa, Wa = w.alloc (.cells #[.int .i64 n, .slice a l.length cap] 25) := ⟨_, rfl⟩
  have HWa := Lib.hid hWa
  have hba : Below w.heap.size w Wa := by rw [hWa]; exact (Below.refl _ _).alloc (Nat.le_refl _) _
  have xa : Box Wa w.heap.size 25 (.int .i64 n) (.slice a l.length cap) := by rw [hWa]; exact Box.new _ _ _ _
  have hrowa : IntRow Wa a l := hrow.below hba (Nat.le_refl _)
  have HL := Lib.hid hl
  clear hl hrow hWa
  cases hok : okB n l
  · have HO := Lib.hid hok
    have HE : Hid (stepR n l kk = -1) := by show _ = _; unfold stepR; rw [hok]; rfl
    clear hok
    go_enter Try.func34, Try.ntmps34
    go_wp2_with fail
    rw [← HWa.out]
    refine (implTourOk n a l cap Wa hrowa HL.out).mono ?_
    rintro e w1 ⟨rfl, hb1⟩
    rw [HO.out]
    go_wp2
    go_ret
    exact ⟨by rw [HE.out]; rfl, hba.trans (hb1.mono hba.size)⟩
  have HO := Lib.hid hok
  have HK := Lib.hid (okB_iff.1 hok)
  cases hp : pl n kk
  · have HP := Lib.hid hp
    have HE : Hid (stepR n l kk = -1) := by show _ = _; unfold stepR; rw [hp]; simp
    clear hok hp
    go_enter Try.func34, Try.ntmps34
    go_wp2_with fail
    rw [← HWa.out]
    refine (implTourOk n a l cap Wa hrowa HL.out).mono ?_
    rintro e w1 ⟨rfl, hb1⟩
    rw [HO.out]
    have c0 := (xa.below hb1 xa.lt).c0
    have c1 := (xa.below hb1 xa.lt).c1
    go_wp2_with fail
    refine (hasPlayer_pl n a _ cap kk w1).mono ?_
    rintro e w2 ⟨rfl, hb2⟩
    rw [HP.out]
    go_wp2
    go_ret
    have b1 := hba.trans (hb1.mono hba.size)
    exact ⟨by rw [HE.out]; rfl, b1.trans (hb2.mono b1.size)⟩
  have HP := Lib.hid hp
  have hp2 := pl_iff.1 hp
  obtain rfl : n = (l.length : Int) := HK.out.2.2.1.symm
  obtain ⟨v, rfl⟩ : ∃ v : Nat, kk = v := ⟨kk.toNat, by omega⟩
  have hvl : v < l.length := by omega
  have hl8 : l.length ≤ 8 := (okVa HK.out).le
  have HE : Hid (stepR l.length l v = ((st8 l v l.length : Nat) : Int)) := by show _ = _; unfold stepR; rw [hok, hp]; rfl
  obtain ⟨S, hS⟩ : ∃ S, S = (scoresL l).map Int.ofNat := ⟨_, rfl⟩
  have hSl : S.length = l.length := by rw [hS, List.length_map]; exact scoresL_len l
  have HSL := Lib.hid hSl
  have HSW : Hid (∀ k, k < l.length → S.getD k 0 = ((pc (ww l k) : Nat) : Int)) := fun k hk => by rw [hS]; exact scoresL_ww HK.out hk
  have HSC : Hid (∀ W, IntRow W a l → Calls Try.prog 71 #[.agg #[.int .i64 (l.length : Int), .slice a l.length cap]] W fun e w' => (∃ a1 c1, e = .returned (.slice a1 l.length c1) ∧ IntRow w' a1 S) ∧ Below W.heap.size W w') := by
    intro W hW
    refine (scoresRow _ a l cap W hW HL.out).mono ?_
    rintro e w' ⟨⟨a1, c1, rfl, hi⟩, hb⟩
    have e1 : (resS l.length l).map Int.ofNat = S := by rw [hS]; unfold resS; rw [hok]; rfl
    rw [e1] at hi ⊢
    exact ⟨⟨a1, c1, by rw [hSl], hi⟩, hb⟩
  clear hok hp hp2 hS hSl
  go_enter Try.func34, Try.ntmps34
  go_wp2_with fail
  rw [← HWa.out]
  refine (implTourOk _ a l cap Wa hrowa HL.out).mono ?_
  rintro e w1 ⟨rfl, hb1⟩
  rw [HO.out]
  have xa1 := xa.below hb1 xa.lt
  have hrow1 := hrowa.below hb1 (Nat.le_refl _)
  have c0 := xa1.c0
  have c1 := xa1.c1
  have b1 := hba.trans (hb1.mono hba.size)
  go_wp2_with fail
  refine (hasPlayer_pl _ a _ cap v w1).mono ?_
  rintro e w2 ⟨rfl, hb2⟩
  rw [HP.out]
  have xa2 := xa1.below hb2 xa1.lt
  have hrow2 := hrow1.below hb2 (Nat.le_refl _)
  have b2 := b1.trans (hb2.mono b1.size)
  clear c0 c1
  have c0 := xa2.c0
  have c1 := xa2.c1
  go_wp2_with fail
  refine (HSC.out w2 hrow2).mono ?_
  rintro e w3 ⟨⟨a1, cp1, rfl, hr3⟩, hb3⟩
  have XA3 := Lib.hid (xa2.below hb3 xa2.lt)
  have HR3 := Lib.hid (hrow2.below hb3 (Nat.le_refl _))
  have HS3 := Lib.hid hr3
  have B3 := Lib.hid (b2.trans (hb3.mono b2.size))
  clear c0 c1 b1 b2 hb1 hb2 hb3 hba xa xa1 xa2 hrowa hrow1 hrow2 hr3
  have c0 := XA3.out.c0
  go_wp2
  clear c0
  go_loopw [6, 22] (fun s i wr => ∃ k q : Nat, k ≤ l.length ∧ i = .int .i64 (k : Int) ∧ s = .int .i64 (q : Int) ∧ q < l.length ∧ Hid (q = st8 l v k) ∧ Below w3.heap.size w3 wr) (fun _ i _ => l.length - (intOf i).toNat)
  case atStart => exact ⟨0, v, Nat.zero_le _, rfl, rfl, hvl, rfl, Below.refl _ _⟩
  case round =>
    obtain ⟨k, q, hk, rfl, rfl, hql, hq, hb⟩ := hrel
    by_cases hlt : k < l.length
    · have xr := XA3.out.below hb XA3.out.lt
      have hRr := HR3.out.below hb (Nat.le_refl _)
      have hSr := HS3.out.below hb (Nat.le_refl _)
      have hkb : (k : Int) < (l.length : Int) := by omega
      have hqb : (q : Int) < (l.length : Int) := by omega
      have hv64 : v < 64 := by omega
      obtain ⟨b, off, rfl, hbb, hck⟩ := hSr.at (show k < S.length by rw [HSL.out]; exact hlt)
      have hcq : wr.cell? ⟨b, off + q, none⟩ = some (.int .i64 (S.getD q 0)) := by
        obtain ⟨b', off', he, _, hc⟩ := hSr.at (show q < S.length by rw [HSL.out]; exact hql)
        obtain ⟨rfl, rfl⟩ : b = b' ∧ off = off' := by simpa using he
        exact hc
      obtain ⟨x, hx⟩ : ∃ x, x = S.getD k 0 := ⟨_, rfl⟩
      obtain ⟨y, hy⟩ : ∃ y, y = S.getD q 0 := ⟨_, rfl⟩
      rw [← hx] at hck
      rw [← hy] at hcq
      have HX : Hid (x = ((pc (ww l k) : Nat) : Int)) := by show _ = _; rw [hx]; exact HSW.out k hlt
      have HY : Hid (y = ((pc (ww l q) : Nat) : Int)) := by show _ = _; rw [hy]; exact HSW.out q hql
      have hq0 := fun d os => cell_regrown xr.c0 d os
      have hq1 := fun d os => cell_regrown xr.c1 d os
      have hqk := fun d os => cell_regrown hck d os
      have hqq := fun d os => cell_regrown hcq d os
      have cB : ∀ d os, Calls Try.prog 57 #[.agg #[.int .i64 (l.length : Int), .slice a l.length cap], .int .i64 (k : Int), .int .i64 (v : Int)] (Go.Sort.grow (redrawn wr d) os) fun e w'' => e = .returned (.bool ((ww l k).testBit v)) ∧ ∃ p : Regrown, w'' = Go.Sort.grow (redrawn wr p.d) p.os :=
        fun d os => Calls.regrown_of ((beats_any _ a l cap k v _ (hRr.below (below_regrown wr d os) (Nat.le_refl _)) HL.out hlt hv64).mono fun e w' ⟨he, hw⟩ => ⟨by rw [he, bit_wwU HK.out hlt], hw⟩)
      clear xr hRr hSr hx hy hck hcq
      cases hB1 : (ww l k).testBit v
      · have hn : Hid (q = st8 l v (k + 1)) := by show _ = _; rw [st8_succ, hB1, ← hq.out]; rfl
        rw [hB1] at cB
        clear hB1 hq
        go_wp2
        refine wp_region_quiet_below (by kernel_rfl) (by kernel_rfl) ?_
        repeat (go_big_quiet_step (first | exact cB _ _))
        refine wpQuiet_nil ?_
        intro wq hw'
        have hbq : Below wr.heap.size wr wq := by obtain ⟨⟨dq, osq⟩, hw''⟩ := hw'; rw [hw'']; exact below_regrown wr dq osq
        clear hw' cB hq0 hq1 hqk hqq
        have hb4 := hb.trans (hbq.mono hb.size)
        go_wp2
        go_roundw
        case rel => exact ⟨k + 1, q, by omega, by go_num, rfl, hql, hn, hb4⟩
        case measure => simp [intOf]; omega
      · rw [hB1] at cB
        by_cases hqv : q = v
        · have hn : Hid (k = st8 l v (k + 1)) := by show _ = _; rw [st8_succ, hB1, ← hq.out, hqv]; simp
          have hbe : ((q : Int) == (v : Int)) = true := by simp [hqv]
          have hbe2 : (q == v) = true := by simp [hqv]
          clear hB1 hq hqv
          go_wp2
          refine wp_region_quiet_below (by kernel_rfl) (by kernel_rfl) ?_
          repeat (go_big_quiet_step (first | exact cB _ _))
          refine wpQuiet_nil ?_
          intro wq hw'
          have hbq : Below wr.heap.size wr wq := by obtain ⟨⟨dq, osq⟩, hw''⟩ := hw'; rw [hw'']; exact below_regrown wr dq osq
          clear hw' cB hq0 hq1 hqk hqq
          have hb4 := hb.trans (hbq.mono hb.size)
          go_wp2
          go_roundw
          case rel => exact ⟨k + 1, k, by omega, by go_num, rfl, hlt, hn, hb4⟩
          case measure => simp [intOf]; omega
        · have hbe : ((q : Int) == (v : Int)) = false := by simp; omega
          have hbe2 : (q == v) = false := by simp; omega
          by_cases hsc : y < x
          · have hn : Hid (k = st8 l v (k + 1)) := by
              show _ = _
              rw [st8_succ, hB1, ← hq.out]
              have : pc (ww l q) < pc (ww l k) := by rw [HX.out, HY.out] at hsc; omega
              simp [this]
            have hd1 : decide (y < x) = true := by simpa using hsc
            clear hB1 hq hqv
            go_wp2
            refine wp_region_quiet_below (by kernel_rfl) (by kernel_rfl) ?_
            repeat (go_big_quiet_step (first | exact cB _ _))
            refine wpQuiet_nil ?_
            intro wq hw'
            have hbq : Below wr.heap.size wr wq := by obtain ⟨⟨dq, osq⟩, hw''⟩ := hw'; rw [hw'']; exact below_regrown wr dq osq
            clear hw' cB hq0 hq1 hqk hqq
            have hb4 := hb.trans (hbq.mono hb.size)
            go_wp2
            go_roundw
            case rel => exact ⟨k + 1, k, by omega, by go_num, rfl, hlt, hn, hb4⟩
            case measure => simp [intOf]; omega
          · have hn : Hid (q = st8 l v (k + 1)) := by
              show _ = _
              rw [st8_succ, hB1, ← hq.out]
              have : ¬ pc (ww l q) < pc (ww l k) := by rw [HX.out, HY.out] at hsc; omega
              simp [this, hqv]
            have hd1 : decide (y < x) = false := by simpa using hsc
            clear hB1 hq hqv
            go_wp2
            refine wp_region_quiet_below (by kernel_rfl) (by kernel_rfl) ?_
            repeat (go_big_quiet_step (first | exact cB _ _))
            refine wpQuiet_nil ?_
            intro wq hw'
            have hbq : Below wr.heap.size wr wq := by obtain ⟨⟨dq, osq⟩, hw''⟩ := hw'; rw [hw'']; exact below_regrown wr dq osq
            clear hw' cB hq0 hq1 hqk hqq
            have hb4 := hb.trans (hbq.mono hb.size)
            go_wp2
            go_roundw
            case rel => exact ⟨k + 1, q, by omega, by go_num, rfl, hql, hn, hb4⟩
            case measure => simp [intOf]; omega
    · obtain rfl : k = l.length := by omega
      go_wp2
      go_ret
      exact ⟨by rw [HE.out, ← hq.out]; rfl, B3.out.trans (hb.mono B3.out.size)⟩

set_option maxRecDepth 100000 in
set_option maxHeartbeats 4000000 in
theorem l07Step_any (n : Int) (a : Option Addr) (l : List Int) (cap v : Nat) (w : World) (hrow : IntRow w a l) (hok : Ok n l) (hvl : v < l.length) :
    Calls Try.prog 103 #[.agg #[.int .i64 n, .slice a l.length cap], .int .i64 v] w fun e w' => e = .returned (.int .i64 ((st8 l v l.length : Nat) : Int)) ∧ Below w.heap.size w w' := by
  obtain rfl : n = (l.length : Int) := hok.2.2.1.symm
  obtain ⟨w3, hWa⟩ : ∃ Wa, Wa = w.alloc (.cells #[.int .i64 (l.length : Int), .slice a l.length cap] 25) := ⟨_, rfl⟩
  have HWa := Lib.hid hWa
  have hba : Below w.heap.size w w3 := by rw [hWa]; exact (Below.refl _ _).alloc (Nat.le_refl _) _
  have xa : Box w3 w.heap.size 25 (.int .i64 (l.length : Int)) (.slice a l.length cap) := by rw [hWa]; exact Box.new _ _ _ _
  have hrowa : IntRow w3 a l := hrow.below hba (Nat.le_refl _)
  have hl8 : l.length ≤ 8 := (okVa hok).le
  have HK := Lib.hid hok
  have XA3 := Lib.hid xa
  have HR3 := Lib.hid hrowa
  have B3 := Lib.hid hba
  have hlm : l.length ≤ maxLen := by unfold maxLen; omega
  have HL := Lib.hid hlm
  have c0 := xa.c0
  have c1 := xa.c1
  clear hWa hrow hok hrowa xa hba hlm
  go_enter Try.func103, Try.ntmps103
  go_wp2
  rw [← HWa.out]
  clear c0 c1
  go_loopw [5, 11] (fun s i wr => ∃ k q : Nat, k ≤ l.length ∧ i = .int .i64 (k : Int) ∧ s = .int .i64 (q : Int) ∧ q < l.length ∧ Hid (q = st8 l v k) ∧ Below w3.heap.size w3 wr) (fun _ i _ => l.length - (intOf i).toNat)
  case atStart => exact ⟨0, v, Nat.zero_le _, rfl, rfl, hvl, rfl, Below.refl _ _⟩
  case round =>
    obtain ⟨k, q, hk, rfl, rfl, hql, hq, hb⟩ := hrel
    by_cases hlt : k < l.length
    · have xr := XA3.out.below hb XA3.out.lt
      have hRr := HR3.out.below hb (Nat.le_refl _)
      have hkb : (k : Int) < (l.length : Int) := by omega
      have hqb : (q : Int) < (l.length : Int) := by omega
      have hv64 : v < 64 := by omega
      have HRQ : ∀ d os, IntRow (Go.Sort.grow (redrawn wr d) os) a l := fun d os => hRr.below (below_regrown wr d os) (Nat.le_refl _)
      have cB : ∀ d os, Calls Try.prog 96 #[.agg #[.int .i64 (l.length : Int), .slice a l.length cap], .int .i64 (k : Int), .int .i64 (v : Int)] (Go.Sort.grow (redrawn wr d) os) fun e w'' => e = .returned (.bool ((ww l k).testBit v)) ∧ ∃ p : Regrown, w'' = Go.Sort.grow (redrawn wr p.d) p.os :=
        fun d os => Calls.regrown_of ((l02Beats_any _ a l cap k v _ (HRQ d os) HL.out hlt hv64).mono fun e w' ⟨he, hw⟩ => ⟨by rw [he, bit_wwU HK.out hlt], hw⟩)
      obtain ⟨b, off, rfl, hbb, hck⟩ := hRr.at hlt
      have hcq : wr.cell? ⟨b, off + q, none⟩ = some (.int .i64 (l.getD q 0)) := by
        obtain ⟨b', off', he, _, hc⟩ := hRr.at hql
        obtain ⟨rfl, rfl⟩ : b = b' ∧ off = off' := by simpa using he
        exact hc
      obtain ⟨hk1, _, hk8⟩ := HK.out.ww hlt
      obtain ⟨hw1, _, hw8⟩ := HK.out.ww hql
      obtain ⟨xk, hxk⟩ : ∃ xk : Int, xk = l.getD k 0 := ⟨_, rfl⟩
      obtain ⟨xq, hxq⟩ : ∃ xq : Int, xq = l.getD q 0 := ⟨_, rfl⟩
      have hxk2 : rr8 xk = ((pc (ww l k) : Nat) : Int) := by unfold rr8; rw [hxk, hk1, Int.toNat_natCast]
      have hxq2 : rr8 xq = ((pc (ww l q) : Nat) : Int) := by unfold rr8; rw [hxq, hw1, Int.toNat_natCast]
      rw [← hxk] at hck
      rw [← hxq] at hcq
      have HX : Hid (rr8 xk = ((pc (ww l k) : Nat) : Int)) := hxk2
      have HY : Hid (rr8 xq = ((pc (ww l q) : Nat) : Int)) := hxq2
      have cK : ∀ z, (z = xk ∨ z = xq) → ∀ d os, Calls Try.prog 99 #[.int .i64 z] (Go.Sort.grow (redrawn wr d) os) fun e w'' => e = .returned (.int .i64 (rr8 z)) ∧ ∃ p : Regrown, w'' = Go.Sort.grow (redrawn wr p.d) p.os :=
        fun z hz d os => by
          rcases hz with rfl | rfl
          · rw [hxk2, hxk, hk1]
            exact Calls.regrown_of ((l02Bits_any _ hk8 _).mono fun e w' ⟨he, hw⟩ => ⟨he, hw ▸ Below.refl _ _⟩)
          · rw [hxq2, hxq, hw1]
            exact Calls.regrown_of ((l02Bits_any _ hw8 _).mono fun e w' ⟨he, hw⟩ => ⟨he, hw ▸ Below.refl _ _⟩)
      have hq0 := fun d os => cell_regrown xr.c0 d os
      have hq1 := fun d os => cell_regrown xr.c1 d os
      have hqk := fun d os => cell_regrown hck d os
      have hqq := fun d os => cell_regrown hcq d os
      clear xr hRr hck hcq hk1 hk8 hw1 hw8 hxk hxq hxk2 hxq2 HRQ
      cases hB1 : (ww l k).testBit v
      · have hn : Hid (q = st8 l v (k + 1)) := by show _ = _; rw [st8_succ, hB1, ← hq.out]; rfl
        rw [hB1] at cB
        clear hB1 hq
        go_wp2
        refine wp_region_quiet_below (by kernel_rfl) (by kernel_rfl) ?_
        repeat (go_big_quiet_step (first | exact cB _ _ | exact cK _ (by first | exact .inl rfl | exact .inr rfl) _ _))
        refine wpQuiet_nil ?_
        intro wq hw'
        have hbq : Below wr.heap.size wr wq := by obtain ⟨⟨dq, osq⟩, hw''⟩ := hw'; rw [hw'']; exact below_regrown wr dq osq
        clear hw' cB cK hq0 hq1 hqk hqq
        have hb4 := hb.trans (hbq.mono hb.size)
        go_wp2
        go_roundw
        case rel => exact ⟨k + 1, q, by omega, by go_num, rfl, hql, hn, hb4⟩
        case measure => simp [intOf]; omega
      · rw [hB1] at cB
        by_cases hqv : q = v
        · have hn : Hid (k = st8 l v (k + 1)) := by show _ = _; rw [st8_succ, hB1, ← hq.out, hqv]; simp
          have hbe : ((q : Int) == (v : Int)) = true := by simp [hqv]
          have hbe2 : (q == v) = true := by simp [hqv]
          clear hB1 hq hqv
          go_wp2
          refine wp_region_quiet_below (by kernel_rfl) (by kernel_rfl) ?_
          repeat (go_big_quiet_step (first | exact cB _ _ | exact cK _ (by first | exact .inl rfl | exact .inr rfl) _ _))
          refine wpQuiet_nil ?_
          intro wq hw'
          have hbq : Below wr.heap.size wr wq := by obtain ⟨⟨dq, osq⟩, hw''⟩ := hw'; rw [hw'']; exact below_regrown wr dq osq
          clear hw' cB cK hq0 hq1 hqk hqq
          have hb4 := hb.trans (hbq.mono hb.size)
          go_wp2
          go_roundw
          case rel => exact ⟨k + 1, k, by omega, by go_num, rfl, hlt, hn, hb4⟩
          case measure => simp [intOf]; omega
        · have hbe : ((q : Int) == (v : Int)) = false := by simp; omega
          have hbe2 : (q == v) = false := by simp; omega
          by_cases hsc : rr8 xq < rr8 xk
          · have hn : Hid (k = st8 l v (k + 1)) := by
              show _ = _
              rw [st8_succ, hB1, ← hq.out]
              have : pc (ww l q) < pc (ww l k) := by rw [HX.out, HY.out] at hsc; omega
              simp [this]
            have hd1 : decide (rr8 xq < rr8 xk) = true := by simpa using hsc
            clear hB1 hq hqv
            go_wp2
            refine wp_region_quiet_below (by kernel_rfl) (by kernel_rfl) ?_
            repeat (go_big_quiet_step (first | exact cB _ _ | exact cK _ (by first | exact .inl rfl | exact .inr rfl) _ _))
            refine wpQuiet_nil ?_
            intro wq hw'
            have hbq : Below wr.heap.size wr wq := by obtain ⟨⟨dq, osq⟩, hw''⟩ := hw'; rw [hw'']; exact below_regrown wr dq osq
            clear hw' cB cK hq0 hq1 hqk hqq
            have hb4 := hb.trans (hbq.mono hb.size)
            go_wp2
            go_roundw
            case rel => exact ⟨k + 1, k, by omega, by go_num, rfl, hlt, hn, hb4⟩
            case measure => simp [intOf]; omega
          · have hn : Hid (q = st8 l v (k + 1)) := by
              show _ = _
              rw [st8_succ, hB1, ← hq.out]
              have : ¬ pc (ww l q) < pc (ww l k) := by rw [HX.out, HY.out] at hsc; omega
              simp [this, hqv]
            have hd1 : decide (rr8 xq < rr8 xk) = false := by simpa using hsc
            clear hB1 hq hqv
            go_wp2
            refine wp_region_quiet_below (by kernel_rfl) (by kernel_rfl) ?_
            repeat (go_big_quiet_step (first | exact cB _ _ | exact cK _ (by first | exact .inl rfl | exact .inr rfl) _ _))
            refine wpQuiet_nil ?_
            intro wq hw'
            have hbq : Below wr.heap.size wr wq := by obtain ⟨⟨dq, osq⟩, hw''⟩ := hw'; rw [hw'']; exact below_regrown wr dq osq
            clear hw' cB cK hq0 hq1 hqk hqq
            have hb4 := hb.trans (hbq.mono hb.size)
            go_wp2
            go_roundw
            case rel => exact ⟨k + 1, q, by omega, by go_num, rfl, hql, hn, hb4⟩
            case measure => simp [intOf]; omega
    · obtain rfl : k = l.length := by omega
      go_wp2
      go_ret
      exact ⟨by rw [← hq.out]; rfl, B3.out.trans (hb.mono B3.out.size)⟩

set_option maxHeartbeats 1000000 in
theorem specStep (n : Int) (a : Option Addr) (l : List Int) (cap : Nat) (kk : Int) (w : World) (hrow : IntRow w a l) (hl : l.length ≤ maxLen) :
    Calls Try.prog 51 #[.agg #[.int .i64 n, .slice a l.length cap], .int .i64 kk] w fun e w' => e = .returned (.int .i64 (stepR n l kk)) ∧ Below w.heap.size w w' := by
  obtain ⟨Wa, hWa⟩ : ∃ Wa, Wa = w.alloc (.cells #[.int .i64 n, .slice a l.length cap] 25) := ⟨_, rfl⟩
  have HWa := Lib.hid hWa
  have hba : Below w.heap.size w Wa := by rw [hWa]; exact (Below.refl _ _).alloc (Nat.le_refl _) _
  have xa : Box Wa w.heap.size 25 (.int .i64 n) (.slice a l.length cap) := by rw [hWa]; exact Box.new _ _ _ _
  have hrowa : IntRow Wa a l := hrow.below hba (Nat.le_refl _)
  have HL := Lib.hid hl
  clear hl hrow hWa
  cases hok : (okB n l && pl n kk)
  · have HO := Lib.hid hok
    have HE : Hid (stepR n l kk = -1) := by show _ = _; unfold stepR; rw [hok]; rfl
    clear hok
    go_enter Try.func51, Try.ntmps51
    go_wp2_with fail
    rw [← HWa.out]
    refine (specPlayer n a l cap kk Wa hrowa HL.out).mono ?_
    rintro e w1 ⟨rfl, hb1⟩
    rw [HO.out]
    go_wp2
    go_ret
    exact ⟨by rw [HE.out]; rfl, hba.trans (hb1.mono hba.size)⟩
  have HO := Lib.hid hok
  have HK := Lib.hid (okB_iff.1 (Bool.and_eq_true_iff.1 hok).1)
  have hp := pl_iff.1 (Bool.and_eq_true_iff.1 hok).2
  obtain ⟨v, rfl⟩ : ∃ v : Nat, kk = v := ⟨kk.toNat, by omega⟩
  have hvl : v < l.length := by have := HK.out.2.2.1; omega
  have HE : Hid (stepR n l v = ((st8 l v l.length : Nat) : Int)) := by show _ = _; unfold stepR; rw [hok]; rfl
  clear hok hp
  go_enter Try.func51, Try.ntmps51
  go_wp2_with fail
  rw [← HWa.out]
  refine (specPlayer n a l cap v Wa hrowa HL.out).mono ?_
  rintro e w1 ⟨rfl, hb1⟩
  rw [HO.out]
  have c0 := (xa.below hb1 xa.lt).c0
  have c1 := (xa.below hb1 xa.lt).c1
  have b1 := hba.trans (hb1.mono hba.size)
  go_wp2_with fail
  refine (l07Step_any n a l cap v w1 (hrowa.below hb1 (Nat.le_refl _)) HK.out hvl).mono ?_
  rintro e w3 ⟨rfl, hb3⟩
  go_wp2
  go_ret
  exact ⟨by rw [HE.out]; rfl, b1.trans (hb3.mono b1.size)⟩
end Go.Proofs.Ytgjogbihadiojaa
