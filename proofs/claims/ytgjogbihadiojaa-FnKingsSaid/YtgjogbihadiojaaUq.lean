/-
  'CountKings' of the program. No conditions.
-/
import Derived.Test.YtgjogbihadiojaaUp
import Derived.Test.Ytgjogbihadiojaa3B
namespace Go.Proofs.Ytgjogbihadiojaa
open Go.ChangeShapes Go.WideShapes Go.ChangeAt Go.RowKit
set_option linter.unusedVariables false

set_option maxHeartbeats 1000000 in
theorem countKing_any (a : Option Addr) (l : List Int) (cap n : Nat) (w : World) (hrow : IntRow w a l) (hok : Ok (n : Int) l) :
    Calls Try.prog 86 #[.int .i64 (n : Int), .func (.func 69) #[.agg #[.int .i64 (n : Int), .slice a n cap]] #[]] w fun e w' => e = .returned (.int .i64 ((Kk.cn (Kk.kingN (ww l) n) n : Nat) : Int)) ∧ Below w.heap.size w w' := by
  have hnl : l.length = n := by have := hok.2.2.1; omega
  have hn8 : n ≤ 8 := by have := (okVa hok).le; omega
  have HC : Hid (∀ W k, Below w.heap.size w W → k < n → Calls Try.prog 69 #[.agg #[.int .i64 (n : Int), .slice a n cap], .int .i64 (k : Int)] W fun e W' => e = .returned (.bool (Kk.kingN (ww l) n k)) ∧ Below W.heap.size W W') := by
    intro W k hb hk
    have := isKing_any (n : Int) a l cap k W (hrow.below hb (Nat.le_refl _)) hok (by omega)
    rw [hnl] at this
    exact this
  obtain ⟨pr, hpr⟩ : ∃ pr : Nat → Bool, pr = Kk.kingN (ww l) n := ⟨_, rfl⟩
  have HP : Hid (∀ k, Kk.kingN (ww l) n k = pr k) := fun k => by rw [hpr]
  rw [← hpr]
  clear hrow hok hpr hnl
  go_enter Try.func86, Try.ntmps86
  go_wp2
  go_loopw [5, 8] (fun c i wr => ∃ k q : Nat, k ≤ n ∧ i = .int .i64 (k : Int) ∧ c = .int .i64 (q : Int) ∧ q ≤ k ∧ Hid (q = Kk.cn pr k) ∧ Below w.heap.size w wr) (fun _ i _ => n - (intOf i).toNat)
  case atStart => exact ⟨0, 0, Nat.zero_le _, rfl, rfl, Nat.le_refl _, rfl, Below.refl _ _⟩
  case round =>
    obtain ⟨k, q, hk, rfl, rfl, hqk, hq, hb⟩ := hrel
    by_cases hlt : k < n
    · have hkb : (k : Int) < (n : Int) := by omega
      cases hp : pr k
      · have hn : Hid (q = Kk.cn pr (k + 1)) := by show _ = _; simp only [Kk.cn]; rw [hp, hq.out]; rfl
        have HPK := Lib.hid ((HP.out k).trans hp)
        clear hp hq
        go_wp2_with fail
        refine (HC.out _ k hb hlt).mono ?_
        rintro e w2 ⟨rfl, hb2⟩
        rw [HPK.out]
        have hb4 := hb.trans (hb2.mono hb.size)
        go_wp2
        go_roundw
        case rel => exact ⟨k + 1, q, by omega, by go_num, rfl, by omega, hn, hb4⟩
        case measure => simp [intOf]; omega
      · have hn : Hid (q + 1 = Kk.cn pr (k + 1)) := by show _ = _; simp only [Kk.cn]; rw [hp, hq.out]; rfl
        have HPK := Lib.hid ((HP.out k).trans hp)
        clear hp hq
        go_wp2_with fail
        refine (HC.out _ k hb hlt).mono ?_
        rintro e w2 ⟨rfl, hb2⟩
        rw [HPK.out]
        have hb4 := hb.trans (hb2.mono hb.size)
        go_wp2
        go_roundw
        case rel => exact ⟨k + 1, q + 1, by omega, by go_num, by go_num, by omega, hn, hb4⟩
        case measure => simp [intOf]; omega
    · obtain rfl : k = n := by omega
      go_wp2
      go_ret
      exact ⟨by rw [← hq.out]; rfl, hb⟩

theorem kc_map {n : Nat} {ys : List Nat} : Kk.cn (Kk.kingN (ww (ys.map Int.ofNat)) n) n = kc n ys := by rw [ww_map]; rfl
theorem cn_le_k (p : Nat → Bool) : ∀ k, Kk.cn p k ≤ k
  | 0 => Nat.le_refl _
  | k + 1 => by
    have := cn_le_k p k
    simp only [Kk.cn]
    split <;> omega

set_option maxHeartbeats 2000000 in
theorem code1_any (n k c p q : Nat) (W : World) (hp : Boxed W p 3 (.int .i64 (n : Int))) (hq : Boxed W q 3 (.int .i64 (k : Int))) (h1 : 1 ≤ n) (h5 : n ≤ 5) (hc : c < 2 ^ Tmpm.prN n) (hc2 : c < 2 ^ 40) :
    Calls Try.prog 85 #[.int .i64 (c : Int), .pointer (some ⟨p, 0, none⟩), .pointer (some ⟨q, 0, none⟩)] W fun e W' => e = .returned (.bool (kc n (tourP n c) == k)) ∧ Below W.heap.size W W' := by
  have hok := tourP_ok h1 h5 hc
  have HT : Hid (∀ W, Calls Try.prog 87 #[.int .i64 (c : Int), .int .i64 (n : Int)] W fun e w' => (∃ g, e = .returned (.agg #[.int .i64 (n : Int), .slice (some ⟨g, 0, none⟩) n n]) ∧ IntRow w' (some ⟨g, 0, none⟩) ((tourP n c).map Int.ofNat)) ∧ Below W.heap.size W w') := fun W => tourOf_any n c W (by omega) hc2
  obtain ⟨z, hz⟩ : ∃ z, z = kc n (tourP n c) := ⟨_, rfl⟩
  have HK : Hid (∀ (g : Nat) (W : World), IntRow W (some ⟨g, 0, none⟩) ((tourP n c).map Int.ofNat) → Calls Try.prog 86 #[.int .i64 (n : Int), .func (.func 69) #[.agg #[.int .i64 (n : Int), .slice (some ⟨g, 0, none⟩) n n]] #[]] W fun e w' => e = .returned (.int .i64 (z : Int)) ∧ Below W.heap.size W w') := by
    intro g W hr
    have := countKing_any (some ⟨g, 0, none⟩) _ n n W hr hok
    rw [kc_map, ← hz] at this
    exact this
  have HE : Hid (((z : Int) == (k : Int)) = (z == k)) := by show _ = _; rw [Bool.eq_iff_iff, beq_iff_eq, beq_iff_eq]; omega
  rw [← hz]
  have hpl := hp.lt
  have hql := hq.lt
  have HP := Lib.hid hp
  have HQ := Lib.hid hq
  have cp := hp.cell
  have cq := hq.cell
  clear hok hz hp hq hpl hql
  go_enter Try.func85, Try.ntmps85
  go_wp2
  go_region_with (first
    | (go_at_call 87; refine (HT.out W.drew).mono ?_; rintro e w2 ⟨⟨g, rfl, hr2⟩, hbq⟩; have hb2 : Below W.heap.size W w2 := (Below.refl _ W).drew.trans hbq; have d2 := (HP.out.kept (grown_of_below hb2) (by simp)).cell; have d3 := (HQ.out.kept (grown_of_below hb2) (by simp)).cell; clear hbq)
    | (go_at_call 86; refine (HK.out g w2 hr2).mono ?_; rintro e w3 ⟨rfl, hb3⟩; have e3 := ((HQ.out.kept (grown_of_below hb2) (by simp)).kept (grown_of_below hb3) (by simp)).cell))
  all_goals
    go_wp2
    go_ret
    exact ⟨by rw [← HE.out]; rfl, hb2.trans (hb3.mono hb2.size)⟩

set_option maxHeartbeats 1000000 in
theorem countCode_any (n k p q : Nat) (w : World) (hp : Boxed w p 3 (.int .i64 (n : Int))) (hq : Boxed w q 3 (.int .i64 (k : Int))) (h1 : 1 ≤ n) (h5 : n ≤ 5) :
    Calls Try.prog 83 #[.int .i64 ((2 ^ Tmpm.prN n : Nat) : Int), .func (.func 85) #[] #[.pointer (some ⟨p, 0, none⟩), .pointer (some ⟨q, 0, none⟩)]] w fun e w' => e = .returned (.int .i64 ((cntK tourP n k : Nat) : Int)) ∧ Below w.heap.size w w' := by
  obtain ⟨P, hP⟩ : ∃ P, P = 2 ^ Tmpm.prN n := ⟨_, rfl⟩
  have hP10 : P ≤ 1024 := by
    rw [hP]
    have : ∀ m : Fin 6, 2 ^ Tmpm.prN m.val ≤ 1024 := by decide +kernel
    exact this ⟨n, by omega⟩
  have HC : Hid (∀ W c, Below w.heap.size w W → c < P → Calls Try.prog 85 #[.int .i64 (c : Int), .pointer (some ⟨p, 0, none⟩), .pointer (some ⟨q, 0, none⟩)] W fun e W' => e = .returned (.bool (kc n (tourP n c) == k)) ∧ Below W.heap.size W W') := by
    intro W c hb hc
    exact code1_any n k c p q W (hp.kept (grown_of_below hb) (by simp)) (hq.kept (grown_of_below hb) (by simp)) h1 h5 (by rw [← hP]; exact hc) (by omega)
  obtain ⟨pr, hpr⟩ : ∃ pr : Nat → Bool, pr = fun c => kc n (tourP n c) == k := ⟨_, rfl⟩
  have HP : Hid (∀ c, (kc n (tourP n c) == k) = pr c) := fun c => by rw [hpr]
  have HR : Hid (cntK tourP n k = Kk.cn pr P) := by show _ = _; rw [hpr, hP]; rfl
  rw [← hP, HR.out]
  clear hp hq hpr hP HR
  go_enter Try.func83, Try.ntmps83
  go_wp2
  go_loopw [5, 8] (fun c i wr => ∃ k q : Nat, k ≤ P ∧ i = .int .i64 (k : Int) ∧ c = .int .i64 (q : Int) ∧ q ≤ k ∧ Hid (q = Kk.cn pr k) ∧ Below w.heap.size w wr) (fun _ i _ => P - (intOf i).toNat)
  case atStart => exact ⟨0, 0, Nat.zero_le _, rfl, rfl, Nat.le_refl _, rfl, Below.refl _ _⟩
  case round =>
    obtain ⟨k, q, hk, rfl, rfl, hqk, hq, hb⟩ := hrel
    by_cases hlt : k < P
    · have hkb : (k : Int) < (P : Int) := by omega
      cases hp : pr k
      · have hn : Hid (q = Kk.cn pr (k + 1)) := by show _ = _; simp only [Kk.cn]; rw [hp, hq.out]; rfl
        have HPK := Lib.hid ((HP.out k).trans hp)
        clear hp hq
        go_wp2_with fail
        refine (HC.out _ k hb hlt).mono ?_
        rintro e w2 ⟨rfl, hb2⟩
        rw [HPK.out]
        have hb4 := hb.trans (hb2.mono hb.size)
        go_wp2
        go_roundw
        case rel => exact ⟨k + 1, q, by omega, by go_num, rfl, by omega, hn, hb4⟩
        case measure => simp [intOf]; omega
      · have hn : Hid (q + 1 = Kk.cn pr (k + 1)) := by show _ = _; simp only [Kk.cn]; rw [hp, hq.out]; rfl
        have HPK := Lib.hid ((HP.out k).trans hp)
        clear hp hq
        go_wp2_with fail
        refine (HC.out _ k hb hlt).mono ?_
        rintro e w2 ⟨rfl, hb2⟩
        rw [HPK.out]
        have hb4 := hb.trans (hb2.mono hb.size)
        go_wp2
        go_roundw
        case rel => exact ⟨k + 1, q + 1, by omega, by go_num, by go_num, by omega, hn, hb4⟩
        case measure => simp [intOf]; omega
    · obtain rfl : k = P := by omega
      go_wp2
      go_ret
      exact ⟨by rw [← hq.out]; rfl, hb⟩

/-- What both 'CountKings' answer. -/
def cntR (n k : Int) : Int := if decide (1 ≤ n) && decide (n ≤ 5) && (decide (0 ≤ k) && decide (k ≤ n)) then ((cntK tourL n.toNat k.toNat : Nat) : Int) else -1
theorem cntR_yes {n k : Nat} (h1 : 1 ≤ n) (h5 : n ≤ 5) (hk : k ≤ n) : cntR n k = ((cntK tourL n k : Nat) : Int) := by
  unfold cntR
  rw [if_pos (by simp; omega)]; rfl
theorem cntR_no {n k : Int} (h : ¬ (1 ≤ n ∧ n ≤ 5 ∧ 0 ≤ k ∧ k ≤ n)) : cntR n k = -1 := by
  unfold cntR
  rw [if_neg (by simp only [Bool.and_eq_true, decide_eq_true_eq]; omega)]
theorem wrapPow10 (p : Nat) (h : p ≤ 10) : wrap64 (2 ^ p) = ((2 ^ p : Nat) : Int) ∧ IntKind.i64.wrap (2 ^ p) = ((2 ^ p : Nat) : Int) := by
  have : ∀ k : Fin 11, wrap64 (2 ^ k.val) = ((2 ^ k.val : Nat) : Int) ∧ IntKind.i64.wrap (2 ^ k.val) = ((2 ^ k.val : Nat) : Int) := by decide +kernel
  exact this ⟨p, by omega⟩
theorem prN_le {n : Nat} (h : n ≤ 5) : Tmpm.prN n ≤ 10 := by
  have : ∀ m : Fin 6, Tmpm.prN m.val ≤ 10 := by decide +kernel
  exact this ⟨n, by omega⟩

set_option maxHeartbeats 1000000 in
theorem implCountKings (n k : Int) (w : World) :
    Calls Try.prog 40 #[.int .i64 n, .int .i64 k] w fun e w' => e = .returned (.int .i64 (cntR n k)) ∧ Below w.heap.size w w' := by
  obtain ⟨W1, hW1⟩ : ∃ W1, W1 = w.alloc (.cells #[.int .i64 n] 3) := ⟨_, rfl⟩
  obtain ⟨W2, hW2⟩ : ∃ W2, W2 = W1.alloc (.cells #[.int .i64 k] 3) := ⟨_, rfl⟩
  have s1 : W1.heap.size = w.heap.size + 1 := by rw [hW1]; simp
  have b1 : Below w.heap.size w W1 := by rw [hW1]; exact (Below.refl _ _).alloc (Nat.le_refl _) _
  have b2 : Below w.heap.size w W2 := by rw [hW2]; exact b1.alloc b1.size _
  have x1 : Boxed W1 w.heap.size 3 (.int .i64 n) := by rw [hW1]; exact Boxed.new _ _ _
  have g2 : W1.grownBy W2 none := by rw [hW2]; exact World.grownBy_alloc _ _ _
  have x2 : Boxed W2 w.heap.size 3 (.int .i64 n) := x1.kept g2 (by simp)
  have y2 : Boxed W2 (w.heap.size + 1) 3 (.int .i64 k) := by rw [hW2, ← s1]; exact Boxed.new _ _ _
  have HW : Hid (W2 = (w.alloc (.cells #[.int .i64 n] 3)).alloc (.cells #[.int .i64 k] 3)) := by rw [hW2, hW1]; exact rfl
  have c0 := x2.cell
  have c1 := y2.cell
  have B2 := Lib.hid b2
  clear hW1 hW2 s1 b1 b2 x1 g2
  cases hz : isz n
  · have HE : Hid (cntR n k = -1) := cntR_no (by intro h; simp [isz] at hz; omega)
    have HS := Lib.hid hz
    clear hz x2 y2
    go_enter Try.func40, Try.ntmps40
    go_wp2_with fail
    rw [← HW.out]
    refine (isSize_any n _).mono ?_
    rintro e w' ⟨rfl, rfl⟩
    rw [HS.out]
    go_wp2
    go_ret
    exact ⟨by rw [HE.out]; rfl, B2.out⟩
  have HS := Lib.hid hz
  have hz2 : 1 ≤ n ∧ n ≤ 8 := by simpa [isz] using hz
  obtain ⟨m, rfl⟩ : ∃ m : Nat, n = m := ⟨n.toNat, by omega⟩
  by_cases h5 : (m : Int) ≤ 5
  · by_cases hk0 : k < 0
    · have HE : Hid (cntR m k = -1) := cntR_no (by intro h; omega)
      have h5' : ¬ (5 : Int) < (m : Int) := by omega
      clear hz x2 y2 hz2
      go_enter Try.func40, Try.ntmps40
      go_wp2_with fail
      rw [← HW.out]
      refine (isSize_any _ _).mono ?_
      rintro e w' ⟨rfl, rfl⟩
      rw [HS.out]
      go_wp2
      go_ret
      exact ⟨by rw [HE.out]; rfl, B2.out⟩
    · obtain ⟨j, rfl⟩ : ∃ j : Nat, k = j := ⟨k.toNat, by omega⟩
      have h5' : ¬ (5 : Int) < (m : Int) := by omega
      by_cases hkn : (m : Int) < (j : Int)
      · have HE : Hid (cntR m j = -1) := cntR_no (by intro h; omega)
        clear hz x2 y2 hz2
        go_enter Try.func40, Try.ntmps40
        go_wp2_with fail
        rw [← HW.out]
        refine (isSize_any _ _).mono ?_
        rintro e w' ⟨rfl, rfl⟩
        rw [HS.out]
        go_wp2
        go_ret
        exact ⟨by rw [HE.out]; rfl, B2.out⟩
      · have hm5 : m ≤ 5 := by omega
        have hm1 : 1 ≤ m := by omega
        have hjm : j ≤ m := by omega
        have HE : Hid (cntR m j = ((cntK tourP m j : Nat) : Int)) := by show _ = _; rw [cntR_yes hm1 hm5 hjm, cnt_same hm5 hjm]
        have hc := countCode_any m j w.heap.size (w.heap.size + 1) W2 x2 y2 hm1 hm5
        obtain ⟨P, hP⟩ : ∃ P, P = 2 ^ Tmpm.prN m := ⟨_, rfl⟩
        rw [← hP] at hc
        have hw := (wrapPow10 _ (prN_le hm5)).1
        rw [← hP] at hw
        have HC := Lib.hid hc
        have HPR := Lib.hid (pairsOf_any m W2 (by omega))
        obtain ⟨pn, hpn⟩ : ∃ pn, pn = Tmpm.prN m := ⟨_, rfl⟩
        have hpn10 : pn ≤ 10 := by rw [hpn]; exact prN_le hm5
        rw [← hpn] at HPR hw
        have hw2 : IntKind.i64.wrap (2 ^ pn) = (P : Int) := hw ▸ (by have := (wrapPow10 pn hpn10); rw [this.1, this.2])
        clear hz x2 y2 hz2 hc hP hpn
        go_enter Try.func40, Try.ntmps40
        go_wp2_with fail
        rw [← HW.out]
        refine (isSize_any _ _).mono ?_
        rintro e w' ⟨rfl, rfl⟩
        rw [HS.out]
        go_wp2_with fail
        refine HPR.out.mono ?_
        rintro e w' ⟨rfl, rfl⟩
        go_wp2_with fail
        refine HC.out.mono ?_
        rintro e w4 ⟨rfl, hb4⟩
        go_wp2
        go_ret
        exact ⟨by rw [HE.out]; rfl, B2.out.trans (hb4.mono B2.out.size)⟩
  · have HE : Hid (cntR m k = -1) := cntR_no (by intro h; omega)
    have h5' : (5 : Int) < (m : Int) := by omega
    clear hz x2 y2 hz2
    go_enter Try.func40, Try.ntmps40
    go_wp2_with fail
    rw [← HW.out]
    refine (isSize_any _ _).mono ?_
    rintro e w' ⟨rfl, rfl⟩
    rw [HS.out]
    go_wp2
    go_ret
    exact ⟨by rw [HE.out]; rfl, B2.out⟩
end Go.Proofs.Ytgjogbihadiojaa
