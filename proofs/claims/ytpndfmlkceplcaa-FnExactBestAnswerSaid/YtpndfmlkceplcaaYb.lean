/-
  'areWeights', 'slices.Max', both 'StrategyOk'. No conditions but the bounds that Go gives a slice.
-/
import Derived.Test.YtpndfmlkceplcaaYa
import Derived.Test.YtpndfmlkceplcaaD
namespace Go.Proofs.Ytpndfmlkceplcaa
open Go.ChangeShapes Go.WideShapes Go.ChangeAt Go.RowKit
set_option linter.unusedVariables false

theorem areW1 (x : Int) (w : World) : Calls Try.prog 142 #[.int .i64 x] w fun e w' => e = .returned (.bool (!wOk x)) ∧ w = w' := by
  by_cases h0 : x < 0
  · have HE : Hid ((!wOk x) = true) := by
      show _ = _
      have : ¬ (0 ≤ x) := by omega
      simp [wOk, this]
    go_enter Try.func142, Try.ntmps142
    go_wp2
    go_ret
    exact ⟨by rw [HE.out]; rfl, rfl⟩
  · have HE : Hid ((!wOk x) = decide (100000 < x)) := by
      show _ = _
      have : 0 ≤ x := by omega
      unfold wOk
      rw [decide_eq_true this, Bool.true_and]
      by_cases c : x ≤ 100000
      · rw [decide_eq_true c, decide_eq_false (by omega)]; rfl
      · rw [decide_eq_false c, decide_eq_true (by omega)]; rfl
    go_enter Try.func142, Try.ntmps142
    go_wp2
    go_ret
    exact ⟨by rw [HE.out]; first | rfl | simp, rfl⟩

def badW (l : List Int) : Bool := l.any fun x => !wOk x
theorem badW_not (l : List Int) : (!badW l) = l.all wOk := by
  unfold badW
  induction l with
  | nil => rfl
  | cons x l ih => rw [List.any_cons, List.all_cons, ← ih]; cases wOk x <;> simp
def IdxW (l : List Int) (w : World) (e : Ending) (w2 : World) : Prop := (∃ k : Int, e = .returned (.int .i64 k) ∧ decide (0 ≤ k) = badW l) ∧ w = w2
theorem IdxW.no {l : List Int} {w : World} (h : ∀ j, j < l.length → wOk (l.getD j 0) = true) : IdxW l w (.returned (.int .i64 (-1))) w := by
  refine ⟨⟨-1, rfl, ?_⟩, rfl⟩
  have : badW l = false := by
    unfold badW
    rw [List.any_eq_false]
    intro s hs
    obtain ⟨j, hj, e⟩ := List.mem_iff_getElem.1 hs
    have := h j hj
    rw [List.getD_eq_getElem?_getD, List.getElem?_eq_getElem hj] at this
    rw [← e]
    have h2 : wOk l[j] = true := this
    simp [h2]
  rw [this]; rfl
theorem IdxW.yes {l : List Int} {w : World} {k : Nat} (hk : k < l.length) (h : wOk (l.getD k 0) = false) : IdxW l w (.returned (.int .i64 (k : Int))) w := by
  refine ⟨⟨k, rfl, ?_⟩, rfl⟩
  have : badW l = true := by
    unfold badW
    rw [List.any_eq_true]
    refine ⟨l[k], List.getElem_mem hk, ?_⟩
    rw [List.getD_eq_getElem?_getD, List.getElem?_eq_getElem hk] at h
    have h2 : wOk l[k] = false := h
    simp [h2]
  rw [this]; simp
set_option maxHeartbeats 1000000 in
theorem indexW_any (a : Option Addr) (l : List Int) (cap : Nat) (w : World) (hrow : IntRow w a l) (hl : l.length ≤ maxLen) :
    Calls Try.prog 128 #[.slice a l.length cap, .func (.func 142) #[] #[]] w (IdxW l w) := by
  have HR := Lib.hid hrow
  have HC := Lib.hid (fun (x : Int) => areW1 x w)
  unfold maxLen at hl
  clear hrow
  go_enter Try.func128, Try.ntmps128
  go_wp2
  go_loop [8] (fun i => ∃ k : Nat, k ≤ l.length ∧ i = .int .i64 k ∧ ∀ j, j < k → wOk (l.getD j 0) = true) (fun i => l.length - (intOf i).toNat)
  case atStart => exact ⟨0, Nat.zero_le _, rfl, fun j h => absurd h (by omega)⟩
  case round =>
    obtain ⟨k, hk, rfl, hno⟩ := hrel
    have HN := Lib.hid hno
    clear hno
    by_cases hlt : k < l.length
    · obtain ⟨b, off, rfl, hb, hc⟩ := HR.out.at hlt
      obtain ⟨y, hy⟩ : ∃ y, y = l.getD k 0 := ⟨_, rfl⟩
      rw [← hy] at hc
      have HY := Lib.hid hy
      have hkb : (k : Int) < (l.length : Int) := by omega
      clear hy
      obtain ⟨q, hq⟩ : ∃ q, q = wOk y := ⟨_, rfl⟩
      have HQ := Lib.hid hq
      clear hq
      cases q
      · go_wp2_with fail
        refine (HC.out y).mono ?_
        rintro e w2 ⟨rfl, rfl⟩
        rw [← HQ.out]
        go_wp2
        go_ret
        exact IdxW.yes hlt (by rw [← HY.out]; exact HQ.out.symm)
      · go_wp2_with fail
        refine (HC.out y).mono ?_
        rintro e w2 ⟨rfl, rfl⟩
        rw [← HQ.out]
        go_wp2
        go_round
        case rel =>
          refine ⟨k + 1, by omega, by go_num, fun j hj => ?_⟩
          rcases Nat.lt_or_ge j k with h | h
          · exact HN.out j h
          · obtain rfl : j = k := by omega
            rw [← HY.out]; exact HQ.out.symm
        case measure => simp [intOf]; omega
    · obtain rfl : k = l.length := by omega
      go_wp2
      go_ret
      exact IdxW.no HN.out
theorem containsW_any (a : Option Addr) (l : List Int) (cap : Nat) (w : World) (hrow : IntRow w a l) (hl : l.length ≤ maxLen) :
    Calls Try.prog 141 #[.slice a l.length cap, .func (.func 142) #[] #[]] w fun e w' => e = .returned (.bool (badW l)) ∧ w = w' := by
  have H := Lib.hid (indexW_any a l cap w hrow hl)
  clear hrow hl
  go_enter Try.func141, Try.ntmps141
  go_wp2_with fail
  refine H.out.mono ?_
  rintro e w' ⟨⟨k, rfl, hk⟩, rfl⟩
  have HK := Lib.hid hk
  clear hk
  go_wp2
  go_ret
  exact ⟨by rw [HK.out]; rfl, rfl⟩
theorem areWeights_any (a : Option Addr) (l : List Int) (cap : Nat) (w : World) (hrow : IntRow w a l) (hl : l.length ≤ maxLen) :
    Calls Try.prog 82 #[.slice a l.length cap] w fun e w' => e = .returned (.bool (l.all wOk)) ∧ w = w' := by
  have H := Lib.hid (containsW_any a l cap w hrow hl)
  have HE : Hid ((!badW l) = l.all wOk) := badW_not l
  clear hrow hl
  go_enter Try.func82, Try.ntmps82
  go_wp2_with fail
  refine H.out.mono ?_
  rintro e w' ⟨rfl, rfl⟩
  go_wp2
  go_ret
  exact ⟨by rw [HE.out]; rfl, rfl⟩

theorem max_anyY (a : Option Addr) (cap : Nat) (l : List Int) (w : World) (h0 : 0 < l.length) (hl : l.length ≤ 1048576) (hrow : IntRow w a l) :
    Calls Try.prog 83 #[.slice a l.length cap] w fun e w' => e = .returned (.int .i64 (Lib.maxOf l)) ∧ w = w' := by
  rcases hrow with hn | ⟨b, off, rfl, _, hc⟩
  · subst hn; simp at h0
  have h := Try.slices_Max_int b off l.length cap l w h0 (Nat.le_refl _) (by omega) hc
  rw [List.take_length] at h
  exact h.mono fun e w' ⟨he, hw⟩ => ⟨he, hw.symm⟩
theorem min_anyY (a : Option Addr) (cap : Nat) (l : List Int) (w : World) (h0 : 0 < l.length) (hl : l.length ≤ 1048576) (hrow : IntRow w a l) :
    Calls Try.prog 88 #[.slice a l.length cap] w fun e w' => e = .returned (.int .i64 (Lib.minOf l)) ∧ w = w' := by
  rcases hrow with hn | ⟨b, off, rfl, _, hc⟩
  · subst hn; simp at h0
  have h := Try.slices_Min_int b off l.length cap l w h0 (Nat.le_refl _) (by omega) hc
  rw [List.take_length] at h
  exact h.mono fun e w' ⟨he, hw⟩ => ⟨he, hw.symm⟩
theorem foldMin_geY (zs : List Int) : ∀ (z m : Int), m ≤ zs.foldl min z ↔ m ≤ z ∧ ∀ y ∈ zs, m ≤ y := by
  induction zs with
  | nil => intro z m; simp
  | cons x zs ih =>
    intro z m
    rw [List.foldl_cons, ih, Int.le_min, and_assoc]; simp only [List.mem_cons, forall_eq_or_imp]
theorem foldMax_leY (zs : List Int) : ∀ (z m : Int), zs.foldl max z ≤ m ↔ z ≤ m ∧ ∀ y ∈ zs, y ≤ m := by
  induction zs with
  | nil => intro z m; simp
  | cons x zs ih =>
    intro z m
    rw [List.foldl_cons, ih, Int.max_le, and_assoc]; simp only [List.mem_cons, forall_eq_or_imp]

set_option maxHeartbeats 1000000 in
theorem implStrategyOk (n : Int) (a : Option Addr) (l : List Int) (cap : Nat) (an : Option Addr) (ns : List Int) (cn : Nat) (w : World) (hrow : IntRow w a l) (hl : l.length ≤ maxLen) (hrn : IntRow w an ns) (hn : ns.length ≤ maxLen) :
    Calls Try.prog 16 #[.agg #[.int .i64 n, .slice a l.length cap], .slice an ns.length cn] w fun e w' => e = .returned (.bool (stB n l ns)) ∧ Below w.heap.size w w' := by
  obtain ⟨Wa, hWa⟩ : ∃ Wa, Wa = w.alloc (.cells #[.int .i64 n, .slice a l.length cap] 27) := ⟨_, rfl⟩
  have HWa := Lib.hid hWa
  have hba : Below w.heap.size w Wa := by rw [hWa]; exact (Below.refl _ _).alloc (Nat.le_refl _) _
  have xa : Box Wa w.heap.size 27 (.int .i64 n) (.slice a l.length cap) := by rw [hWa]; exact Box.new _ _ _ _
  have HC := Lib.hid (implTourOk n a l cap Wa (hrow.below hba (Nat.le_refl _)) hl)
  have XA := Lib.hid xa
  have BA := Lib.hid hba
  have RN := Lib.hid (hrn.below hba (Nat.le_refl _))
  have HN := Lib.hid hn
  unfold maxLen at hn
  have c0 := xa.c0
  have c1 := xa.c1
  clear hl hrow hrn hWa xa hba
  cases hok : okB n l
  · have HO := Lib.hid hok
    have HE : Hid (stB n l ns = false) := by show _ = _; unfold stB; rw [hok]; rfl
    clear hok
    go_enter Try.func16, Try.ntmps16
    go_wp2_with fail
    rw [← HWa.out]
    refine HC.out.mono ?_
    rintro e w1 ⟨rfl, hb1⟩
    rw [HO.out]
    go_wp2
    go_ret
    exact ⟨by rw [HE.out]; rfl, BA.out.trans (hb1.mono BA.out.size)⟩
  · have HO := Lib.hid hok
    have hk := okB_iff.1 hok
    obtain rfl : n = (l.length : Int) := hk.2.2.1.symm
    have h8 : l.length ≤ 8 := by have := hk.2.1; omega
    have h1 : 1 ≤ l.length := by have := hk.1; omega
    clear hk
    by_cases hlen : ns.length = l.length
    · have HLn := Lib.hid hlen
      have hRN := RN.out
      have hAW := fun (W : World) (h : IntRow W an ns) => areWeights_any an ns cn W h HN.out
      have hMX := fun (W : World) (h : IntRow W an ns) => max_anyY an cn ns W (by omega) (by omega) h
      rw [hlen] at hAW hMX ⊢
      have HAW := Lib.hid hAW
      have HMX := Lib.hid hMX
      cases hall : ns.all wOk
      · have HE : Hid (stB l.length l ns = false) := by show _ = _; unfold stB; rw [hok, hall]; simp
        have HA := Lib.hid hall
        clear hok hall hlen hAW hMX hRN
        go_enter Try.func16, Try.ntmps16
        go_wp2_with fail
        rw [← HWa.out]
        refine HC.out.mono ?_
        rintro e w1 ⟨rfl, hb1⟩
        rw [HO.out]
        have xa1 := XA.out.below hb1 XA.out.lt
        clear c0 c1
        have c0 := xa1.c0
        have c1 := xa1.c1
        have R1 := Lib.hid (RN.out.below hb1 (Nat.le_refl _))
        have B1 := Lib.hid (BA.out.trans (hb1.mono BA.out.size))
        clear xa1 hb1
        go_wp2_with fail
        refine (HAW.out w1 R1.out).mono ?_
        rintro e w2 ⟨rfl, rfl⟩
        rw [HA.out]
        go_wp2
        go_ret
        exact ⟨by rw [HE.out]; rfl, B1.out⟩
      · have HE : Hid (stB l.length l ns = decide (0 < Lib.maxOf ns)) := by
          show _ = _
          unfold stB
          rw [hok, hall, decide_eq_true hlen, Bool.true_and, Bool.true_and, Bool.true_and, Bool.eq_iff_iff, any_pos, decide_eq_true_eq]
          have hm : ∀ m, Lib.maxOf ns ≤ m ↔ ∀ y ∈ ns, y ≤ m := by
            intro m
            cases ns with
            | nil => simp at hlen; omega
            | cons z zs =>
              unfold Lib.maxOf
              first
                | (rw [foldMax_leY]; simp)
                | (simp only [foldMax_leY]; simp)
          constructor
          · rintro ⟨i, hi, hp⟩
            rcases Int.lt_or_le 0 (Lib.maxOf ns) with c | c
            · exact c
            · have := (hm 0).1 c (ns.getD i 0) (by rw [List.getD_eq_getElem?_getD, List.getElem?_eq_getElem hi]; exact List.getElem_mem hi)
              omega
          · intro hp
            refine Classical.byContradiction fun hno => ?_
            have := (hm 0).2 (fun y hy => by
              obtain ⟨i, hi, rfl⟩ := List.mem_iff_getElem.1 hy
              refine Int.not_lt.1 fun c => hno ⟨i, hi, ?_⟩
              rw [List.getD_eq_getElem?_getD, List.getElem?_eq_getElem hi]; exact c)
            omega
        have HA := Lib.hid hall
        obtain ⟨M, hM⟩ : ∃ M, M = Lib.maxOf ns := ⟨_, rfl⟩
        have HM := Lib.hid hM
        clear hok hall hlen hAW hMX hRN hM
        go_enter Try.func16, Try.ntmps16
        go_wp2_with fail
        rw [← HWa.out]
        refine HC.out.mono ?_
        rintro e w1 ⟨rfl, hb1⟩
        rw [HO.out]
        have xa1 := XA.out.below hb1 XA.out.lt
        clear c0 c1
        have c0 := xa1.c0
        have c1 := xa1.c1
        have R1 := Lib.hid (RN.out.below hb1 (Nat.le_refl _))
        have B1 := Lib.hid (BA.out.trans (hb1.mono BA.out.size))
        clear xa1 hb1
        go_wp2_with fail
        refine (HAW.out w1 R1.out).mono ?_
        rintro e w2 ⟨rfl, rfl⟩
        rw [HA.out]
        go_wp2_with fail
        refine (HMX.out w1 R1.out).mono ?_
        rintro e w3 ⟨rfl, rfl⟩
        rw [← HM.out]
        go_wp2
        go_ret
        exact ⟨by rw [HE.out, ← HM.out]; first | rfl | simp, B1.out⟩
    · have HE : Hid (stB l.length l ns = false) := by show _ = _; unfold stB; rw [hok, decide_eq_false hlen]; rfl
      have hne : ((ns.length : Int) == (l.length : Int)) = false := by simpa using fun h => hlen (by omega)
      clear hok hlen
      go_enter Try.func16, Try.ntmps16
      go_wp2_with fail
      rw [← HWa.out]
      refine HC.out.mono ?_
      rintro e w1 ⟨rfl, hb1⟩
      rw [HO.out]
      have xa1 := XA.out.below hb1 XA.out.lt
      clear c0 c1
      have c0 := xa1.c0
      have c1 := xa1.c1
      have B1 := Lib.hid (BA.out.trans (hb1.mono BA.out.size))
      clear xa1 hb1
      go_wp2
      go_ret
      exact ⟨by rw [HE.out]; rfl, B1.out⟩

set_option maxHeartbeats 1000000 in
theorem specStrategyOk (n : Int) (a : Option Addr) (l : List Int) (cap : Nat) (an : Option Addr) (ns : List Int) (cn : Nat) (w : World) (hrow : IntRow w a l) (hl : l.length ≤ maxLen) (hrn : IntRow w an ns) (hn : ns.length ≤ maxLen) :
    Calls Try.prog 13 #[.agg #[.int .i64 n, .slice a l.length cap], .slice an ns.length cn] w fun e w' => e = .returned (.bool (stB n l ns)) ∧ Below w.heap.size w w' := by
  obtain ⟨Wa, hWa⟩ : ∃ Wa, Wa = w.alloc (.cells #[.int .i64 n, .slice a l.length cap] 27) := ⟨_, rfl⟩
  have HWa := Lib.hid hWa
  have hba : Below w.heap.size w Wa := by rw [hWa]; exact (Below.refl _ _).alloc (Nat.le_refl _) _
  have xa : Box Wa w.heap.size 27 (.int .i64 n) (.slice a l.length cap) := by rw [hWa]; exact Box.new _ _ _ _
  have HC := Lib.hid (specTourOk n a l cap Wa (hrow.below hba (Nat.le_refl _)) hl)
  have XA := Lib.hid xa
  have BA := Lib.hid hba
  have RN := Lib.hid (hrn.below hba (Nat.le_refl _))
  unfold maxLen at hn
  have c0 := xa.c0
  have c1 := xa.c1
  clear hl hrow hrn hWa xa hba
  cases hok : okB n l
  · have HO := Lib.hid hok
    have HE : Hid (stB n l ns = false) := by show _ = _; unfold stB; rw [hok]; rfl
    clear hok
    go_enter Try.func13, Try.ntmps13
    go_wp2_with fail
    rw [← HWa.out]
    refine HC.out.mono ?_
    rintro e w1 ⟨rfl, hb1⟩
    rw [HO.out]
    go_wp2
    go_ret
    exact ⟨by rw [HE.out]; rfl, BA.out.trans (hb1.mono BA.out.size)⟩
  · have HO := Lib.hid hok
    have hk := okB_iff.1 hok
    obtain rfl : n = (l.length : Int) := hk.2.2.1.symm
    have h8 : l.length ≤ 8 := by have := hk.2.1; omega
    have h1 : 1 ≤ l.length := by have := hk.1; omega
    clear hk
    by_cases hlen : ns.length = l.length
    · have HLn := Lib.hid hlen
      have HEb : Hid (ns.all wOk = true → stB l.length l ns = decide (0 < sZ (fun i => ns.getD i 0) ns.length)) := by
        intro hall
        unfold stB
        rw [hok, hall, decide_eq_true hlen, Bool.true_and, Bool.true_and, Bool.true_and, sum_pos hall]
      have HEn : Hid (ns.all wOk = false → stB l.length l ns = false) := by
        intro hall
        unfold stB
        rw [hok, hall]; simp
      rw [hlen] at ⊢
      obtain ⟨m, hm⟩ : ∃ m, m = l.length := ⟨_, rfl⟩
      have HM := Lib.hid hm
      rw [← hm] at XA HWa HC c0 c1 h8 h1 HO HEb HEn ⊢
      clear hok hlen hm
      go_enter Try.func13, Try.ntmps13
      go_wp2_with fail
      rw [← HWa.out]
      refine HC.out.mono ?_
      rintro e w1 ⟨rfl, hb1⟩
      rw [HO.out]
      have xa1 := XA.out.below hb1 XA.out.lt
      clear c0 c1
      have c0 := xa1.c0
      have c1 := xa1.c1
      have R1 := Lib.hid (RN.out.below hb1 (Nat.le_refl _))
      have B1 := Lib.hid (BA.out.trans (hb1.mono BA.out.size))
      clear xa1 hb1
      go_wp2
      go_loop [5, 20] (fun s i => ∃ k : Nat, k ≤ m ∧ i = .int .i64 k ∧ s = .int .i64 (sZ (fun i => ns.getD i 0) k) ∧ Hid (∀ j, j < k → wOk (ns.getD j 0) = true)) (fun _ i => m - (intOf i).toNat)
      case atStart => exact ⟨0, Nat.zero_le _, rfl, rfl, fun j h => absurd h (by omega)⟩
      case round =>
        obtain ⟨k, hk, rfl, rfl, HN⟩ := hrel
        by_cases hlt : k < m
        · obtain ⟨b, off, rfl, hb, hc⟩ := R1.out.at (show k < ns.length by have := HLn.out; have := HM.out; omega)
          obtain ⟨y, hy⟩ : ∃ y, y = ns.getD k 0 := ⟨_, rfl⟩
          rw [← hy] at hc
          have HY := Lib.hid hy
          have hkb : (k : Int) < (m : Int) := by omega
          have hbd := sZ_le (fun i => ns.getD i 0) 100000 k (fun i hi => by have := wOk_iff.1 (HN.out i hi); omega)
          have HS : Hid (sZ (fun i => ns.getD i 0) (k + 1) = sZ (fun i => ns.getD i 0) k + y) := by show _ = _; rw [hy]; rfl
          obtain ⟨s, hs⟩ : ∃ s, s = sZ (fun i => ns.getD i 0) k := ⟨_, rfl⟩
          rw [← hs] at hbd HS ⊢
          clear hy hs
          cases hq : wOk y
          · have HQ : Hid (ns.all wOk = false) := by
              show _ = _
              refine Bool.eq_false_iff.2 fun hc => ?_
              have h2 := wOk_iff.2 (all_at hc k (by have := HLn.out; have := HM.out; omega))
              rw [← HY.out, hq] at h2
              exact absurd h2 (by decide)
            have HQ2 : Hid ((decide (0 ≤ y) && decide (y ≤ 100000)) = false) := hq
            clear hq hbd
            go_wp2_with fail
            refine (l01In_any y 0 100000 w1).mono ?_
            rintro e w2 ⟨rfl, rfl⟩
            rw [HQ2.out]
            go_wp2
            go_ret
            exact ⟨by rw [HEn.out HQ.out]; rfl, B1.out⟩
          · have HQ2 : Hid ((decide (0 ≤ y) && decide (y ≤ 100000)) = true) := hq
            have hyb := wOk_iff.1 hq
            have HQ := Lib.hid hq
            clear hq
            go_wp2_with fail
            refine (l01In_any y 0 100000 w1).mono ?_
            rintro e w2 ⟨rfl, rfl⟩
            rw [HQ2.out]
            go_wp2
            go_round
            case rel =>
              refine ⟨k + 1, by omega, by go_num, by rw [HS.out], fun j hj => ?_⟩
              rcases Nat.lt_or_ge j k with h | h
              · exact HN.out j h
              · obtain rfl : j = k := by omega
                rw [← HY.out]; exact HQ.out
            case measure => simp [intOf]; omega
        · obtain rfl : k = m := by omega
          have hall : ns.all wOk = true := by
            rw [List.all_eq_true]
            intro y hy
            obtain ⟨i, hi, rfl⟩ := List.mem_iff_getElem.1 hy
            have := HN.out i (by have := HLn.out; have := HM.out; omega)
            rw [List.getD_eq_getElem?_getD, List.getElem?_eq_getElem hi] at this
            exact this
          have HE := Lib.hid (HEb.out hall)
          have e : ns.length = k := by rw [HLn.out, HM.out]
          rw [e] at HE
          clear hall e
          go_wp2
          go_ret
          exact ⟨by rw [HE.out]; first | rfl | simp, B1.out⟩
    · have HE : Hid (stB l.length l ns = false) := by show _ = _; unfold stB; rw [hok, decide_eq_false hlen]; rfl
      have hne : ((ns.length : Int) == (l.length : Int)) = false := by simpa using fun h => hlen (by omega)
      have hne2 : ((ns.length : Int) != (l.length : Int)) = true := by unfold bne; rw [hne]; rfl
      clear hok hlen
      go_enter Try.func13, Try.ntmps13
      go_wp2_with fail
      rw [← HWa.out]
      refine HC.out.mono ?_
      rintro e w1 ⟨rfl, hb1⟩
      rw [HO.out]
      have xa1 := XA.out.below hb1 XA.out.lt
      clear c0 c1
      have c0 := xa1.c0
      have c1 := xa1.c1
      have B1 := Lib.hid (BA.out.trans (hb1.mono BA.out.size))
      clear xa1 hb1
      go_wp2
      go_ret
      exact ⟨by rw [HE.out]; rfl, B1.out⟩
end Go.Proofs.Ytpndfmlkceplcaa
