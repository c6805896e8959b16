/-
  'BalanceOf', 'IsSafe', 'BestAnswer' of the program. No conditions but the bounds that Go gives a slice.
-/
import Derived.Test.YtpndfmlkceplcaaYc
import Derived.Test.YtpndfmlkceplcaaE
namespace Go.Proofs.Ytpndfmlkceplcaa
open Go.ChangeShapes Go.WideShapes Go.ChangeAt Go.RowKit
set_option linter.unusedVariables false

theorem minOf_geY (zs : List Int) (h : zs ≠ []) (m : Int) : m ≤ Lib.minOf zs ↔ ∀ z ∈ zs, m ≤ z := by
  cases zs with
  | nil => exact absurd rfl h
  | cons z zs =>
    unfold Lib.minOf
    rw [foldMin_geY]
    simp
theorem minOf_memY (zs : List Int) (h : zs ≠ []) : Lib.minOf zs ∈ zs := by
  refine Classical.byContradiction fun hn => ?_
  have h1 := (minOf_geY zs h _).1 (Int.le_refl (Lib.minOf zs))
  have := (minOf_geY zs h (Lib.minOf zs + 1)).2 (fun z hz => by
    have a := h1 z hz
    have b : z ≠ Lib.minOf zs := fun e => hn (e ▸ hz)
    omega)
  omega
def balLst (l ns : List Int) : List Int := (List.range l.length).map (balZ l ns)
theorem balLst_len (l ns : List Int) : (balLst l ns).length = l.length := by simp [balLst]
theorem balLst_at (l ns : List Int) (i : Nat) (hi : i < l.length) : (balLst l ns).getD i 0 = balZ l ns i := by
  rw [List.getD_eq_getElem?_getD, List.getElem?_eq_getElem (by rw [balLst_len]; exact hi)]
  simp [balLst]
theorem bal_all (l ns : List Int) (h1 : 1 ≤ l.length) : decide (0 ≤ Lib.minOf (balLst l ns)) = (List.range l.length).all fun b => decide (0 ≤ balZ l ns b) := by
  rw [Bool.eq_iff_iff, decide_eq_true_eq, minOf_geY _ (fun e => by have := balLst_len l ns; rw [e] at this; simp at this; omega), List.all_eq_true]
  simp [balLst]
theorem own_intY {w : World} {B m c : Nat} {a : Option Addr} {L : List Int} (hm : L.length = m) (h : w.ownsRow B 3 1 (.slice a m c) m (L.map iv)) : IntRow w a L := by subst hm; exact own_int h

def IdxF (l : List Int) (x : Int) (w : World) (e : Ending) (w2 : World) : Prop := (∃ k : Nat, e = .returned (.int .i64 k) ∧ k < l.length ∧ l.getD k 0 = x ∧ ∀ j, j < k → l.getD j 0 ≠ x) ∧ w = w2
set_option maxHeartbeats 400000 in
theorem indexF_any (a : Option Addr) (l : List Int) (cap : Nat) (x : Int) (w : World) (hrow : IntRow w a l) (hl : l.length ≤ maxLen) (hx : x ∈ l) :
    Calls Try.prog 89 #[.slice a l.length cap, .int .i64 x] w (IdxF l x w) := by
  have HR := Lib.hid hrow
  have HX := Lib.hid hx
  clear hrow hx
  unfold maxLen at hl
  go_enter Try.func89, Try.ntmps89
  go_wp2
  go_loop [8] (fun i => ∃ k : Nat, k ≤ l.length ∧ i = .int .i64 k ∧ ∀ j, j < k → l.getD j 0 ≠ x) (fun i => l.length - (intOf i).toNat)
  case atStart => exact ⟨0, Nat.zero_le _, rfl, fun j h => absurd h (by omega)⟩
  case round =>
    obtain ⟨k, hk, rfl, hno⟩ := hrel
    have HN := Lib.hid hno
    clear hno
    by_cases hlt : k < l.length
    · obtain ⟨b, off, rfl, hb, hc⟩ := HR.out.at hlt
      obtain ⟨y, hy⟩ : ∃ y, y = l.getD k 0 := ⟨_, rfl⟩
      rw [← hy] at hc
      have HY := Lib.hid hy
      have hkb : (k : Int) < (l.length : Int) := by omega
      clear hy
      by_cases hxy : x = y
      · have hq : (x == y) = true := by simp [hxy]
        have HE := Lib.hid hxy
        clear hxy
        go_wp2
        go_ret
        exact ⟨⟨k, rfl, hlt, by rw [← HY.out, HE.out], HN.out⟩, rfl⟩
      · have hq : (x == y) = false := by simp [hxy]
        have HE : Hid (x ≠ y) := hxy
        clear hxy
        go_wp2
        go_round
        case rel =>
          refine ⟨k + 1, by omega, by go_num, fun j hj => ?_⟩
          rcases Nat.lt_or_ge j k with h | h
          · exact HN.out j h
          · obtain rfl : j = k := by omega
            rw [← HY.out]; exact fun e => HE.out e.symm
        case measure => simp [intOf]; omega
    · obtain rfl : k = l.length := by omega
      exfalso
      obtain ⟨i, hi, he⟩ := List.mem_iff_getElem.1 HX.out
      exact HN.out i hi (by rw [List.getD_eq_getElem?_getD, List.getElem?_eq_getElem hi]; exact he)

set_option maxHeartbeats 1000000 in
theorem implBalanceOf (n : Int) (a : Option Addr) (l : List Int) (cap : Nat) (an : Option Addr) (ns : List Int) (cn : Nat) (b : Int) (w : World) (hrow : IntRow w a l) (hl : l.length ≤ maxLen) (hrn : IntRow w an ns) (hn : ns.length ≤ maxLen) :
    Calls Try.prog 20 #[.agg #[.int .i64 n, .slice a l.length cap], .slice an ns.length cn, .int .i64 b] w fun e w' => e = .returned (.int .i64 (balR n l ns b)) ∧ Below w.heap.size w w' := by
  obtain ⟨Wa, hWa⟩ : ∃ Wa, Wa = w.alloc (.cells #[.int .i64 n, .slice a l.length cap] 27) := ⟨_, rfl⟩
  have HWa := Lib.hid hWa
  have hba : Below w.heap.size w Wa := by rw [hWa]; exact (Below.refl _ _).alloc (Nat.le_refl _) _
  have xa : Box Wa w.heap.size 27 (.int .i64 n) (.slice a l.length cap) := by rw [hWa]; exact Box.new _ _ _ _
  have HC := Lib.hid (implStrategyOk n a l cap an ns cn Wa (hrow.below hba (Nat.le_refl _)) hl (hrn.below hba (Nat.le_refl _)) hn)
  have XA := Lib.hid xa
  have BA := Lib.hid hba
  have RA := Lib.hid (hrow.below hba (Nat.le_refl _))
  have RN := Lib.hid (hrn.below hba (Nat.le_refl _))
  have c0 := xa.c0
  have c1 := xa.c1
  clear hl hrow hrn hWa xa hba hn
  cases hok : stB n l ns
  · have HO := Lib.hid hok
    have HE : Hid (balR n l ns b = 0) := by show _ = _; unfold balR; rw [if_neg]; simp [hok]
    clear hok
    go_enter Try.func20, Try.ntmps20
    go_wp2_with fail
    rw [← HWa.out]
    refine HC.out.mono ?_
    rintro e w1 ⟨rfl, hb1⟩
    rw [HO.out]
    go_wp2
    go_ret
    exact ⟨by rw [HE.out]; rfl, BA.out.trans (hb1.mono BA.out.size)⟩
  · have HO := Lib.hid hok
    have hk := okB_iff.1 (stB_ok hok).1
    have hlen := (stB_ok hok).2.1
    obtain rfl : n = (l.length : Int) := hk.2.2.1.symm
    have h8 : l.length ≤ 8 := by have := hk.2.1; omega
    have h1 : 1 ≤ l.length := by have := hk.1; omega
    have HBal : Hid (∀ (W : World), Below Wa.heap.size Wa W → Calls Try.prog 86 #[.agg #[.int .i64 (l.length : Int), .slice a l.length cap], .slice an l.length cn] W fun e w' => (∃ g, e = .returned (.slice (some ⟨g, 0, none⟩) l.length l.length) ∧ w'.ownsRow W.heap.size 3 1 (.slice (some ⟨g, 0, none⟩) l.length l.length) l.length ((balLst l ns).map iv)) ∧ Below W.heap.size W w') := fun W hW => balances_any _ a l cap an ns cn W (RA.out.below hW (Nat.le_refl _)) hk (RN.out.below hW (Nat.le_refl _)) hlen (stB_ok hok).2.2
    rw [hlen] at HC ⊢
    clear hk
    have HP := fun (W : World) => hasPlayer_any (l.length : Int) a l.length cap b W
    cases hin : (decide (0 ≤ b) && decide (b < (l.length : Int)))
    · have HE : Hid (balR l.length l ns b = 0) := by
        show _ = _
        unfold balR
        rw [if_neg]
        rintro ⟨_, h0, h1⟩
        rw [decide_eq_true h0, decide_eq_true (by omega)] at hin
        exact absurd hin (by decide)
      rw [hin] at HP
      have HPP := Lib.hid HP
      clear hok hin hlen HP
      go_enter Try.func20, Try.ntmps20
      go_wp2_with fail
      rw [← HWa.out]
      refine HC.out.mono ?_
      rintro e w1 ⟨rfl, hb1⟩
      rw [HO.out]
      have xa1 := XA.out.below hb1 XA.out.lt
      clear c0 c1
      have c0 := xa1.c0
      have c1 := xa1.c1
      have B1 := Lib.hid (BA.out.trans (hb1.mono BA.out.size))
      clear xa1 hb1
      go_wp2_with fail
      refine (HPP.out w1).mono ?_
      rintro e w2 ⟨rfl, hb2⟩
      go_wp2
      go_ret
      exact ⟨by rw [HE.out]; rfl, B1.out.trans (hb2.mono B1.out.size)⟩
    · have hin2 : 0 ≤ b ∧ b < (l.length : Int) := by simpa using hin
      obtain ⟨j, rfl⟩ : ∃ j : Nat, b = (j : Int) := ⟨b.toNat, by omega⟩
      have hj : j < l.length := by omega
      have HE : Hid (balR l.length l ns (j : Int) = balZ l ns j) := by
        show _ = _
        unfold balR
        rw [if_pos ⟨hok, by omega, by omega⟩, Int.toNat_natCast]
      rw [hin] at HP
      have HPP := Lib.hid HP
      clear hok hin hlen hin2 HP
      have hji : (j : Int) < (l.length : Int) := by omega
      go_enter Try.func20, Try.ntmps20
      go_wp2_with fail
      rw [← HWa.out]
      refine HC.out.mono ?_
      rintro e w1 ⟨rfl, hb1⟩
      rw [HO.out]
      have xa1 := XA.out.below hb1 XA.out.lt
      clear c0 c1
      have c0 := xa1.c0
      have c1 := xa1.c1
      have HB1 := Lib.hid hb1
      have XA1 := Lib.hid xa1
      clear xa1 hb1
      go_wp2_with fail
      refine (HPP.out w1).mono ?_
      rintro e w2 ⟨rfl, hb2⟩
      have xa2 := XA1.out.below hb2 XA1.out.lt
      clear c0 c1
      have c0 := xa2.c0
      have c1 := xa2.c1
      have B2 : Hid (Below Wa.heap.size Wa w2) := HB1.out.trans (hb2.mono HB1.out.size)
      have HB := Lib.hid (HBal.out w2 B2.out)
      have B1 := Lib.hid (BA.out.trans (B2.out.mono BA.out.size))
      clear xa2 hb2
      go_wp2_with fail
      refine HB.out.mono ?_
      rintro e w3 ⟨⟨g, rfl, ho⟩, hb3⟩
      have hcx := own_at ho hj
      rw [balLst_at l ns j hj] at hcx
      have B3 := Lib.hid (B1.out.trans (hb3.mono B1.out.size))
      obtain ⟨z, hz⟩ : ∃ z, z = balZ l ns j := ⟨_, rfl⟩
      have HZ := Lib.hid hz
      rw [← hz] at hcx
      clear ho hb3 c0 c1 hz
      go_wp2
      go_ret
      exact ⟨by rw [HE.out, ← HZ.out]; rfl, B3.out⟩

set_option maxHeartbeats 1000000 in
theorem implIsSafe (n : Int) (a : Option Addr) (l : List Int) (cap : Nat) (an : Option Addr) (ns : List Int) (cn : Nat) (w : World) (hrow : IntRow w a l) (hl : l.length ≤ maxLen) (hrn : IntRow w an ns) (hn : ns.length ≤ maxLen) :
    Calls Try.prog 22 #[.agg #[.int .i64 n, .slice a l.length cap], .slice an ns.length cn] w fun e w' => e = .returned (.bool (safeR n l ns)) ∧ Below w.heap.size w w' := by
  obtain ⟨Wa, hWa⟩ : ∃ Wa, Wa = w.alloc (.cells #[.int .i64 n, .slice a l.length cap] 27) := ⟨_, rfl⟩
  have HWa := Lib.hid hWa
  have hba : Below w.heap.size w Wa := by rw [hWa]; exact (Below.refl _ _).alloc (Nat.le_refl _) _
  have xa : Box Wa w.heap.size 27 (.int .i64 n) (.slice a l.length cap) := by rw [hWa]; exact Box.new _ _ _ _
  have HC := Lib.hid (implStrategyOk n a l cap an ns cn Wa (hrow.below hba (Nat.le_refl _)) hl (hrn.below hba (Nat.le_refl _)) hn)
  have XA := Lib.hid xa
  have BA := Lib.hid hba
  have RA := Lib.hid (hrow.below hba (Nat.le_refl _))
  have RN := Lib.hid (hrn.below hba (Nat.le_refl _))
  have c0 := xa.c0
  have c1 := xa.c1
  clear hl hrow hrn hWa xa hba hn
  cases hok : stB n l ns
  · have HO := Lib.hid hok
    have HE : Hid (safeR n l ns = false) := by show _ = _; unfold safeR; rw [hok]; rfl
    clear hok
    go_enter Try.func22, Try.ntmps22
    go_wp2_with fail
    rw [← HWa.out]
    refine HC.out.mono ?_
    rintro e w1 ⟨rfl, hb1⟩
    rw [HO.out]
    go_wp2
    go_ret
    exact ⟨by rw [HE.out]; rfl, BA.out.trans (hb1.mono BA.out.size)⟩
  · have HO := Lib.hid hok
    have hk := okB_iff.1 (stB_ok hok).1
    have hlen := (stB_ok hok).2.1
    obtain rfl : n = (l.length : Int) := hk.2.2.1.symm
    have h8 : l.length ≤ 8 := by have := hk.2.1; omega
    have h1 : 1 ≤ l.length := by have := hk.1; omega
    have HBal : Hid (∀ (W : World), Below Wa.heap.size Wa W → Calls Try.prog 86 #[.agg #[.int .i64 (l.length : Int), .slice a l.length cap], .slice an l.length cn] W fun e w' => (∃ g, e = .returned (.slice (some ⟨g, 0, none⟩) l.length l.length) ∧ w'.ownsRow W.heap.size 3 1 (.slice (some ⟨g, 0, none⟩) l.length l.length) l.length ((balLst l ns).map iv)) ∧ Below W.heap.size W w') := fun W hW => balances_any _ a l cap an ns cn W (RA.out.below hW (Nat.le_refl _)) hk (RN.out.below hW (Nat.le_refl _)) hlen (stB_ok hok).2.2
    have HMN : Hid (∀ (W : World) (a0 : Option Addr) (c0 : Nat), IntRow W a0 (balLst l ns) → Calls Try.prog 88 #[.slice a0 l.length c0] W fun e w' => e = .returned (.int .i64 (Lib.minOf (balLst l ns))) ∧ W = w') := fun W a0 c0 h => by
      have := min_anyY a0 c0 (balLst l ns) W (by rw [balLst_len]; omega) (by rw [balLst_len]; omega) h
      rw [balLst_len] at this
      exact this
    have HE : Hid (safeR l.length l ns = decide (0 ≤ Lib.minOf (balLst l ns))) := by show _ = _; unfold safeR; rw [hok, Bool.true_and, bal_all l ns h1]
    rw [hlen] at HC ⊢
    rw [HE.out]
    obtain ⟨M, hM⟩ : ∃ M, M = Lib.minOf (balLst l ns) := ⟨_, rfl⟩
    rw [← hM] at HMN ⊢
    clear hk hok hlen HE hM
    go_enter Try.func22, Try.ntmps22
    go_wp2_with fail
    rw [← HWa.out]
    refine HC.out.mono ?_
    rintro e w1 ⟨rfl, hb1⟩
    rw [HO.out]
    have xa1 := XA.out.below hb1 XA.out.lt
    clear c0 c1
    have c0 := xa1.c0
    have c1 := xa1.c1
    have HB := Lib.hid (HBal.out w1 hb1)
    have B1 := Lib.hid (BA.out.trans (hb1.mono BA.out.size))
    clear xa1 hb1
    go_wp2_with fail
    refine HB.out.mono ?_
    rintro e w3 ⟨⟨g, rfl, ho⟩, hb3⟩
    have HM3 := Lib.hid (HMN.out w3 (some ⟨g, 0, none⟩) l.length (own_intY (balLst_len l ns) ho))
    have B3 := Lib.hid (B1.out.trans (hb3.mono B1.out.size))
    clear ho hb3 c0 c1
    go_wp2_with fail
    refine HM3.out.mono ?_
    rintro e w4 ⟨rfl, rfl⟩
    go_wp2
    go_ret
    exact ⟨rfl, B3.out⟩

set_option maxHeartbeats 1000000 in
theorem implBestAnswer (n : Int) (a : Option Addr) (l : List Int) (cap : Nat) (an : Option Addr) (ns : List Int) (cn : Nat) (w : World) (hrow : IntRow w a l) (hl : l.length ≤ maxLen) (hrn : IntRow w an ns) (hn : ns.length ≤ maxLen) :
    Calls Try.prog 24 #[.agg #[.int .i64 n, .slice a l.length cap], .slice an ns.length cn] w fun e w' => e = .returned (.int .i64 (bestR n l ns)) ∧ Below w.heap.size w w' := by
  obtain ⟨Wa, hWa⟩ : ∃ Wa, Wa = w.alloc (.cells #[.int .i64 n, .slice a l.length cap] 27) := ⟨_, rfl⟩
  have HWa := Lib.hid hWa
  have hba : Below w.heap.size w Wa := by rw [hWa]; exact (Below.refl _ _).alloc (Nat.le_refl _) _
  have xa : Box Wa w.heap.size 27 (.int .i64 n) (.slice a l.length cap) := by rw [hWa]; exact Box.new _ _ _ _
  have HC := Lib.hid (implStrategyOk n a l cap an ns cn Wa (hrow.below hba (Nat.le_refl _)) hl (hrn.below hba (Nat.le_refl _)) hn)
  have XA := Lib.hid xa
  have BA := Lib.hid hba
  have RA := Lib.hid (hrow.below hba (Nat.le_refl _))
  have RN := Lib.hid (hrn.below hba (Nat.le_refl _))
  have c0 := xa.c0
  have c1 := xa.c1
  clear hl hrow hrn hWa xa hba hn
  cases hok : stB n l ns
  · have HO := Lib.hid hok
    have HE : Hid (bestR n l ns = -1) := by show _ = _; unfold bestR; rw [hok]; rfl
    clear hok
    go_enter Try.func24, Try.ntmps24
    go_wp2_with fail
    rw [← HWa.out]
    refine HC.out.mono ?_
    rintro e w1 ⟨rfl, hb1⟩
    rw [HO.out]
    go_wp2
    go_ret
    exact ⟨by rw [HE.out]; rfl, BA.out.trans (hb1.mono BA.out.size)⟩
  · have HO := Lib.hid hok
    have hk := okB_iff.1 (stB_ok hok).1
    have hlen := (stB_ok hok).2.1
    obtain rfl : n = (l.length : Int) := hk.2.2.1.symm
    have h8 : l.length ≤ 8 := by have := hk.2.1; omega
    have h1 : 1 ≤ l.length := by have := hk.1; omega
    have hne : balLst l ns ≠ [] := fun e => by have := balLst_len l ns; rw [e] at this; simp at this; omega
    have HBal : Hid (∀ (W : World), Below Wa.heap.size Wa W → Calls Try.prog 86 #[.agg #[.int .i64 (l.length : Int), .slice a l.length cap], .slice an l.length cn] W fun e w' => (∃ g, e = .returned (.slice (some ⟨g, 0, none⟩) l.length l.length) ∧ w'.ownsRow W.heap.size 3 1 (.slice (some ⟨g, 0, none⟩) l.length l.length) l.length ((balLst l ns).map iv)) ∧ Below W.heap.size W w') := fun W hW => balances_any _ a l cap an ns cn W (RA.out.below hW (Nat.le_refl _)) hk (RN.out.below hW (Nat.le_refl _)) hlen (stB_ok hok).2.2
    have HMN : Hid (∀ (W : World) (a0 : Option Addr) (c0 : Nat), IntRow W a0 (balLst l ns) → Calls Try.prog 88 #[.slice a0 l.length c0] W fun e w' => e = .returned (.int .i64 (Lib.minOf (balLst l ns))) ∧ W = w') := fun W a0 c0 h => by
      have := min_anyY a0 c0 (balLst l ns) W (by rw [balLst_len]; omega) (by rw [balLst_len]; omega) h
      rw [balLst_len] at this
      exact this
    have HIX : Hid (∀ (W : World) (a0 : Option Addr) (c0 : Nat), IntRow W a0 (balLst l ns) → Calls Try.prog 89 #[.slice a0 l.length c0, .int .i64 (Lib.minOf (balLst l ns))] W (IdxF (balLst l ns) (Lib.minOf (balLst l ns)) W)) := fun W a0 c0 h => by
      have := indexF_any a0 (balLst l ns) c0 (Lib.minOf (balLst l ns)) W h (by rw [balLst_len]; unfold maxLen; omega) (minOf_memY _ hne)
      rw [balLst_len] at this
      exact this
    have HE : Hid (∀ k : Nat, k < (balLst l ns).length → (balLst l ns).getD k 0 = Lib.minOf (balLst l ns) → (∀ j, j < k → (balLst l ns).getD j 0 ≠ Lib.minOf (balLst l ns)) → bestR l.length l ns = k) := by
      intro k hk1 hk2 hk3
      rw [balLst_len] at hk1
      unfold bestR
      rw [if_pos hok, bst_eq (balZ l ns) l.length k hk1]
      · intro j hj
        have := (minOf_geY _ hne _).1 (Int.le_refl (Lib.minOf (balLst l ns))) (balZ l ns j) (List.mem_map.2 ⟨j, List.mem_range.2 hj, rfl⟩)
        rw [← hk2, balLst_at l ns k hk1] at this
        exact this
      · intro j hj e
        refine hk3 j hj ?_
        rw [← hk2, balLst_at l ns k hk1, balLst_at l ns j (by omega)]
        exact e
    rw [hlen] at HC ⊢
    obtain ⟨M, hM⟩ : ∃ M, M = Lib.minOf (balLst l ns) := ⟨_, rfl⟩
    rw [← hM] at HMN HIX HE
    clear hk hok hlen hM hne
    go_enter Try.func24, Try.ntmps24
    go_wp2_with fail
    rw [← HWa.out]
    refine HC.out.mono ?_
    rintro e w1 ⟨rfl, hb1⟩
    rw [HO.out]
    have xa1 := XA.out.below hb1 XA.out.lt
    clear c0 c1
    have c0 := xa1.c0
    have c1 := xa1.c1
    have HB := Lib.hid (HBal.out w1 hb1)
    have B1 := Lib.hid (BA.out.trans (hb1.mono BA.out.size))
    clear xa1 hb1
    go_wp2_with fail
    refine HB.out.mono ?_
    rintro e w3 ⟨⟨g, rfl, ho⟩, hb3⟩
    have HM3 := Lib.hid (HMN.out w3 (some ⟨g, 0, none⟩) l.length (own_intY (balLst_len l ns) ho))
    have HI3 := Lib.hid (HIX.out w3 (some ⟨g, 0, none⟩) l.length (own_intY (balLst_len l ns) ho))
    have B3 := Lib.hid (B1.out.trans (hb3.mono B1.out.size))
    clear ho hb3 c0 c1
    go_wp2_with fail
    refine HM3.out.mono ?_
    rintro e w4 ⟨rfl, rfl⟩
    go_wp2_with fail
    refine HI3.out.mono ?_
    rintro e w5 ⟨⟨k, rfl, hk1, hk2, hk3⟩, rfl⟩
    have HK := Lib.hid (HE.out k hk1 hk2 hk3)
    clear hk1 hk2 hk3
    go_wp2
    go_ret
    exact ⟨by rw [HK.out]; rfl, B3.out⟩
end Go.Proofs.Ytpndfmlkceplcaa
