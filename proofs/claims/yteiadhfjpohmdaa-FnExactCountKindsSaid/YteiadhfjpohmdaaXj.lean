/-
  'l04Same' of the model; an append behind a block's beginning in a region that draws; 'nextPlayers' of the program, 'l11Turn' of the model. Conditions: at most eight players.
-/
import Derived.Test.YteiadhfjpohmdaaXi
import Derived.Test.YteiadhfjpohmdaaXa
import Derived.Test.Yteiadhfjpohmdaa7E
import Derived.Test.YteiadhfjpohmdaaGh
import Derived.Test.YteiadhfjpohmdaaK
namespace Go.Proofs.Yteiadhfjpohmdaa
open Go.ChangeShapes Go.WideShapes Go.ChangeAt Go.RowKit
set_option linter.unusedVariables false

set_option maxHeartbeats 1000000 in
theorem l04Same_any (a b : Option Addr) (x y : List Int) (ca cb : Nat) (w : World) (ha : IntRow w a x) (hb : IntRow w b y) (hx : x.length ≤ maxLen) (hy : y.length ≤ maxLen) :
    Calls Try.prog 87 #[.slice a x.length ca, .slice b y.length cb] w fun e w' => e = .returned (.bool (eqX x y)) ∧ w = w' := by
  have HA := Lib.hid ha
  have HB := Lib.hid hb
  clear ha hb
  unfold maxLen at hx hy
  by_cases hlen : x.length = y.length
  · have HE := Lib.hid hlen
    obtain ⟨m, hm⟩ : ∃ m, m = x.length := ⟨_, rfl⟩
    have hmy : m = y.length := hm.trans hlen
    have HM := Lib.hid hm
    have HMY := Lib.hid hmy
    have hm8 : m ≤ 9223372036854775807 := by omega
    rw [← hm, ← hmy]
    clear hlen hm hmy hx hy
    go_enter Try.func87, Try.ntmps87
    go_wp2
    go_loop [14] (fun i => ∃ k : Nat, k ≤ m ∧ i = .int .i64 k ∧ (∀ j, j < k → x.getD j 0 = y.getD j 0)) (fun i => m - (intOf i).toNat)
    case atStart => exact ⟨0, Nat.zero_le _, rfl, fun j h => absurd h (by omega)⟩
    case round =>
      obtain ⟨k, hk, rfl, hno⟩ := hrel
      have HN := Lib.hid hno
      clear hno
      by_cases hlt : k < m
      · obtain ⟨b1, o1, rfl, hb1, hd1⟩ := HA.out.at (k := k) (by rw [← HM.out]; exact hlt)
        obtain ⟨b2, o2, rfl, hb2, hd2⟩ := HB.out.at (k := k) (by rw [← HMY.out]; exact hlt)
        obtain ⟨u, hu⟩ : ∃ u, u = x.getD k 0 := ⟨_, rfl⟩
        obtain ⟨v, hv⟩ : ∃ v, v = y.getD k 0 := ⟨_, rfl⟩
        rw [← hu] at hd1
        rw [← hv] at hd2
        have HU := Lib.hid hu
        have HV := Lib.hid hv
        have hkb : (k : Int) < (m : Int) := by omega
        clear hu hv hb1 hb2
        by_cases huv : u = v
        · have hq : (!(u == v)) = false := by simp [huv]
          have hq2 : (u == v) = true := by simp [huv]
          have HQ := Lib.hid huv
          clear huv
          go_wp2
          go_round
          case rel =>
            refine ⟨k + 1, by omega, by go_num, fun j hj => ?_⟩
            rcases Nat.lt_or_ge j k with h | h
            · exact HN.out j h
            · obtain rfl : j = k := by omega
              rw [← HU.out, ← HV.out]; exact HQ.out
          case measure => simp [intOf]; omega
        · have hq : (!(u == v)) = true := by simp [huv]
          have hq2 : (u == v) = false := by simp [huv]
          have HF : Hid (eqX x y = false) := by
            show _ = _
            unfold eqX
            rw [decide_eq_false_iff_not]
            intro e
            exact huv (by rw [HU.out, HV.out, e])
          clear huv
          go_wp2
          go_ret
          exact ⟨by rw [HF.out]; rfl, rfl⟩
      · obtain rfl : k = m := by omega
        have HF : Hid (eqX x y = true) := by
          show _ = _
          unfold eqX
          rw [decide_eq_true_iff]
          exact eq_atX HE.out (fun j hj => HN.out j (by rw [HM.out]; exact hj))
        go_wp2
        go_ret
        exact ⟨by rw [HF.out]; rfl, rfl⟩
  · have HF : Hid (eqX x y = false) := by
      show _ = _
      unfold eqX
      rw [decide_eq_false_iff_not]
      intro e
      exact hlen (by rw [e])
    have hq : decide (x.length = y.length) = false := by simpa using hlen
    have hq2 : ((x.length : Int) == (y.length : Int)) = false := by
      rw [beq_eq_false_iff_ne]; omega
    clear hlen
    go_enter Try.func87, Try.ntmps87
    go_wp2
    go_ret
    exact ⟨by rw [HF.out]; rfl, rfl⟩

theorem step_append_tailX (w : World) {ops : Array Oper} {o : Oper} {a : Act} {K : Act → World → Prop} {Q : Exit → Act → World → Prop} {E : Prop} (hw : Region.wanted o (yielded ops a.tmps) = true) (s x : Operand)
    (ho : o.op = .call { callee := .builtin .append, args := #[s, x], argTypes := #[22, 22] })
    (B g off n c0 : Nat) (L : List Int) (hs : a.eval s = .slice (some ⟨g, off, none⟩) n c0) (hown : OwnT w B 3 1 g off n c0 (L.map iv))
    (ad : Addr) (m c : Nat) (M : List Int) (hx : a.eval x = .slice (some ad) m c) (hM : M.length = m) (hcell : ∀ j, j < m → w.cell? (ad.add j) = some (iv (M.getD j 0)))
    (h64 : n + m ≤ 1000) (hB : B ≤ w.heap.size) (N : Nat) (hN : n + m = N)
    (h : ∀ g' off' c' w', OwnT w' B 3 1 g' off' N c' ((L ++ M).map iv) → Below B w w' → K (a.put o.dst (.slice (some ⟨g', off', none⟩) N c')) w') :
    if Region.wanted o (yielded ops a.tmps) = true then Oper.wp Try.prog o a w K Q else E := by
  rw [if_pos hw]
  subst hN
  obtain ⟨i0, hi, hz0, hz1, hz2⟩ := info_parts infoInt
  have hi0 : Try.prog.info? 3 = some i0 := hi
  obtain ⟨g2, off2, cap2, w2, hrun, r1, r2⟩ := run_append_tail (P := Try.prog) w B 22 o.type 3 i0 (.int .i64 0) 1 8 Try.underlying22 hi hz0 hz1 hz2 rfl (by decide) g off n c0 (L.map iv) hown ad m c (M.map iv) (by simp [hM]) (iv_cells hM hcell) (iv_one M) (by unfold maxLen; omega) (by omega) hB
  have hb : Below B w w2 := by
    rcases r2 with r2 | ⟨_, r2⟩
    · exact (Below.refl B w).grown r2 hB (fun k hk => by cases hk)
    · exact (Below.refl B w).grown r2 hB (fun k hk => by cases hk; exact hown.low)
  unfold Oper.wp
  simp [execOp, ho, resolve, invoke, builtin, hs, hx, hrun, Result.andThen]
  rw [← List.map_append] at r1
  exact h g2 off2 cap2 w2 r1 hb
theorem ownT_of {w : World} {B n g c : Nat} {xs : List Value} (h : w.ownsRow B 3 1 (.slice (some ⟨g, 0, none⟩) n c) n xs) : OwnT w B 3 1 g 0 n c xs := by
  rcases h.2 with ⟨hn, _⟩ | ⟨g2, c2, cur, he, hB, hg, h1, h2, h3, h4⟩
  · cases hn
  · simp only [Value.slice.injEq, Option.some.injEq, Addr.mk.injEq, and_true, true_and] at he
    obtain ⟨rfl, rfl⟩ := he
    exact ⟨h.1, hB, h1, h2, cur, hg, by omega, by rw [List.drop_zero]; exact h4⟩
theorem OwnT.row_int {w : World} {B n g off c : Nat} {L : List Int} (h : OwnT w B 3 1 g off n c (L.map iv)) (hL : L.length = n) : IntRow w (some ⟨g, off, none⟩) L := by
  refine .inr ⟨g, off, rfl, h.lt, fun j hj => ?_⟩
  refine h.cell j _ ?_
  rw [List.getElem?_map, List.getElem?_eq_getElem hj, List.getD_eq_getElem?_getD, List.getElem?_eq_getElem hj]
  rfl

theorem players_elems (n : Nat) (h : n ≤ 8) : elems (2 ^ n - 1) = List.range n ∧ 2 ^ n - 1 < 256 := by
  have : ∀ n : Fin 9, elems (2 ^ n.val - 1) = List.range n.val ∧ 2 ^ n.val - 1 < 256 := by decide +kernel
  exact this ⟨n, by omega⟩
theorem playersOf_any (n : Nat) (hn : n ≤ 8) (w : World) :
    Calls Try.prog 127 #[.int .i64 (n : Int)] w fun e w' => (∃ g c, e = .returned (.slice (some ⟨g, 0, none⟩) n c) ∧ w'.ownsRow w.heap.size 3 1 (.slice (some ⟨g, 0, none⟩) n c) n ((List.range n).map nv)) ∧ Below w.heap.size w w' := by
  obtain ⟨he, hlt⟩ := players_elems n hn
  obtain ⟨p, hp⟩ : ∃ p, p = 2 ^ n := ⟨_, rfl⟩
  have hp1 : 1 ≤ p := by rw [hp]; exact Nat.two_pow_pos n
  have hw64 : Value.int .i64 (wrap64 (2 ^ n)) = Value.int .i64 (p : Int) := by rw [hp, wrapPow n hn]
  have hw642 : Value.int .i64 (IntKind.i64.wrap (2 ^ n)) = Value.int .i64 (p : Int) := by rw [hp, wrapPow2 n hn]
  have hw643 : wrap64 (2 ^ n) = (p : Int) := by rw [hp, wrapPow n hn]
  have hp256 : p ≤ 256 := by rw [hp]; exact pow_le n hn
  have HC : Hid (∀ W, Calls Try.prog 84 #[.int .i64 ((p : Int) - 1)] W fun e w' => (∃ g c, e = .returned (.slice (some ⟨g, 0, none⟩) n c) ∧ w'.ownsRow W.heap.size 3 1 (.slice (some ⟨g, 0, none⟩) n c) n ((List.range n).map nv)) ∧ Below W.heap.size W w') := by
    intro W
    have := elementsOf_any (2 ^ n - 1) hlt W
    rw [he, List.length_range, ← hp, show ((p - 1 : Nat) : Int) = (p : Int) - 1 by omega] at this
    exact this
  clear he hlt hp
  go_enter Try.func127, Try.ntmps127
  go_wp2_with fail
  refine (HC.out _).mono ?_
  rintro e w' ⟨⟨g, c, rfl, ho⟩, hb⟩
  have HO := Lib.hid ho
  clear ho
  go_wp2
  go_ret
  exact ⟨⟨g, c, rfl, HO.out⟩, hb⟩

/-- The names a to a + 1. -/
def turnZ (n : Nat) : List Int := (Rn.turnN n).map Int.ofNat
theorem turnZ_len (n : Nat) : (turnZ n).length = n := by simp [turnZ, Rn.turnN]
theorem turnZ_next (n : Nat) (h1 : 1 ≤ n) (h8 : n ≤ 8) : turnZ n = (((List.range n).map Int.ofNat).drop 1) ++ [0] ∧ ((List.range n).map Int.ofNat).getD 0 0 = 0 := by
  have : ∀ n : Fin 9, 1 ≤ n.val → turnZ n.val = (((List.range n.val).map Int.ofNat).drop 1) ++ [0] ∧ ((List.range n.val).map Int.ofNat).getD 0 0 = 0 := by decide +kernel
  exact this ⟨n, by omega⟩ h1

set_option maxRecDepth 100000 in
set_option maxHeartbeats 1000000 in
theorem nextPlayers_any (n : Nat) (h1 : 1 ≤ n) (hn : n ≤ 8) (w : World) :
    Calls Try.prog 91 #[.int .i64 (n : Int)] w fun e w' => (∃ ad c, e = .returned (.slice (some ad) n c) ∧ IntRow w' (some ad) (turnZ n)) ∧ Below w.heap.size w w' := by
  obtain ⟨htz, hz0⟩ := turnZ_next n h1 hn
  have HTZ := Lib.hid htz
  have HTL := Lib.hid (turnZ_len n)
  clear htz
  go_enter Try.func91, Try.ntmps91
  go_wp2_with fail
  refine (playersOf_any n hn w).mono ?_
  rintro e w1 ⟨⟨g, c, rfl, ho⟩, hb⟩
  rw [nv_iv] at ho
  obtain ⟨L, hL⟩ : ∃ L, L = (List.range n).map Int.ofNat := ⟨_, rfl⟩
  rw [← hL] at ho hz0
  have hLl : L.length = n := by rw [hL]; simp
  have hcap := own_cap ho
  unfold maxLen at hcap
  have hc0 : w1.cell? ⟨g, 0, none⟩ = some (.int .i64 0) := by have := cell_own ho (show 0 < n by omega); rw [hz0] at this; exact this
  have hlt := ho.lt g rfl
  obtain ⟨o2, ho2⟩ : ∃ o2, o2 = if c = 1 then 0 else 1 := ⟨_, rfl⟩
  have hs2 : (if c = 1 then some (⟨g, 0, none⟩ : Addr) else some ⟨g, 1, none⟩) = some ⟨g, o2, none⟩ := by rw [ho2]; split <;> rfl
  have hOT : OwnT w1 w.heap.size 3 1 g o2 (n - 1) (c - 1) ((L.drop 1).map iv) := by
    have h0 := ownT_of ho
    rw [List.map_drop]
    by_cases hc1 : c = 1
    · obtain rfl : n = 1 := by omega
      subst hc1
      rw [ho2, if_pos rfl]
      exact h0.gone
    · rw [ho2, if_neg hc1]
      obtain ⟨n', rfl⟩ : ∃ n', n = n' + 1 := ⟨n - 1, by omega⟩
      obtain ⟨c', rfl⟩ : ∃ c', c = c' + 1 := ⟨c - 1, by omega⟩
      exact h0.tail
  have HOT : Hid (∀ W, Below w1.heap.size w1 W → OwnT W w.heap.size 3 1 g o2 (n - 1) (c - 1) ((L.drop 1).map iv)) := fun W hW => hOT.kept (hW.block g hlt.2)
  have HDL : Hid (n - 1 + 1 = n) := (show n - 1 + 1 = n by omega)
  have HBB := Lib.hid hb
  have B1 : Hid (Below w1.heap.size w1 (w1.drew.alloc (.cells #[.int .i64 0] 3))) := (Below.refl _ _).drew.alloc (Nat.le_refl _) _
  have HC1 : Hid (∀ j, j < 1 → (w1.drew.alloc (.cells #[.int .i64 0] 3)).cell? ((⟨w1.heap.size, 0, none⟩ : Addr).add j) = some (iv ([(0 : Int)].getD j 0))) := fun j hj => by
    obtain rfl : j = 0 := by omega
    rw [Addr.add_lit]
    have hh : (w1.drew.alloc (.cells #[.int .i64 0] 3)).heap[w1.heap.size]? = some (.cells #[.int .i64 0] 3 (0, 0)) := by show (w1.heap.push _)[w1.heap.size]? = _; simp
    exact cell1 hh
  have HL2 := Lib.hid hL
  have hcn : (n : Int) ≤ (c : Int) := by omega
  have hn1 : (1 : Int) ≤ (n : Int) := by omega
  have hn0 : (0 : Int) < (n : Int) := by omega
  have hnp : 0 < n := h1
  clear ho hL hz0 hLl hOT hlt ho2 hb
  go_wp2_with fail
  go_region_law (first
    | (refine step_append_tailX _ (by rfl) (.tmp 7) (.tmp 11) rfl w.heap.size g o2 (n - 1) (c - 1) (L.drop 1) (by simp [go_sem]) (HOT.out _ B1.out) ⟨w1.heap.size, 0, none⟩ 1 1 [0] (by simp [go_sem]) rfl HC1.out (by omega) (Nat.le_trans HBB.out.size B1.out.size) n HDL.out ?_
       intro g5 o5 c5 w5 ho5 hb5))
  all_goals
    have hr5 : IntRow w5 (some ⟨g5, o5, none⟩) (turnZ n) := by
      have h5 := ho5.row_int (by rw [HL2.out]; simp; omega)
      rw [HTZ.out, ← HL2.out]; exact h5
    have HR5 := Lib.hid hr5
    have HB5 := Lib.hid (HBB.out.trans ((B1.out.mono HBB.out.size).trans hb5))
    clear ho5 hb5 hr5
    simp [go_sem]
    go_wp2
    go_ret
    exact ⟨⟨_, _, rfl, HR5.out⟩, HB5.out⟩

theorem mod_one {k m : Nat} : ((k : Int) + 1).tmod (m : Int) = (((k + 1) % m : Nat) : Int) ∧ ((k : Int) + 1) % (m : Int) = (((k + 1) % m : Nat) : Int) := by
  have : ((k : Int) + 1) = ((k + 1 : Nat) : Int) := by omega
  rw [this]
  refine ⟨?_, by rw [Int.natCast_emod]⟩
  rw [Int.tmod_eq_emod_of_nonneg (Int.natCast_nonneg _), Int.natCast_emod]
set_option maxRecDepth 100000 in
set_option maxHeartbeats 1000000 in
theorem l11Turn_any (n : Nat) (h1 : 1 ≤ n) (hn : n ≤ 8) (w : World) :
    Calls Try.prog 89 #[.int .i64 (n : Int)] w fun e w' => (∃ g c, e = .returned (.slice (some ⟨g, 0, none⟩) n c) ∧ w'.ownsRow w.heap.size 3 1 (.slice (some ⟨g, 0, none⟩) n c) n ((turnZ n).map iv)) ∧ Below w.heap.size w w' := by
  have HTL := Lib.hid (turnZ_len n)
  have O0 : Hid ((w.alloc (.cells #[] 3)).ownsRow w.heap.size 3 1 (.slice (some ⟨w.heap.size, 0, none⟩) 0 0) 0 (([] : List Int).map iv)) := own_empty w w.heap.size w.heap.size (Nat.le_refl _) rfl
  have B0 := Lib.hid (Below.one w (.cells #[] 3))
  go_enter Try.func89, Try.ntmps89
  go_wp2
  go_loopw [3, 4] (fun o i wr => ∃ k g c : Nat, k ≤ n ∧ i = .int .i64 (k : Int) ∧ o = .slice (some ⟨g, 0, none⟩) k c ∧ Hid (wr.ownsRow w.heap.size 3 1 (.slice (some ⟨g, 0, none⟩) k c) k (((turnZ n).take k).map iv)) ∧ Hid (Below w.heap.size w wr)) (fun _ i _ => n - (intOf i).toNat)
  case atStart => exact ⟨0, _, 0, Nat.zero_le _, rfl, rfl, O0.out, B0.out⟩
  case round =>
    obtain ⟨k, g, c, hk, rfl, rfl, ho, hb⟩ := hrel
    by_cases hlt : k < n
    · have hki : (k : Int) < (n : Int) := by omega
      obtain ⟨z, hz⟩ : ∃ z, z = (k + 1) % n := ⟨_, rfl⟩
      obtain ⟨hr1, hr2⟩ := mod_one (k := k) (m := n)
      rw [← hz] at hr1 hr2
      have hzn : z < n := by rw [hz]; exact Nat.mod_lt _ (by omega)
      have hat : (turnZ n)[k]? = some (z : Int) := by simp [turnZ, Rn.turnN, hlt, hz]
      have htk : (turnZ n).take k ++ [(z : Int)] = (turnZ n).take (k + 1) := (take_snoc (turnZ n) k _ hat).symm
      have HTK := Lib.hid htk
      have O1 : Hid ((wr.alloc (.cells #[.int .i64 (z : Int)] 3)).ownsRow w.heap.size 3 1 (.slice (some ⟨g, 0, none⟩) k c) k (((turnZ n).take k).map iv)) := own_grown ho.out (World.grownBy_alloc _ _ none) (fun k _ e => by cases e)
      have B1 := Lib.hid (hb.out.alloc hb.out.size (.cells #[.int .i64 (z : Int)] 3))
      have HC1 : Hid (∀ j, j < 1 → (wr.alloc (.cells #[.int .i64 (z : Int)] 3)).cell? ((⟨wr.heap.size, 0, none⟩ : Addr).add j) = some (iv ([(z : Int)].getD j 0))) := fun j hj => by
        obtain rfl : j = 0 := by omega
        rw [Addr.add_lit]
        have hh : (wr.alloc (.cells #[.int .i64 (z : Int)] 3)).heap[wr.heap.size]? = some (.cells #[.int .i64 (z : Int)] 3 (0, 0)) := by show (wr.heap.push _)[wr.heap.size]? = _; simp
        exact cell1 hh
      clear hz hat htk ho
      go_wp2_with (at_builtin; refine list_append_int _ rfl _ _ rfl w.heap.size g k c ((turnZ n).take k) rfl O1.out ⟨wr.heap.size, 0, none⟩ 1 1 [(z : Int)] rfl rfl HC1.out (by omega) B1.out.size (k + 1) rfl ?_; intro g2 c2 w2 ho2 hg2 hb2; have H2 : Hid (w2.ownsRow w.heap.size 3 1 (.slice (some ⟨g2, 0, none⟩) (k + 1) c2) (k + 1) (((turnZ n).take (k + 1)).map iv)) := (show World.ownsRow _ _ _ _ _ _ _ from (by rw [← HTK.out]; exact ho2)); have BB2 := Lib.hid (B1.out.trans hb2); clear ho2 hg2 hb2)
      go_roundw
      case rel => exact ⟨k + 1, g2, c2, by omega, by go_num, rfl, H2.out, BB2.out⟩
      case measure => simp [intOf]; omega
    · obtain rfl : k = n := by omega
      have H3 : Hid (wr.ownsRow w.heap.size 3 1 (.slice (some ⟨g, 0, none⟩) k c) k ((turnZ k).map iv)) := by
        have := ho.out
        rw [List.take_of_length_le (by rw [HTL.out]; exact Nat.le_refl _)] at this
        exact this
      clear ho
      go_wp2
      go_ret
      exact ⟨⟨g, c, rfl, H3.out⟩, hb.out⟩
end Go.Proofs.Yteiadhfjpohmdaa
