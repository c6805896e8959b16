/-
  'countCommon', the function that PackTriangles hands on, 'slices.IndexFunc' and 'slices.ContainsFunc' over it. Conditions: the rows are the call's own.
-/
import Derived.Test.Ytgdejippddcekaa6F
import Derived.Test.YtgdejippddcekaaWh
namespace Go.Proofs.Ytgdejippddcekaa
open Go.ChangeShapes Go.WideShapes Go.ChangeAt Go.RowKit
set_option linter.unusedVariables false

def cc (r s : List Int) : Nat := r.countP (hasI s)
theorem cc_succ (r s : List Int) (k : Nat) (h : k < r.length) : (r.take (k + 1)).countP (hasI s) = (r.take k).countP (hasI s) + (if hasI s (r.getD k 0) then 1 else 0) := by
  rw [List.take_succ_eq_append_getElem h, List.countP_append, List.getD_eq_getElem?_getD, List.getElem?_eq_getElem h]
  simp [List.countP_cons]
theorem cc_le (r s : List Int) (k : Nat) : (r.take k).countP (hasI s) ≤ k := Nat.le_trans List.countP_le_length (by simp; omega)

set_option maxHeartbeats 400000 in
theorem countCommon_any (a b : Option Addr) (r s : List Int) (ca cb : Nat) (w : World) (ha : IntRow w a r) (hb : IntRow w b s) (hr : r.length ≤ maxLen) (hs : s.length ≤ maxLen) :
    Calls Try.prog 42 #[.slice a r.length ca, .slice b s.length cb] w fun e w' => e = .returned (.int .i64 (cc r s : Nat)) ∧ w = w' := by
  have HC := Lib.hid (fun x => contains_any b s cb x w hb hs)
  have HA := Lib.hid ha
  clear ha hb hs
  unfold maxLen at hr
  go_enter Try.func42, Try.ntmps42
  go_wp2
  go_loop [5, 10] (fun q i => ∃ k : Nat, k ≤ r.length ∧ i = .int .i64 k ∧ q = .int .i64 (((r.take k).countP (hasI s) : Nat) : Int)) (fun _ i => r.length - (intOf i).toNat)
  case atStart => exact ⟨0, Nat.zero_le _, rfl, rfl⟩
  case round =>
    obtain ⟨k, hk, rfl, rfl⟩ := hrel
    have hle := cc_le r s k
    by_cases hlt : k < r.length
    · obtain ⟨bb, off, rfl, hbb, hc⟩ := HA.out.at hlt
      have hsn := cc_succ r s k hlt
      obtain ⟨y, hy⟩ : ∃ y, y = r.getD k 0 := ⟨_, rfl⟩
      obtain ⟨q, hq⟩ : ∃ q, q = (r.take k).countP (hasI s) := ⟨_, rfl⟩
      rw [← hy] at hc hsn
      rw [← hq] at hle hsn ⊢
      have HY := Lib.hid hy
      have HQ := Lib.hid hq
      have HSN := Lib.hid hsn
      have hkb : (k : Int) < (r.length : Int) := by omega
      clear hy hq hsn
      cases hh : hasI s y
      · have HH := Lib.hid hh
        clear hh
        go_wp2_with fail
        refine (HC.out y).mono ?_
        rintro e w2 ⟨rfl, rfl⟩
        rw [HH.out]
        go_wp2
        go_round
        case rel => exact ⟨k + 1, by omega, by go_num, by rw [HSN.out, HH.out]; rfl⟩
        case measure => simp [intOf]; omega
      · have HH := Lib.hid hh
        clear hh
        go_wp2_with fail
        refine (HC.out y).mono ?_
        rintro e w2 ⟨rfl, rfl⟩
        rw [HH.out]
        go_wp2
        go_round
        case rel => exact ⟨k + 1, by omega, by go_num, by rw [HSN.out, HH.out]; rfl⟩
        case measure => simp [intOf]; omega
    · obtain rfl : k = r.length := by omega
      go_wp2
      go_ret
      exact ⟨by unfold cc; rfl, rfl⟩

theorem shares_any (g bx : Nat) (b : Option Addr) (r s : List Int) (c0 cb : Nat) (w : World) (hbx : Boxed w bx 22 (.slice (some ⟨g, 0, none⟩) r.length c0)) (ha : IntRow w (some ⟨g, 0, none⟩) r) (hb : IntRow w b s) (hr : r.length ≤ maxLen) (hs : s.length ≤ maxLen) :
    Calls Try.prog 41 #[.slice b s.length cb, .pointer (some ⟨bx, 0, none⟩)] w fun e w' => e = .returned (.bool (decide (2 ≤ (cc r s : Int)))) ∧ w = w' := by
  have HC := Lib.hid (countCommon_any (some ⟨g, 0, none⟩) b r s c0 cb w ha hb hr hs)
  have hc := hbx.cell
  clear hbx ha hb hr hs
  go_enter Try.func41, Try.ntmps41
  go_wp2_with fail
  refine HC.out.mono ?_
  rintro e w2 ⟨rfl, rfl⟩
  go_wp2
  go_ret
  exact ⟨rfl, rfl⟩

def shB (r : List Int) (Ls : List (List Int)) : Bool := Ls.any fun s => decide (2 ≤ (cc r s : Int))
def IdxS (r : List Int) (Ls : List (List Int)) (w : World) (e : Ending) (w2 : World) : Prop := (∃ k : Int, e = .returned (.int .i64 k) ∧ decide (0 ≤ k) = shB r Ls) ∧ w = w2
theorem IdxS.no {r : List Int} {Ls : List (List Int)} {w : World} (h : ∀ j, j < Ls.length → decide (2 ≤ (cc r (Ls.getD j []) : Int)) = false) : IdxS r Ls w (.returned (.int .i64 (-1))) w := by
  refine ⟨⟨-1, rfl, ?_⟩, rfl⟩
  have : shB r Ls = false := by
    unfold shB
    rw [List.any_eq_false]
    intro s hs
    obtain ⟨j, hj, e⟩ := List.mem_iff_getElem.1 hs
    have := h j hj
    rw [List.getD_eq_getElem?_getD, List.getElem?_eq_getElem hj] at this
    rw [← e]; simpa using this
  rw [this]; rfl
theorem IdxS.yes {r : List Int} {Ls : List (List Int)} {w : World} {k : Nat} (hk : k < Ls.length) (h : decide (2 ≤ (cc r (Ls.getD k []) : Int)) = true) : IdxS r Ls w (.returned (.int .i64 (k : Int))) w := by
  refine ⟨⟨k, rfl, ?_⟩, rfl⟩
  have : shB r Ls = true := by
    unfold shB
    rw [List.any_eq_true]
    refine ⟨Ls[k], List.getElem_mem hk, ?_⟩
    rw [List.getD_eq_getElem?_getD, List.getElem?_eq_getElem hk] at h
    exact h
  rw [this]; simp

set_option maxHeartbeats 1000000 in
theorem indexFunc_any (B : Nat) (a : Option Addr) (c : Nat) (gs : List (Nat × Nat)) (Ls : List (List Int)) (g bx c0 : Nat) (r : List Int) (w : World) (hss : OwnSS w B a c gs Ls) (hL : Ls.length ≤ 4096) (h3 : ∀ i, i < Ls.length → (Ls.getD i []).length ≤ 4096)
    (hbx : Boxed w bx 22 (.slice (some ⟨g, 0, none⟩) r.length c0)) (ha : IntRow w (some ⟨g, 0, none⟩) r) (hr : r.length ≤ 4096) :
    Calls Try.prog 56 #[.slice a Ls.length c, .func (.func 41) #[] #[.pointer (some ⟨bx, 0, none⟩)]] w (IdxS r Ls w) := by
  have HS := Lib.hid hss
  have H3 := Lib.hid h3
  have HC := Lib.hid (fun (b : Option Addr) (s : List Int) (cb : Nat) (hb : IntRow w b s) (hs : s.length ≤ 4096) => shares_any g bx b r s c0 cb w hbx ha hb (by unfold maxLen; omega) (by unfold maxLen; omega))
  clear hss h3 hbx ha
  go_enter Try.func56, Try.ntmps56
  go_wp2
  go_loop [8] (fun i => ∃ k : Nat, k ≤ Ls.length ∧ i = .int .i64 k ∧ ∀ j, j < k → decide (2 ≤ (cc r (Ls.getD j []) : Int)) = false) (fun i => Ls.length - (intOf i).toNat)
  case atStart => exact ⟨0, Nat.zero_le _, rfl, fun j h => absurd h (by omega)⟩
  case round =>
    obtain ⟨k, hk, rfl, hno⟩ := hrel
    have HN := Lib.hid hno
    clear hno
    by_cases hlt : k < Ls.length
    · obtain ⟨go, rfl, hgo⟩ := HS.out.base (by omega)
      have hc := HS.out.cell k hlt
      have hkb : (k : Int) < (Ls.length : Int) := by omega
      obtain ⟨s, hs⟩ : ∃ s, s = Ls.getD k [] := ⟨_, rfl⟩
      obtain ⟨p, hp⟩ : ∃ p, p = gs.getD k (0, 0) := ⟨_, rfl⟩
      have hrw := HS.out.row k hlt
      have h4 := H3.out k hlt
      rw [← hs, ← hp] at hc hrw
      rw [← hs] at h4
      have HSS := Lib.hid hs
      have HCC := Lib.hid (HC.out (some ⟨p.1, 0, none⟩) s p.2 hrw h4)
      clear hs hp hrw h4
      obtain ⟨q, hq⟩ : ∃ q, q = decide (2 ≤ (cc r s : Int)) := ⟨_, rfl⟩
      have HQ := Lib.hid hq
      clear hq
      cases q
      · go_wp2_with fail
        refine HCC.out.mono ?_
        rintro e w2 ⟨rfl, rfl⟩
        rw [← HQ.out]
        go_wp2
        go_round
        case rel =>
          refine ⟨k + 1, by omega, by go_num, fun j hj => ?_⟩
          rcases Nat.lt_or_ge j k with h | h
          · exact HN.out j h
          · obtain rfl : j = k := by omega
            rw [← HSS.out]; exact HQ.out.symm
        case measure => simp [intOf]; omega
      · go_wp2_with fail
        refine HCC.out.mono ?_
        rintro e w2 ⟨rfl, rfl⟩
        rw [← HQ.out]
        go_wp2
        go_ret
        exact IdxS.yes hlt (by rw [← HSS.out]; exact HQ.out.symm)
    · obtain rfl : k = Ls.length := by omega
      go_wp2
      go_ret
      exact IdxS.no HN.out

theorem containsFunc_any (B : Nat) (a : Option Addr) (c : Nat) (gs : List (Nat × Nat)) (Ls : List (List Int)) (g bx c0 : Nat) (r : List Int) (w : World) (hss : OwnSS w B a c gs Ls) (hL : Ls.length ≤ 4096) (h3 : ∀ i, i < Ls.length → (Ls.getD i []).length ≤ 4096)
    (hbx : Boxed w bx 22 (.slice (some ⟨g, 0, none⟩) r.length c0)) (ha : IntRow w (some ⟨g, 0, none⟩) r) (hr : r.length ≤ 4096) :
    Calls Try.prog 43 #[.slice a Ls.length c, .func (.func 41) #[] #[.pointer (some ⟨bx, 0, none⟩)]] w fun e w' => e = .returned (.bool (shB r Ls)) ∧ w = w' := by
  have H := Lib.hid (indexFunc_any B a c gs Ls g bx c0 r w hss hL h3 hbx ha hr)
  clear hss h3 hbx ha
  go_enter Try.func43, Try.ntmps43
  go_wp2_with fail
  refine H.out.mono ?_
  rintro e w' ⟨⟨k, rfl, hk⟩, rfl⟩
  have HK := Lib.hid hk
  clear hk
  go_wp2
  go_ret
  exact ⟨by rw [HK.out]; rfl, rfl⟩

/-- Two of three players. -/
theorem shB_clash (acc : List (List Int)) (x y z : Nat) (hxy : x ≠ y) (hyz : y ≠ z) (hxz : x ≠ z) : shB [(x : Int), (y : Int), (z : Int)] acc = clash acc [(x : Int), (y : Int), (z : Int)] := by
  unfold shB clash
  congr 1
  funext s
  simp only [List.getD_cons_zero, List.getD_cons_succ, Int.toNat_natCast]
  unfold cc hasP hasI
  have e1 : (x != y) = true := by simpa using hxy
  have e2 : (y != z) = true := by simpa using hyz
  have e3 : (x != z) = true := by simpa using hxz
  rw [e1, e2, e3]
  simp only [List.countP_cons, List.countP_nil, List.contains_eq_mem]
  by_cases h1 : (x : Int) ∈ s <;> by_cases h2 : (y : Int) ∈ s <;> by_cases h3 : (z : Int) ∈ s <;> simp [h1, h2, h3]
end Go.Proofs.Ytgdejippddcekaa
