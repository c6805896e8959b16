/-
  A chain of links in memory; 'players' of the program: the players of a chain, in a new row. No conditions but the bounds that Go gives a slice.
-/
import Derived.Test.YtgjogbihadiojaaJ2
namespace Go.Proofs.Ytgjogbihadiojaa
open Go.ChangeShapes Go.WideShapes Go.ChangeAt Go.RowKit
set_option linter.unusedVariables false

/-- The pointer to a chain's i-th link. -/
def pV (gs : List Nat) (i : Nat) (nx : Value) : Value := if i < gs.length then .pointer (some ⟨gs.getD i 0, 0, none⟩) else nx
theorem pV_lt {gs : List Nat} {i : Nat} (nx : Value) (h : i < gs.length) : pV gs i nx = .pointer (some ⟨gs.getD i 0, 0, none⟩) := if_pos h
theorem pV_ge {gs : List Nat} {i : Nat} (nx : Value) (h : gs.length ≤ i) : pV gs i nx = nx := if_neg (by omega)
/-- The links of a chain, one block each; what the last one points to. -/
structure Ch (W : World) (gs ps : List Nat) (nx : Value) : Prop where
  len : gs.length = ps.length
  node : ∀ i, i < ps.length → Box W (gs.getD i 0) 57 (.int .i64 ((ps.getD i 0 : Nat) : Int)) (pV gs (i + 1) nx)
theorem Ch.below {W W2 : World} {gs ps : List Nat} {nx : Value} (h : Ch W gs ps nx) (hb : Below W.heap.size W W2) : Ch W2 gs ps nx :=
  ⟨h.len, fun i hi => (h.node i hi).below hb (h.node i hi).lt⟩

/-- How long a slice is. -/
def sliceLen : Value → Nat
  | .slice _ n _ => n
  | _ => 0

set_option maxRecDepth 100000 in
set_option maxHeartbeats 2000000 in
theorem players_any (gs ps : List Nat) (w : World) (hch : Ch w gs ps (.pointer none)) (hsm : ps.length ≤ 8) :
    Calls Try.prog 58 #[pV gs 0 (.pointer none)] w fun e w' => (∃ g c, e = .returned (.slice (some ⟨g, 0, none⟩) ps.length c) ∧ w'.ownsRow w.heap.size 3 1 (.slice (some ⟨g, 0, none⟩) ps.length c) ps.length (ps.map nv)) ∧ Below w.heap.size w w' := by
  obtain ⟨i0, hi, hz0, hz1, hz2⟩ := info_parts infoInt
  obtain ⟨Wa, hWa⟩ : ∃ Wa, Wa = w.alloc (.cells #[] 3) := ⟨_, rfl⟩
  have hba : Below w.heap.size w Wa := by rw [hWa]; exact (Below.refl _ _).alloc (Nat.le_refl _) _
  have hO0 : Wa.ownsRow w.heap.size 3 1 (.slice (some ⟨w.heap.size, 0, none⟩) 0 0) 0 (upTo ps 0) := by
    rw [hWa]; exact World.ownsRow_lit (base := w.heap.size) (e := 3) (size := 1) w #[] 0 (Nat.le_refl _) (by simp) rfl
  have HW := Lib.hid hWa
  have HC := Lib.hid hch
  have HLn := Lib.hid hch.len
  obtain ⟨p0, hp0⟩ : ∃ p0, p0 = pV gs 0 (.pointer none) := ⟨_, rfl⟩
  have HP := Lib.hid hp0
  rw [← hp0]
  clear hWa hch hp0
  go_enter Try.func58, Try.ntmps58
  go_wp2
  rw [← HW.out]
  go_loopw [3, 4] (fun out p wr => ∃ (k g c : Nat), k ≤ ps.length ∧ p = pV gs k (.pointer none) ∧ out = .slice (some ⟨g, 0, none⟩) k c ∧ wr.ownsRow w.heap.size 3 1 (.slice (some ⟨g, 0, none⟩) k c) k (upTo ps k) ∧ Below w.heap.size w wr) (fun out _ _ => ps.length - sliceLen out)
  case atStart => exact ⟨0, _, _, Nat.zero_le _, HP.out, rfl, hO0, hba⟩
  case round =>
    clear hO0 hba HP
    obtain ⟨k, g, c, hk, hpk, rfl, hown, hb⟩ := hrel
    by_cases hlt : k < ps.length
    · rw [pV_lt _ (by rw [HLn.out]; exact hlt)] at hpk
      obtain ⟨q, hq⟩ : ∃ q, q = gs.getD k 0 := ⟨_, rfl⟩
      obtain ⟨x, hx⟩ : ∃ x, x = ps.getD k 0 := ⟨_, rfl⟩
      obtain ⟨p2, hp2⟩ : ∃ p2, p2 = pV gs (k + 1) (.pointer none) := ⟨_, rfl⟩
      have hbx := HC.out.node k hlt
      rw [← hq, ← hx, ← hp2] at hbx
      rw [← hq] at hpk
      have hbr := hbx.below hb hbx.lt
      have c0 := hbr.c0
      have c1 := hbr.c1
      have hsn : Hid (upTo ps (k + 1) = upTo ps k ++ [.int .i64 (x : Int)]) := upTo_succ _ _ _ (by rw [hx, List.getD_eq_getElem?_getD, List.getElem?_eq_getElem hlt]; rfl)
      have HP2 := Lib.hid hp2
      have hql : q < w.heap.size := hbx.lt
      have HBX := Lib.hid hbx
      clear hq hx hp2 hbx
      subst hpk
      go_wp2_with (at_builtin; refine wpList_append_own _ rfl _ _ 23 rfl w.heap.size 3 i0 (.int .i64 0) 1 8 Try.underlying23 hi hz0 hz1 hz2 rfl (by decide) _ _ _ rfl (hown.alloc _) ⟨_, 0, none⟩ 1 1 [.int .i64 (x : Int)] rfl rfl ?c1 ?c2 ?c3 ?c4 ?c5 ?_)
      case c1 =>
        intro j u hj
        match j, hj with
        | 0, hj => simp at hj; subst hj; simp [Addr.add]
      case c2 => intro u hu; simp at hu; subst hu; rfl
      case c3 => unfold maxLen; omega
      case c4 => omega
      case c5 => have := hb.size; simp; omega
      intro v' w3 hown' hgrow _
      have hb4 : Below w.heap.size w w3 := (hb.alloc hb.size _).grown hgrow (by have := hb.size; simp; omega) (fun k hk => (hown.lt k hk).1)
      have hbr3 := HBX.out.below hb4 HBX.out.lt
      obtain ⟨g3, c3, rfl⟩ : ∃ g3 c3, v' = .slice (some ⟨g3, 0, none⟩) (k + 1) c3 := by
        rcases hown'.2 with ⟨_, h0⟩ | ⟨g3, cap, cur, rfl, _⟩
        · simp at h0
        · exact ⟨g3, cap, rfl⟩
      have H3 : Hid (w3.ownsRow w.heap.size 3 1 (.slice (some ⟨g3, 0, none⟩) (k + 1) c3) (k + 1) (upTo ps (k + 1))) := by
        show w3.ownsRow _ _ _ _ _ _
        rw [hsn.out]; exact hown'
      clear c0 c1 hbr
      have c0 := hbr3.c0
      have c1 := hbr3.c1
      clear hown' hgrow hown hb hbr3
      go_wp2
      go_roundw
      case rel => exact ⟨k + 1, g3, c3, by omega, HP2.out, rfl, H3.out, hb4⟩
      case measure => simp [sliceLen]; omega
    · obtain rfl : k = ps.length := by omega
      rw [pV_ge _ (by rw [HLn.out]; omega)] at hpk
      subst hpk
      rw [upTo_all] at hown
      have HO := Lib.hid hown
      clear hown
      go_wp2
      go_ret
      exact ⟨⟨g, c, rfl, HO.out⟩, hb⟩
end Go.Proofs.Ytgjogbihadiojaa
