/-
  'Tour.reversed' and 'ReverseTriangle' of the program. No conditions but the bounds that Go gives a slice ('reversed': the tour is valid, the list is three players of it).
-/
import Derived.Test.YtgdejippddcekaaDoor6J
import Derived.Test.YtgdejippddcekaaDoorWg
import Derived.IntWalk
namespace Go.Proofs.YtgdejippddcekaaDoor
open Go.ChangeShapes Go.WideShapes Go.ChangeAt Go.RowKit
set_option linter.unusedVariables false

theorem implFlip_m (m : Nat) (a : Option Addr) (l : List Int) (cap i j : Nat) (w : World) (hm : l.length = m) (hrow : IntRow w a l) (hok : Ok m l) (hi : i < m) (hj : j < m) (hij : i ≠ j) :
    Calls Tryd.prog 49 #[.agg #[.int .i64 (m : Int), .slice a m cap], .int .i64 (i : Int), .int .i64 (j : Int)] w fun e w' => (∃ a0 c0, e = .returned (.tuple #[.agg #[.int .i64 (m : Int), .slice a0 m c0], .bool true]) ∧ w'.ownsRow w.heap.size 3 1 (.slice a0 m c0) m ((flipL l i j).map iv)) ∧ Below w.heap.size w w' := by
  subst hm
  have hl8 : l.length ≤ 8 := by have := hok.2.1; omega
  have hB : flipB (l.length : Int) l (i : Int) (j : Int) = true := by
    unfold flipB pl
    rw [okB_true hok]
    simp only [Bool.true_and, Bool.and_eq_true, decide_eq_true_iff, Bool.not_eq_true', beq_eq_false_iff_ne]
    omega
  have hR : flipR (l.length : Int) l (i : Int) (j : Int) = flipL l i j := by unfold flipR; rw [hB]; simp
  have hN : flipN (l.length : Int) l (i : Int) (j : Int) = l.length := by unfold flipN; rw [hB]; rfl
  have := implFlip (l.length : Int) a l cap (i : Int) (j : Int) w hrow (by unfold maxLen; omega)
  rw [hB, hR, hN, flipL_len] at this
  exact this

theorem own_int_m {w : World} {B m c : Nat} {a : Option Addr} {L : List Int} (hm : L.length = m) (h : w.ownsRow B 3 1 (.slice a m c) m (L.map iv)) : IntRow w a L := by subst hm; exact own_int h
def revK (l : List Int) (r : List Nat) : Nat → List Int
  | 0 => l
  | k + 1 => flipL (revK l r k) (r.getD k 0) (r.getD ((k + 1) % 3) 0)
theorem revK_len (l : List Int) (r : List Nat) (k : Nat) : (revK l r k).length = l.length := by
  induction k with
  | zero => rfl
  | succ k ih => show (flipL _ _ _).length = _; rw [flipL_len, ih]
theorem revK_ok {n : Int} {l : List Int} (h : Ok n l) {x y z : Nat} (hx : x < l.length) (hy : y < l.length) (hz : z < l.length) (hxy : x ≠ y) (hyz : y ≠ z) (hzx : z ≠ x) (k : Nat) (hk : k ≤ 3) : Ok n (revK l [x, y, z] k) := by
  obtain ⟨h1, h2, h3⟩ := rev_ok h hx hy hz hxy hyz hzx
  match k, hk with
  | 0, _ => exact h
  | 1, _ => exact h1
  | 2, _ => exact h2
  | 3, _ => exact h3

/-- What the rounds hold. -/
structure Rk (w W : World) (B5 B2 B4 : Nat) (m k : Nat) (a0 ai : Option Addr) (ci : Nat) (L : List Int) : Prop where
  row : IntRow W ai L
  sz : B5 ≤ W.heap.size
  own : 1 ≤ k → W.ownsRow B5 3 1 (.slice ai m ci) m (L.map iv)
  bt : Box W B2 27 (.int .i64 (m : Int)) (.slice ai m ci)
  br : Box W B4 27 (.int .i64 0) (.slice none 0 0)
  hb : Below w.heap.size w W

set_option maxRecDepth 100000 in
set_option maxHeartbeats 4000000 in
theorem reversed_any (m : Nat) (a : Option Addr) (l : List Int) (cap : Nat) (b : Option Addr) (x y z cb : Nat) (w : World) (hm : l.length = m) (hrow : IntRow w a l) (hok : Ok m l) (hrb : IntRow w b [(x : Int), (y : Int), (z : Int)]) (hx : x < m) (hy : y < m) (hz : z < m) (hxy : x ≠ y) (hyz : y ≠ z) (hzx : z ≠ x) :
    Calls Tryd.prog 30 #[.agg #[.int .i64 (m : Int), .slice a m cap], .slice b 3 cb] w fun e w' => (∃ a0 c0, e = .returned (.agg #[.int .i64 (m : Int), .slice a0 m c0]) ∧ w'.ownsRow w.heap.size 3 1 (.slice a0 m c0) m ((revL l x y z).map iv)) ∧ Below w.heap.size w w' := by
  subst hm
  obtain ⟨W1, hW1⟩ : ∃ W1, W1 = w.alloc (.cells #[.int .i64 (l.length : Int), .slice a l.length cap] 27) := ⟨_, rfl⟩
  obtain ⟨W2, hW2⟩ : ∃ W2, W2 = W1.alloc (.cells #[.int .i64 0, .slice none 0 0] 27) := ⟨_, rfl⟩
  have b1 : Below w.heap.size w W1 := by rw [hW1]; exact (Below.refl _ _).alloc (Nat.le_refl _) _
  have b2 : Below W1.heap.size W1 W2 := by rw [hW2]; exact (Below.refl _ _).alloc (Nat.le_refl _) _
  have x1 : Box W1 w.heap.size 27 (.int .i64 (l.length : Int)) (.slice a l.length cap) := by rw [hW1]; exact Box.new _ _ _ _
  have x2 : Box W2 W1.heap.size 27 (.int .i64 0) (.slice none 0 0) := by rw [hW2]; exact Box.new _ _ _ _
  have b12 := b1.trans (b2.mono b1.size)
  have xt := x1.below b2 x1.lt
  have sw1 : Hid (W1.heap.size = w.heap.size + 1) := by show _ = _; rw [hW1]; simp
  have HW2 : Hid (W2 = (w.alloc (.cells #[.int .i64 (l.length : Int), .slice a l.length cap] 27)).alloc (.cells #[.int .i64 0, .slice none 0 0] 27)) := by show _ = _; rw [hW2, hW1]
  have q1 : w.heap.size < W1.heap.size := x1.lt
  have q2 : W1.heap.size < W2.heap.size := x2.lt
  have r0 : Rk w W2 W2.heap.size w.heap.size W1.heap.size l.length 0 a a cap l := ⟨hrow.below b12 (Nat.le_refl _), Nat.le_refl _, fun h => absurd h (by omega), xt, x2, b12⟩
  have R0 := Lib.hid r0
  have HRB := Lib.hid hrb
  have HOK := Lib.hid hok
  have hl8 : l.length ≤ 8 := by have := hok.2.1; omega
  obtain ⟨rn, hrn⟩ : ∃ rn, rn = [x, y, z] := ⟨_, rfl⟩
  have HRN := Lib.hid hrn
  have hokk : ∀ k, k ≤ 3 → Ok l.length (revK l rn k) := by rw [hrn]; exact fun k hk => revK_ok hok hx hy hz hxy hyz hzx k hk
  have HKK := Lib.hid hokk
  have hlt3 : ∀ k, k < 3 → rn.getD k 0 < l.length := by
    rw [hrn]; intro k hk
    match k, hk with
    | 0, _ => exact hx
    | 1, _ => exact hy
    | 2, _ => exact hz
  have hne3 : ∀ k, k < 3 → rn.getD k 0 ≠ rn.getD ((k + 1) % 3) 0 := by
    rw [hrn]; intro k hk
    match k, hk with
    | 0, _ => exact hxy
    | 1, _ => exact hyz
    | 2, _ => exact hzx
  have hcell : ∀ k, k < 3 → ∃ bb oo, b = some ⟨bb, oo, none⟩ ∧ bb < w.heap.size ∧ w.cell? ⟨bb, oo + k, none⟩ = some (.int .i64 ((rn.getD k 0 : Nat) : Int)) := by
    intro k hk
    obtain ⟨bb, oo, e, hbb, hc⟩ := hrb.at (k := k) (by simp; omega)
    refine ⟨bb, oo, e, hbb, ?_⟩
    rw [hc, hrn]
    match k, hk with
    | 0, _ => rfl
    | 1, _ => rfl
    | 2, _ => rfl
  have HL3 := Lib.hid hlt3
  have HN3 := Lib.hid hne3
  have HC3 := Lib.hid hcell
  clear hW1 hW2 b1 b2 x1 x2 b12 xt r0 hrb hrow hok hrn hokk hlt3 hne3 hcell hxy hyz hzx
  go_enter Tryd.func30, Tryd.ntmps30
  go_wp2
  rw [← HW2.out, ← sw1.out]
  go_loopw [9] (fun i wr => ∃ k : Nat, k ≤ 3 ∧ i = .int .i64 k ∧ ∃ ai ci, Rk w wr W2.heap.size w.heap.size W1.heap.size l.length k a ai ci (revK l rn k)) (fun i _ => 3 - (intOf i).toNat)
  case atStart => exact ⟨0, by omega, rfl, a, cap, R0.out⟩
  case round =>
    obtain ⟨k, hk, rfl, ai, ci, hr⟩ := hrel
    by_cases hlt : k < 3
    · obtain ⟨bb, oo, rfl, hbb, hc⟩ := HC3.out k hlt
      obtain ⟨bb2, oo2, e2, _, hc2⟩ := HC3.out ((k + 1) % 3) (Nat.mod_lt _ (by omega))
      obtain ⟨rfl, rfl⟩ : bb2 = bb ∧ oo2 = oo := by simp at e2; exact ⟨e2.1.symm, e2.2.symm⟩
      obtain ⟨u, hu⟩ : ∃ u, u = rn.getD k 0 := ⟨_, rfl⟩
      obtain ⟨v, hv⟩ : ∃ v, v = rn.getD ((k + 1) % 3) 0 := ⟨_, rfl⟩
      rw [← hu] at hc
      rw [← hv] at hc2
      have hd1 := (hr.hb.cell (p := ⟨bb2, oo2 + k, none⟩) hbb).trans hc
      have hd2 := (hr.hb.cell (p := ⟨bb2, oo2 + (k + 1) % 3, none⟩) hbb).trans hc2
      have c0 := hr.bt.c0
      have c1 := hr.bt.c1
      have hul : u < l.length := by rw [hu]; exact HL3.out k hlt
      have hvl : v < l.length := by rw [hv]; exact HL3.out _ (Nat.mod_lt _ (by omega))
      have huv : u ≠ v := by rw [hu, hv]; exact HN3.out k hlt
      have hkb : (k : Int) < 3 := by omega
      have HR := Lib.hid hr
      have HU := Lib.hid hu
      have HV := Lib.hid hv
      have HF := Lib.hid (fun W (hW : IntRow W ai (revK l rn k)) => implFlip_m l.length ai (revK l rn k) ci u v W (revK_len l rn k) hW (HKK.out k (by omega)) hul hvl huv)
      clear hc hc2 hr hu hv huv
      have h1 : IntKind.i64.wrap ((k : Int) + 1) = (k : Int) + 1 := IntWalk.i64_in _ (by omega)
      have h2 : Int.tmod ((k : Int) + 1) 3 = (((k + 1) % 3 : Nat) : Int) := by rw [Int.tmod_eq_emod_of_nonneg (by omega)]; omega
      have h3 : IntKind.i64.wrap (((k + 1) % 3 : Nat) : Int) = (((k + 1) % 3 : Nat) : Int) := IntWalk.i64_in _ (by omega)
      have h4 : (((k + 1) % 3 : Nat) : Int) < 3 := by omega
      have h5 : ((((k + 1) % 3 : Nat) : Int)).toNat = (k + 1) % 3 := Int.toNat_natCast _
      obtain ⟨k2, hk2⟩ : ∃ k2, k2 = (k + 1) % 3 := ⟨_, rfl⟩
      rw [← hk2] at h2 h3 h4 h5 hd2
      clear hk2
      go_wp2_with fail
      have HR0 := Lib.hid (HR.out.row.below (Below.refl _ wr).drew (Nat.le_refl _))
      go_region_with ((go_at_call 49; refine (HF.out _ HR0.out).mono ?_; rintro e w5 ⟨⟨a5, c5, rfl, ho5⟩, hbq⟩; have hb5 : Below wr.heap.size wr w5 := (Below.refl _ wr).drew.trans hbq; have bx := HR.out.bt.below hb5 HR.out.bt.lt; have e0 := bx.c0; have e1 := bx.c1; have e2 := bx.f0; have e3 := bx.f1))
      all_goals
        have hsz := HR.out.sz
        have hs5 := hb5.size
        have hL : revK l rn (k + 1) = flipL (revK l rn k) u v := by rw [HU.out, HV.out]; rfl
        have ho6 := (own_set (own_set ho5 ⟨w.heap.size, 0, none⟩ (.int .i64 l.length) (show w.heap.size < wr.heap.size by omega)) ⟨w.heap.size, 1, none⟩ (.slice a5 l.length c5) (show w.heap.size < wr.heap.size by omega)).mono (show W2.heap.size ≤ wr.heap.size from hsz)
        rw [← hL] at ho6
        have hrk : Rk w ((w5.setCell ⟨w.heap.size, 0, none⟩ (.int .i64 l.length)).setCell ⟨w.heap.size, 1, none⟩ (.slice a5 l.length c5)) W2.heap.size w.heap.size W1.heap.size l.length (k + 1) a a5 c5 (revK l rn (k + 1)) := by
          refine ⟨own_int_m (revK_len l rn (k + 1)) ho6, by simp only [World.size_setCell]; omega, fun _ => ho6, (bx.set0 _).set1 _, ?_, ?_⟩
          · exact ((HR.out.br.below hb5 HR.out.br.lt).other ⟨w.heap.size, 0, none⟩ _ (by simp only; omega)).other ⟨w.heap.size, 1, none⟩ _ (by simp only; omega)
          · exact ((HR.out.hb.trans (hb5.mono HR.out.hb.size)).setCell (p := ⟨w.heap.size, 0, none⟩) (Nat.le_refl _) _).setCell (p := ⟨w.heap.size, 1, none⟩) (Nat.le_refl _) _
        have HRK := Lib.hid hrk
        clear hrk ho6 ho5 hbq hb5 bx e0 e1 e2 e3 c0 c1 hd1 hd2 hsz hs5 hL h1 h2 h3 h4 h5
        go_wp2
        go_roundw
        case rel => exact ⟨k + 1, by omega, by go_num, a5, c5, HRK.out⟩
        case measure => simp [intOf]; omega
    · obtain rfl : k = 3 := by omega
      have c0 := hr.bt.c0
      have c1 := hr.bt.c1
      have d0 := hr.br.c0
      have d1 := hr.br.c1
      have d2 := hr.br.f0
      have d3 := hr.br.f1
      have HR := Lib.hid hr
      clear hr
      go_wp2
      refine bodyPost_ret (v := .agg #[.int .i64 l.length, .slice ai l.length ci]) (Box.res1 rfl _ rfl ((HR.out.br.set0 _).set1 _)) rfl ?_
      have ho := own_set (own_set (HR.out.own (by omega)) ⟨W1.heap.size, 0, none⟩ (.int .i64 l.length) (show W1.heap.size < W2.heap.size from q2)) ⟨W1.heap.size, 1, none⟩ (.slice ai l.length ci) (show W1.heap.size < W2.heap.size from q2)
      have hL : revK l rn 3 = revL l x y z := by rw [HRN.out]; rfl
      rw [hL] at ho
      exact ⟨⟨ai, ci, rfl, ho.mono (by omega)⟩, (HR.out.hb.setCell (p := ⟨W1.heap.size, 0, none⟩) (by simp only; omega) _).setCell (p := ⟨W1.heap.size, 1, none⟩) (by simp only; omega) _⟩
end Go.Proofs.YtgdejippddcekaaDoor
