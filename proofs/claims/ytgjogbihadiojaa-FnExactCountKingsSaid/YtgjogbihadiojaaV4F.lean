/-
  The model's 'ParseTour': the tour that a number's bits tell. No conditions.
-/
import Derived.Test.YtgjogbihadiojaaV4D
import Derived.Test.YtgjogbihadiojaaV4B
import Derived.Test.YtgjogbihadiojaaM
namespace Go.Proofs.Ytgjogbihadiojaa
open Go.ChangeShapes Go.WideShapes Go.ChangeAt Go.RowKit
set_option linter.unusedVariables false

/-- A row's cell to which a power of two is added. -/
theorem add_at {w : World} {B g m cap i j : Nat} {ys : List Nat} (hm : m ≤ 64) (hi : i < m) (hj : j < 8) (hy : ∀ y ∈ ys, y ≤ 10000)
    (hown : w.ownsRow B 3 1 (.slice (some ⟨g, 0, none⟩) m cap) m (ys.map nv)) :
    ∃ x z : Int, w.cell? ⟨g, i, none⟩ = some (.int .i64 x) ∧ w.frozen? ⟨g, i, none⟩ = false ∧ wrap64 (x + wrap64 (2 ^ j)) = z ∧
      (w.setCell ⟨g, i, none⟩ (.int .i64 z)).ownsRow B 3 1 (.slice (some ⟨g, 0, none⟩) m cap) m ((ys.set i (ys.getD i 0 + 2 ^ j)).map nv) := by
  have hlen : ys.length = m := by simpa using hown.1
  have hy256 : ys.getD i 0 ≤ 10000 := by rw [List.getD_eq_getElem?_getD, List.getElem?_eq_getElem (by omega)]; exact hy _ (List.getElem_mem _)
  have hc := hown.cellAt i (by omega)
  rw [List.getElem?_map, show ys[i]? = some (ys.getD i 0) by rw [List.getD_eq_getElem?_getD, List.getElem?_eq_getElem (by omega)]; rfl] at hc
  have hp8 := pow_le j (by omega)
  refine ⟨(ys.getD i 0 : Nat), ((ys.getD i 0 + 2 ^ j : Nat) : Int), hc, hown.frozenAt i, ?_, ?_⟩
  · rw [wrapPow j (by omega)]
    generalize 2 ^ j = P at *
    rw [Int.natCast_add]
    unfold wrap64
    omega
  · have := (hown.stored i (nv (ys.getD i 0 + 2 ^ j))).1
    rw [← List.map_set] at this
    exact this
theorem set_leAdd {ys : List Nat} {b i j : Nat} (hj : j < 8) (h : ∀ y ∈ ys, y ≤ b) : ∀ y ∈ ys.set i (ys.getD i 0 + 2 ^ j), y ≤ b + 128 := by
  intro y hy
  have hp : 2 ^ j ≤ 2 ^ 7 := pow_le_of (by omega)
  rcases List.mem_or_eq_of_mem_set hy with h1 | h1
  · have := h y h1; omega
  · have h2 : ys.getD i 0 ≤ b := by
      rw [List.getD_eq_getElem?_getD]
      cases e : ys[i]? with
      | none => simp
      | some x => simp; exact h x (List.mem_of_getElem? e)
    omega

/-- What the model knows of the candidate before the pair (i, j). -/
def TellOf (S : List UInt8) (bn i j b : Nat) (ys : List Nat) : Prop := ∀ l, IsText S l → b = bn / 2 ^ (pre2 l i j).length ∧ ys = tellL l i j

theorem tellOf_step {S : List UInt8} {N bn i j b : Nat} {ys : List Nat} (hN8 : N ≤ 8) (HG : ∀ l, IsText S l → N = l.length ∧ ∀ i j, i + 1 ≤ j → j < l.length → bn.testBit (pre2 l i j).length = bt l i j)
    (hij : i + 1 ≤ j) (hj : j < N) (h : TellOf S bn i j b ys) :
    (b % 2 = 1 → TellOf S bn i (j + 1) (b / 2) (ys.set i (ys.getD i 0 + 2 ^ j))) ∧ (b % 2 = 0 → TellOf S bn i (j + 1) (b / 2) (ys.set j (ys.getD j 0 + 2 ^ i))) := by
  have key : ∀ l, IsText S l → (decide (b % 2 = 1) = bt l i j) ∧ b / 2 = bn / 2 ^ (pre2 l i (j + 1)).length ∧ ys = tellL l i j ∧ j < l.length ∧ l.length ≤ 8 := by
    intro l hl
    obtain ⟨h1, h2⟩ := HG l hl
    obtain ⟨h3, h4⟩ := h l hl
    refine ⟨?_, ?_, h4, by omega, by omega⟩
    · rw [← h2 i j hij (by omega), Nat.testBit_eq_decide_div_mod_eq, h3]
    · rw [pre2_succ l i j hij, h3, Nat.div_div_eq_div_mul, Nat.pow_succ]
  constructor
  · intro h1 l hl
    obtain ⟨k1, k2, k3, k4, k5⟩ := key l hl
    rw [h1] at k1
    obtain ⟨e1, e2⟩ := (tellL_step hl.1 (show i < j by omega) k4 k5).1 (by rw [← k1]; rfl)
    refine ⟨k2, ?_⟩
    rw [k3, ← e2, e1]
  · intro h1 l hl
    obtain ⟨k1, k2, k3, k4, k5⟩ := key l hl
    rw [h1] at k1
    obtain ⟨e1, e2⟩ := (tellL_step hl.1 (show i < j by omega) k4 k5).2 (by rw [← k1]; rfl)
    refine ⟨k2, ?_⟩
    rw [k3, ← e2, e1]

set_option maxRecDepth 100000 in
set_option maxHeartbeats 1000000 in
theorem l02Of_text (S : List UInt8) (N bn : Nat) (w : World) (hN8 : N ≤ 8) (hbt : bn < 2 ^ 62)
    (HG : ∀ l, IsText S l → N = l.length ∧ ∀ i j, i + 1 ≤ j → j < l.length → bn.testBit (pre2 l i j).length = bt l i j) :
    Calls Try.prog 104 #[.int .i64 N, .int .i64 bn] w fun e w' => (∃ g ys, e = .returned (.agg #[.int .i64 N, .slice (some ⟨g, 0, none⟩) N N]) ∧ (∀ l, IsText S l → ys = tellL l N (N + 1)) ∧ w'.ownsRow w.heap.size 3 1 (.slice (some ⟨g, 0, none⟩) N N) N (ys.map nv)) ∧ Below w.heap.size w w' := by
  obtain ⟨i0, hi, hz0, hz1, hz2⟩ := info_parts infoInt
  obtain ⟨Wa, hWa⟩ : ∃ Wa, Wa = w.alloc (.cells #[.int .i64 0, .slice none 0 0] 25) := ⟨_, rfl⟩
  have hba : Below w.heap.size w Wa := by rw [hWa]; exact (Below.refl _ _).alloc (Nat.le_refl _) _
  have sa : Wa.heap.size = w.heap.size + 1 := by rw [hWa]; simp
  have xa : Box Wa w.heap.size 25 (.int .i64 0) (.slice none 0 0) := by rw [hWa]; exact Box.new _ _ _ _
  have HWa := Lib.hid hWa
  have HGG := Lib.hid HG
  clear hWa HG
  go_enter Try.func104, Try.ntmps104
  go_wp2_with (refine wpList_make_full _ rfl _ _ 23 rfl Wa.heap.size 3 i0 (.int .i64 0) 1 Try.underlying23 hi hz0 hz1 .i64 .i64 _ _ N rfl rfl rfl rfl ?c1 ?c2 ?c3 ?_)
  case c1 => rw [hz2]; omega
  case c2 => unfold maxLen; omega
  case c3 => rw [HWa.out]; exact Nat.le_refl _
  rw [← HWa.out]
  intro w1 hown hg
  have hb1 : Below Wa.heap.size Wa w1 := (Below.refl _ Wa).grown hg (Nat.le_refl _) (fun k hk => by cases hk)
  have x1 := xa.below hb1 xa.lt
  rw [zeros] at hown
  obtain ⟨g, hgg⟩ : ∃ g, g = w.heap.size + 1 := ⟨_, rfl⟩
  have hgl := hown.lt (w.heap.size + 1) rfl
  rw [← hgg] at hown hgl ⊢
  clear hg
  obtain ⟨p, hp⟩ : ∃ p, p = w1.heap.size := ⟨_, rfl⟩
  obtain ⟨W2, hW2⟩ : ∃ W2, W2 = w1.alloc (.cells #[.int .i64 N, .slice (some ⟨g, 0, none⟩) N N] 25) := ⟨_, rfl⟩
  have hb2 : Below w1.heap.size w1 W2 := by rw [hW2]; exact Below.one _ _
  have xc : Box W2 p 25 (.int .i64 N) (.slice (some ⟨g, 0, none⟩) N N) := by rw [hp, hW2]; exact Box.new _ _ _ _
  have x2 := x1.below hb2 x1.lt
  have o2 := (own_below hown hb2).mono (show w.heap.size ≤ g by omega)
  have B2 := (hba.trans (hb1.mono hba.size)).trans (hb2.mono (Nat.le_trans hba.size hb1.size))
  have hgp : Hid (g ≠ p) := (show g ≠ p by omega)
  have hgr : Hid (g ≠ w.heap.size) := (show g ≠ _ by omega)
  have hpr : Hid (w.heap.size ≠ p) := (show _ ≠ p by have := x1.lt; omega)
  have hgw : Hid (w.heap.size ≤ g) := (show _ ≤ g by omega)
  have HP := Lib.hid hp
  have HG2 := Lib.hid hgg
  have HW2 := Lib.hid hW2
  have hT0 : Hid (TellOf S bn 0 1 bn (List.replicate N 0)) := by
    intro l hl
    obtain ⟨h1, _⟩ := HGG.out l hl
    rw [pre2_start, tellL_start hl.1, h1]
    exact ⟨by simp, rfl⟩
  have Y0 := Lib.hid x2
  have C0 := Lib.hid xc
  have O0 := Lib.hid o2
  have BB0 := Lib.hid B2
  have hz : Hid (∀ y ∈ List.replicate N 0, y ≤ 128) := by intro y hy; rw [List.eq_of_mem_replicate hy]; decide
  clear hW2 hb2 xc x2 o2 B2 hown hgl hb1 x1 hba xa hp hgg
  go_wp2
  rw [← HP.out, ← HW2.out]
  go_loopw [1, 6] (fun bv iv wr => ∃ (b i : Nat) (ys : List Nat), i ≤ N ∧ iv = .int .i64 i ∧ bv = .int .i64 b ∧ b < 2 ^ 62 ∧ Hid (∀ y ∈ ys, y ≤ 128 * (8 * i + (i + 1))) ∧ Hid (TellOf S bn i (i + 1) b ys) ∧ Hid (wr.ownsRow w.heap.size 3 1 (.slice (some ⟨g, 0, none⟩) N N) N (ys.map nv)) ∧ Hid (Box wr w.heap.size 25 (.int .i64 0) (.slice none 0 0)) ∧ Hid (Box wr p 25 (.int .i64 N) (.slice (some ⟨g, 0, none⟩) N N)) ∧ Hid (Below w.heap.size w wr)) (fun _ i _ => N - (intOf i).toNat)
  case atStart => exact ⟨bn, 0, List.replicate N 0, Nat.zero_le _, rfl, rfl, hbt, hz, hT0, O0, Y0, C0, BB0⟩
  case round =>
    clear hz hT0 O0 Y0 C0 BB0
    obtain ⟨b, i, ys, hi, rfl, rfl, hb, hys, htold, how, hy, hc, hbl⟩ := hrel
    by_cases hlt : i < N
    · have hib : (i : Int) < (N : Int) := by omega
      go_wp2
      go_loopw [1, 7] (fun bv jv wr => ∃ (b j : Nat) (ys : List Nat), i + 1 ≤ j ∧ j ≤ N ∧ jv = .int .i64 j ∧ bv = .int .i64 b ∧ b < 2 ^ 62 ∧ Hid (∀ y ∈ ys, y ≤ 128 * (8 * i + j)) ∧ Hid (TellOf S bn i j b ys) ∧ Hid (wr.ownsRow w.heap.size 3 1 (.slice (some ⟨g, 0, none⟩) N N) N (ys.map nv)) ∧ Hid (Box wr w.heap.size 25 (.int .i64 0) (.slice none 0 0)) ∧ Hid (Box wr p 25 (.int .i64 N) (.slice (some ⟨g, 0, none⟩) N N)) ∧ Hid (Below w.heap.size w wr)) (fun _ j _ => N - (intOf j).toNat)
      case atStart => exact ⟨b, i + 1, ys, Nat.le_refl _, hlt, by go_num, rfl, hb, hys, htold, how, hy, hc, hbl⟩
      case round =>
        clear hys htold how hy hc hbl hb
        obtain ⟨b, j, ys, hj1, hj, rfl, rfl, hb, hys, htold, how, hy, hc, hbl⟩ := hrel
        by_cases hlt2 : j < N
        · have hjb : (j : Int) < (N : Int) := by omega
          obtain ⟨d, hd⟩ : ∃ d, d = b / 2 := ⟨_, rfl⟩
          have hdd : (b : Int) / 2 = (d : Int) := by omega
          have hd2 : d < 2 ^ 62 := by omega
          obtain ⟨st1, st2⟩ := tellOf_step hN8 HGG.out hj1 hlt2 htold.out
          rw [← hd] at st1 st2
          have hyb : ∀ y ∈ ys, y ≤ 10000 := fun y hy => by have := hys.out y hy; omega
          have c0 := hc.out.c0
          have c1 := hc.out.c1
          by_cases hodd : b % 2 = 1
          · have hand : bits .and .i64 (b : Int) 1 = 1 := by rw [andOne]; omega
            have hstep := Lib.hid (st1 hodd)
            have hys2 : Hid (∀ y ∈ ys.set i (ys.getD i 0 + 2 ^ j), y ≤ 128 * (8 * i + (j + 1))) := by
              intro y hy
              have := set_leAdd (i := i) (j := j) (by omega) hys.out y hy
              omega
            obtain ⟨x1, z1, hx1, hf1, hz1', ho7⟩ := add_at (by omega) hlt (show j < 8 by omega) hyb how.out
            have H7 := Lib.hid ho7
            clear ho7 st1 st2 hyb hd hodd hys htold how
            go_wp2
            go_region
            all_goals
              obtain ⟨w7, hw7⟩ : ∃ w7, w7 = (wr.setCell ⟨g, i, none⟩ (.int .i64 z1)).drew := ⟨_, rfl⟩
              rw [← hw7]
              have how7 := Lib.hid (show w7.ownsRow w.heap.size 3 1 (.slice (some ⟨g, 0, none⟩) N N) N ((ys.set i (ys.getD i 0 + 2 ^ j)).map nv) from by rw [hw7]; exact H7.out.drew)
              have hy7 := Lib.hid (show Box w7 w.heap.size 25 (.int .i64 0) (.slice none 0 0) from by rw [hw7]; exact hy.out.other ⟨g, i, none⟩ _ (fun e => hgr.out e.symm))
              have hc7 := Lib.hid (show Box w7 p 25 (.int .i64 N) (.slice (some ⟨g, 0, none⟩) N N) from by rw [hw7]; exact hc.out.other ⟨g, i, none⟩ _ (fun e => hgp.out e.symm))
              have hbl7 := Lib.hid (show Below w.heap.size w w7 from by rw [hw7]; exact (hbl.out.setCell (p := ⟨g, i, none⟩) hgw.out _).drew)
              clear hw7 c0 c1 hx1 hf1 H7 hy hc hbl
              go_wp2
              go_roundw
              case rel => exact ⟨d, j + 1, _, by omega, by omega, by go_num, by rw [← hdd], hd2, hys2, hstep, how7, hy7, hc7, hbl7⟩
              case measure => simp [intOf]; omega
          · have hand : bits .and .i64 (b : Int) 1 = 0 := by rw [andOne]; omega
            have hstep := Lib.hid (st2 (by omega))
            have hys2 : Hid (∀ y ∈ ys.set j (ys.getD j 0 + 2 ^ i), y ≤ 128 * (8 * i + (j + 1))) := by
              intro y hy
              have := set_leAdd (i := j) (j := i) (by omega) hys.out y hy
              omega
            obtain ⟨x1, z1, hx1, hf1, hz1', ho7⟩ := add_at (by omega) hlt2 (show i < 8 by omega) hyb how.out
            have H7 := Lib.hid ho7
            clear ho7 st1 st2 hyb hd hodd hys htold how
            go_wp2
            go_region
            all_goals
              obtain ⟨w7, hw7⟩ : ∃ w7, w7 = (wr.setCell ⟨g, j, none⟩ (.int .i64 z1)).drew := ⟨_, rfl⟩
              rw [← hw7]
              have how7 := Lib.hid (show w7.ownsRow w.heap.size 3 1 (.slice (some ⟨g, 0, none⟩) N N) N ((ys.set j (ys.getD j 0 + 2 ^ i)).map nv) from by rw [hw7]; exact H7.out.drew)
              have hy7 := Lib.hid (show Box w7 w.heap.size 25 (.int .i64 0) (.slice none 0 0) from by rw [hw7]; exact hy.out.other ⟨g, j, none⟩ _ (fun e => hgr.out e.symm))
              have hc7 := Lib.hid (show Box w7 p 25 (.int .i64 N) (.slice (some ⟨g, 0, none⟩) N N) from by rw [hw7]; exact hc.out.other ⟨g, j, none⟩ _ (fun e => hgp.out e.symm))
              have hbl7 := Lib.hid (show Below w.heap.size w w7 from by rw [hw7]; exact (hbl.out.setCell (p := ⟨g, j, none⟩) hgw.out _).drew)
              clear hw7 c0 c1 hx1 hf1 H7 hy hc hbl
              go_wp2
              go_roundw
              case rel => exact ⟨d, j + 1, _, by omega, by omega, by go_num, by rw [← hdd], hd2, hys2, hstep, how7, hy7, hc7, hbl7⟩
              case measure => simp [intOf]; omega
        · obtain rfl : j = N := by omega
          have hjb : ¬ (j : Int) < (j : Int) := by omega
          have hstep : Hid (TellOf S bn (i + 1) (i + 2) b ys) := by
            intro l hl
            obtain ⟨h1, _⟩ := HGG.out l hl
            obtain ⟨h3, h4⟩ := htold.out l hl
            rw [h1] at h3 h4
            rw [pre2_next] at h3
            rw [tellL_next hl.1 (by omega) (by omega)] at h4
            exact ⟨h3, h4⟩
          have hys2 : Hid (∀ y ∈ ys, y ≤ 128 * (8 * (i + 1) + (i + 1 + 1))) := by
            intro y hy
            have := hys.out y hy
            omega
          clear htold hys
          go_wp2
          go_roundw
          case rel => exact ⟨b, i + 1, ys, by omega, by go_num, rfl, hb, hys2, hstep, how, hy, hc, hbl⟩
          case measure => simp [intOf]; omega
    · obtain rfl : i = N := by omega
      have hib : ¬ (i : Int) < (i : Int) := by omega
      have c0 := hc.out.c0
      have c1 := hc.out.c1
      have e0 := hy.out.c0
      have e1 := hy.out.c1
      have e2 := hy.out.f0
      have e3 := hy.out.f1
      go_wp2
      refine bodyPost_ret (v := .agg #[.int .i64 i, .slice (some ⟨g, 0, none⟩) i i]) (Box.res1 rfl _ rfl ((hy.out.set0 _).set1 _)) rfl ⟨⟨g, rfl, ys, ?_, ?_⟩, ?_⟩
      · intro l hl; exact (htold.out l hl).2
      · exact own_other (own_other how.out ⟨w.heap.size, 0, none⟩ _ (fun e => hgr.out e)) ⟨w.heap.size, 1, none⟩ _ (fun e => hgr.out e)
      · exact (hbl.out.setCell (p := ⟨w.heap.size, 0, none⟩) (Nat.le_refl _) _).setCell (p := ⟨w.heap.size, 1, none⟩) (Nat.le_refl _) _
end Go.Proofs.Ytgjogbihadiojaa
