/-
  Counts of full ways and cycles: four texts in one.
-/
import Derived.Test.YtgjogbihadiojaaJH
import Derived.Test.YtgjogbihadiojaaJ0
import Derived.Test.YtgjogbihadiojaaJ7
namespace Go.Proofs.Ytgjogbihadiojaa
open Go.ChangeShapes Go.WideShapes Go.ChangeAt Go.RowKit
set_option linter.unusedVariables false

theorem i64_andW (x y : Nat) (hx : x < 2 ^ 62) (hy : y < 2 ^ 62) : bits .and .i64 (x : Int) (y : Int) = ((x &&& y : Nat) : Int) := by
  show IntKind.i64.wrap ((BitVec.ofInt 64 x &&& BitVec.ofInt 64 y).toNat : Nat) = _
  rw [BitVec.toNat_and, ofInt_small x hx, ofInt_small y hy]
  exact wrap_small _ (Nat.lt_of_le_of_lt Nat.and_le_left hx)
/-- Where a count stands: a way, and what is left beside it. -/
structure Lw (l : List Int) (m : Nat) (p : List Nat) (s : Nat) : Prop where
  lm : p.length + m = 8
  way : Hw.Way (ww l) p
  ne : p ≠ []
  low : ∀ x ∈ p, x < l.length
  set : Hw.Lf l.length p s
theorem Lw.child {l : List Int} {n : Int} {m b : Nat} {p : List Nat} {s : Nat} (h : Lw l (m + 1) p s) (hok : Ok n l) (hb : b ∈ Hw.nx (ww l) p) : ∃ s2, s = s2 + 2 ^ b ∧ Lw l m (p ++ [b]) s2 := by
  have hl8 : l.length ≤ 8 := by have := hok.2.1; have := hok.2.2.1; omega
  obtain ⟨hb8, hbt, hbp⟩ := Hw.mem_nx.1 hb
  have hpl : p.getLastD 0 < l.length := by
    rw [Hw.last_getD p h.ne]
    exact h.low _ (getD_mem (by have := List.length_pos_iff.2 h.ne; omega))
  have hbl : b < l.length := Rc.bit_lt (hok.ww hpl).2.1 hbt
  obtain ⟨h1, h2⟩ := h.set.snoc hl8 hbl hbp
  refine ⟨s - 2 ^ b, by omega, by have := h.lm; simp; omega, h.way.snoc hbp (.inr hbt), by simp, fun x hx => ?_, h1⟩
  rcases List.mem_append.1 hx with h3 | h3
  · exact h.low x h3
  · obtain rfl : x = b := by simpa using h3
    exact hbl

theorem Lw.last {l : List Int} {m : Nat} {p : List Nat} {s : Nat} (h : Lw l m p s) : p.getLastD 0 < l.length := by
  rw [Hw.last_getD p h.ne]
  exact h.low _ (getD_mem (by have := List.length_pos_iff.2 h.ne; omega))
theorem Lw.not {l : List Int} {m : Nat} {p : List Nat} {s : Nat} (h : Lw l m p s) : s.testBit (p.getLastD 0) = false := by
  rw [h.set]
  have : p.getLastD 0 ∈ p := by rw [Hw.last_getD p h.ne]; exact getD_mem (by have := List.length_pos_iff.2 h.ne; omega)
  rw [List.contains_iff_mem.2 this]; simp
theorem Lw.lt {l : List Int} {n : Int} {m : Nat} {p : List Nat} {s : Nat} (h : Lw l m p s) (hok : Ok n l) : s < 256 := h.set.lt (by have := hok.2.1; have := hok.2.2.1; omega)
theorem Lw.zero {l : List Int} {m : Nat} {p : List Nat} {s : Nat} (h : Lw l m p s) : s = 0 ↔ p.length = l.length := h.set.zero h.way.1 h.low
/-- The first shelf of what a count adds up. -/
theorem ext_le (f : Nat → Nat) (k : Int) {m : Nat} (h : m ≤ 7) (p : List Nat) : (Hw.ext f k m p).length ≤ 2097152 :=
  Nat.le_trans (Hw.ext_len f k m p) (Nat.le_trans (Nat.pow_le_pow_right (by decide) h) (by decide))
theorem extT_le {f : Nat → Nat} {k : Int} {m : Nat} (h : m ≤ 7) (p : List Nat) (j : Nat) : (extT f k m p j).length ≤ 16777216 := by
  refine Nat.le_trans (Hw.flat_len _ 2097152 _ fun b _ => ext_le f k (by omega) _) ?_
  have h1 := Hw.nx_len f p
  have h2 : ((Hw.nx f p).take j).length ≤ 8 := by rw [List.length_take]; omega
  calc _ ≤ 8 * 2097152 := Nat.mul_le_mul h2 (Nat.le_refl _)
    _ = 16777216 := by decide

end Go.Proofs.Ytgjogbihadiojaa
namespace Go.Proofs.Ytgjogbihadiojaa
open Go.ChangeShapes Go.WideShapes Go.ChangeAt Go.RowKit
set_option linter.unusedVariables false

theorem Lw.start {n : Int} {l : List Int} (hok : Ok n l) {q : Nat} (hq : q < l.length) : ∃ s, 2 ^ l.length - 1 = s + 2 ^ q ∧ Lw l 7 [q] s := by
  have hl8 : l.length ≤ 8 := by have := hok.2.1; have := hok.2.2.1; omega
  obtain ⟨h1, h2⟩ := (Hw.Lf.all l.length).snoc hl8 hq (by simp)
  exact ⟨2 ^ l.length - 1 - 2 ^ q, (Nat.sub_add_cancel h2).symm, rfl, Hw.Way.one _ _, by simp, fun x hx => (show x = q from by simpa using hx) ▸ hq, h1⟩
/-- What 'CountFullWays' answers. -/
noncomputable def cfR (n : Int) (l : List Int) : Int := if okB n l then ((Hw.full (ww l) l.length).length : Int) else -1
/-- The ways from the first j players. -/
def fullT (l : List Int) (j : Nat) : List (List Nat) := (List.range j).flatMap (Hw.ways (ww l) (l.length : Int))
theorem fullT_succ (l : List Int) (j : Nat) : fullT l (j + 1) = fullT l j ++ Hw.ways (ww l) (l.length : Int) j := by
  unfold fullT; rw [List.range_succ, List.flatMap_append]; simp
theorem fullT_le (l : List Int) {j : Nat} (h : j ≤ 8) : (fullT l j).length ≤ 16777216 := by
  refine Nat.le_trans (Hw.flat_len _ 2097152 _ fun b _ => Hw.ways_len _ _ _) ?_
  rw [List.length_range]
  calc _ ≤ 8 * 2097152 := Nat.mul_le_mul h (Nat.le_refl _)
    _ = 16777216 := by decide

set_option maxRecDepth 100000 in
set_option maxHeartbeats 2000000 in
theorem implCountFullWays (n : Int) (a : Option Addr) (l : List Int) (cap : Nat) (w : World) (hrow : IntRow w a l) (hl : l.length ≤ maxLen) :
    Calls Try.prog 18 #[.agg #[.int .i64 n, .slice a l.length cap]] w fun e w' => e = .returned (.int .i64 (cfR n l)) ∧ Below w.heap.size w w' := by
  obtain ⟨Wa, hWa⟩ : ∃ Wa, Wa = w.alloc (.cells #[.int .i64 n, .slice a l.length cap] 25) := ⟨_, rfl⟩
  have HWa := Lib.hid hWa
  have hba : Below w.heap.size w Wa := by rw [hWa]; exact (Below.refl _ _).alloc (Nat.le_refl _) _
  have xa : Box Wa w.heap.size 25 (.int .i64 n) (.slice a l.length cap) := by rw [hWa]; exact Box.new _ _ _ _
  have hrowa : IntRow Wa a l := hrow.below hba (Nat.le_refl _)
  have HL := Lib.hid hl
  clear hl hrow hWa
  cases hok : okB n l
  · have HO := Lib.hid hok
    have HE : Hid (cfR n l = -1) := by show _ = _; unfold cfR; rw [hok]; rfl
    clear hok
    go_enter Try.func18, Try.ntmps18
    go_wp2_with fail
    rw [← HWa.out]
    refine (implTourOk n a l cap Wa hrowa HL.out).mono ?_
    rintro e w1 ⟨rfl, hb1⟩
    rw [HO.out]
    have B1 := Lib.hid (hba.trans (hb1.mono hba.size))
    clear hb1
    go_wp2
    go_ret
    exact ⟨by rw [HE.out]; rfl, B1.out⟩
  have HO := Lib.hid hok
  have HE : Hid (cfR n l = ((fullT l l.length).length : Int)) := by show _ = _; unfold cfR; rw [hok]; rfl
  have hk := okB_iff.1 hok
  have HK := Lib.hid hk
  have hnl := hk.2.2.1
  have hl8 : l.length ≤ 8 := by have := hk.2.1; omega
  subst hnl
  clear hk
  have HCW : Hid (∀ (q : Nat) (W : World), q < l.length → IntRow W a l → Calls Try.prog 19 #[.agg #[.int .i64 (l.length : Int), .slice a l.length cap], .int .i64 (q : Int)] W fun e w' => e = .returned (.int .i64 ((Hw.ways (ww l) (l.length : Int) q).length : Nat)) ∧ Below W.heap.size W w') :=
    fun q W hq hr => (implCountWaysFrom _ a l cap (q : Int) W hr HL.out).mono fun e w' ⟨he, hw⟩ => ⟨by rw [he, cwR_yes hok (pl_iff.2 ⟨by omega, by omega⟩)], hw⟩
  clear hok
  go_enter Try.func18, Try.ntmps18
  go_wp2_with fail
  rw [← HWa.out]
  refine (implTourOk _ a l cap Wa hrowa HL.out).mono ?_
  rintro e w1 ⟨rfl, hb1⟩
  rw [HO.out]
  have X1 := Lib.hid (xa.below hb1 xa.lt)
  have R1 := Lib.hid (hrowa.below hb1 (Nat.le_refl _))
  have B1 := Lib.hid (hba.trans (hb1.mono hba.size))
  have c0 := X1.out.c0
  have c1 := X1.out.c1
  clear hb1 hba xa hrowa
  go_wp2
  clear c0 c1
  go_loopw [3, 10] (fun cc i wr => ∃ j c : Nat, j ≤ l.length ∧ i = .int .i64 (j : Int) ∧ cc = .int .i64 (c : Int) ∧ Hid (c = (fullT l j).length) ∧ Below w1.heap.size w1 wr) (fun _ i _ => l.length - (intOf i).toNat)
  case atStart => exact ⟨0, 0, Nat.zero_le _, rfl, rfl, rfl, Below.refl _ _⟩
  case round =>
    obtain ⟨j, c, hj, rfl, rfl, hc, hb⟩ := hrel
    by_cases hlt : j < l.length
    · have xr := X1.out.below hb X1.out.lt
      have c0 := xr.c0
      have c1 := xr.c1
      have hcall := HCW.out j wr hlt (R1.out.below hb (Nat.le_refl _))
      have hx2 := Hw.ways_len (ww l) (l.length : Int) j
      obtain ⟨x, hx⟩ : ∃ x, x = (Hw.ways (ww l) (l.length : Int) j).length := ⟨_, rfl⟩
      rw [← hx] at hcall hx2
      have hc2 : c ≤ 16777216 := by rw [hc.out]; exact fullT_le l (by omega)
      have HN : Hid (c + x = (fullT l (j + 1)).length) := by
        show _ = _
        rw [fullT_succ, List.length_append, ← hc.out, hx]
      have hjb : (j : Int) < (l.length : Int) := by omega
      have HC := Lib.hid hcall
      have HB := Lib.hid hb
      clear hcall hx hb hc xr
      go_wp2_with fail
      refine HC.out.mono ?_
      rintro e w2 ⟨rfl, hb2⟩
      have HB2 := Lib.hid (HB.out.trans (hb2.mono HB.out.size))
      clear hb2 c0 c1
      go_wp2
      go_roundw
      case rel => exact ⟨j + 1, c + x, by omega, by go_num, by go_num, HN, HB2.out⟩
      case measure => simp [intOf]; omega
    · obtain rfl : j = l.length := by omega
      have HF : Hid (cfR (l.length : Int) l = (c : Int)) := by show _ = _; rw [HE.out, hc.out]
      have HB := Lib.hid (B1.out.trans (hb.mono B1.out.size))
      clear hb hc
      go_wp2
      go_ret
      exact ⟨by rw [HF.out]; rfl, HB.out⟩

end Go.Proofs.Ytgjogbihadiojaa
namespace Go.Proofs.Ytgjogbihadiojaa
open Go.ChangeShapes Go.WideShapes Go.ChangeAt Go.RowKit
set_option linter.unusedVariables false

/-- Whether the last one beats player 0. -/
def cB (l : List Int) (w : List Nat) : Bool := (ww l (w.getLastD 0)).testBit 0

end Go.Proofs.Ytgjogbihadiojaa
namespace Go.Proofs.Ytgjogbihadiojaa
open Go.ChangeShapes Go.WideShapes Go.ChangeAt Go.RowKit Go.Shelf
attribute [local go_sem] Oper.semAt_some
set_option linter.unusedVariables false

/-- What 'CountFullCycles' answers. -/
noncomputable def ccR (n : Int) (l : List Int) : Int := if okB n l then ((Hw.ways (ww l) (l.length : Int) 0).countP (Hw.cyc (ww l)) : Nat) else -1
theorem ext_low {f : Nat → Nat} {k : Int} {m : Nat} (hf : ∀ x, x < m → f x < 2 ^ m) : ∀ {n : Nat} {p w : List Nat}, p ≠ [] → (∀ x ∈ p, x < m) → w ∈ Hw.ext f k n p → ∀ x ∈ w, x < m := by
  intro n
  induction n with
  | zero =>
    intro p w hne hp hw
    unfold Hw.ext at hw
    split at hw
    · obtain rfl : w = p := by simpa using hw
      exact hp
    · simp at hw
  | succ n ih =>
    intro p w hne hp hw
    unfold Hw.ext at hw
    split at hw
    · obtain rfl : w = p := by simpa using hw
      exact hp
    · obtain ⟨b, hb, hw⟩ := List.mem_flatMap.1 hw
      obtain ⟨_, hbt, _⟩ := Hw.mem_nx.1 hb
      have hl : p.getLastD 0 < m := by
        rw [Hw.last_getD p hne]
        exact hp _ (getD_mem (by have := List.length_pos_iff.2 hne; omega))
      refine ih (by simp) (fun x hx => ?_) hw
      rcases List.mem_append.1 hx with h | h
      · exact hp x h
      · obtain rfl : x = b := by simpa using h
        exact Rc.bit_lt (hf _ hl) hbt
/-- What is known of a way that comes. -/
theorem ways_at {n : Int} {l : List Int} (hok : Ok n l) {k : Int} {q : Nat} (hq : q < l.length) {w : List Nat} (hw : w ∈ Hw.ways (ww l) k q) : Hw.Way (ww l) w ∧ (w.length : Int) = k ∧ (∀ x ∈ w, x < l.length) ∧ w.getD 0 0 = q := by
  have hl8 : l.length ≤ 8 := by have := hok.2.1; have := hok.2.2.1; omega
  obtain ⟨h1, h2, _, r, rfl⟩ := (Hw.ways_mem (by omega)).1 hw
  exact ⟨h1, h2, ext_low (fun x hx => (hok.ww hx).2.1) (by simp) (p := [q]) (fun x hx => (show x = q from by simpa using hx) ▸ hq) hw, rfl⟩
theorem getD_ofNat (w : List Nat) (i : Nat) : ((w.map Int.ofNat).getD i 0).toNat = w.getD i 0 := by
  rw [List.getD_eq_getElem?_getD, List.getD_eq_getElem?_getD, List.getElem?_map]
  cases w[i]? <;> rfl
theorem isW_ofNat {n : Int} {l : List Int} (hok : Ok n l) {w : List Nat} (h : Hw.Way (ww l) w) (hlow : ∀ x ∈ w, x < l.length) : isW n l (w.map Int.ofNat) = true := by
  refine isW_true ⟨hok, fun x hx => ?_, ?_⟩
  · obtain ⟨y, hy, rfl⟩ := List.mem_map.1 hx
    have := hlow y hy
    exact ⟨by simp, by simp; omega⟩
  · rw [List.map_map, show (Int.toNat ∘ Int.ofNat) = id from funext fun x => by simp, List.map_id]; exact h
theorem isC_ofNat {n : Int} {l : List Int} (hok : Ok n l) {w : List Nat} (h : Hw.Way (ww l) w) (hlow : ∀ x ∈ w, x < l.length) : isC n l (w.map Int.ofNat) = Hw.cyc (ww l) w := by
  unfold isC Hw.cyc
  rw [isW_ofNat hok h hlow, Bool.true_and, List.length_map, getD_ofNat, getD_ofNat]
  rcases Classical.em (w = []) with rfl | hne
  · rfl
  · rw [Hw.last_getD w hne]
theorem YW.mem {Ls : List (List Nat)} {B : Nat} {pre : List Wx} {x : Wx} {W : World} (h : YW Ls B pre x W) : x.1 ∈ Ls := by
  obtain ⟨rest, h⟩ := h.next
  rw [h]; simp
theorem YW.row {Ls : List (List Nat)} {B : Nat} {pre : List Wx} {x : Wx} {W : World} (h : YW Ls B pre x W) : IntRow W (some ⟨x.2.1, 0, none⟩) (x.1.map Int.ofNat) := by
  have := h.own
  rw [nv_iv] at this
  have e : (x.1.map Int.ofNat).length = x.1.length := List.length_map _
  exact IntRow.of_own (B := B) (cap := x.2.2) (by rw [e]; exact this)

theorem Box.turnZ {A C : World} {row : Option Nat} {g : Nat} {v0 v1 : Value} (h : Box A g 25 v0 v1) (hg : A.grownBy C row) (hr : ∀ r, row = some r → ∃ o : Obj, A.heap[r]? = some o ∧ (o.isCells = false ∨ Zl o)) : Box C g 25 v0 v1 := by
  refine (hg.block g h.lt (fun e2 => ?_)).trans h
  obtain ⟨o, ho, h2⟩ := hr g e2.symm
  rw [show A.heap[g]? = _ from h] at ho
  cases ho
  rcases h2 with h2 | ⟨v2, v3, h2⟩
  · cases h2
  · simp at h2
theorem ownZ_box {β : Type} (B g : Nat) (v0 v1 : Value) : OwnZ Zl B (fun (_ : β) W => Box W g 25 v0 v1) := fun s A C row hs hg hr => Box.turnZ hs hg (fun r e => (hr r e).2)

set_option maxRecDepth 100000 in
set_option maxHeartbeats 2000000 in
theorem implCountFullCycles (n : Int) (a : Option Addr) (l : List Int) (cap : Nat) (w : World) (hrow : IntRow w a l) (hl : l.length ≤ maxLen) :
    Calls Try.prog 25 #[.agg #[.int .i64 n, .slice a l.length cap]] w fun e w' => e = .returned (.int .i64 (ccR n l)) ∧ Below w.heap.size w w' := by
  obtain ⟨Wa, hWa⟩ : ∃ Wa, Wa = w.alloc (.cells #[.int .i64 n, .slice a l.length cap] 25) := ⟨_, rfl⟩
  have HWa := Lib.hid hWa
  have HRW := Lib.hid hrow
  have hba : Below w.heap.size w Wa := by rw [hWa]; exact (Below.refl _ _).alloc (Nat.le_refl _) _
  have xa : Box Wa w.heap.size 25 (.int .i64 n) (.slice a l.length cap) := by rw [hWa]; exact Box.new _ _ _ _
  have hrowa : IntRow Wa a l := hrow.below hba (Nat.le_refl _)
  have HL := Lib.hid hl
  clear hl hrow hWa
  cases hok : okB n l
  · have HO := Lib.hid hok
    have HE : Hid (ccR n l = -1) := by show _ = _; unfold ccR; rw [hok]; rfl
    clear hok
    go_enter Try.func25, Try.ntmps25
    go_wp2_with fail
    rw [← HWa.out]
    refine (implTourOk n a l cap Wa hrowa HL.out).mono ?_
    rintro e w1 ⟨rfl, hb1⟩
    rw [HO.out]
    have B1 := Lib.hid (hba.trans (hb1.mono hba.size))
    clear hb1
    go_wp2
    go_ret
    exact ⟨by rw [HE.out]; rfl, B1.out⟩
  have HO := Lib.hid hok
  have hk := okB_iff.1 hok
  have hqq : 0 < l.length := by have := hk.1; have := hk.2.2.1; omega
  have HE : Hid (ccR n l = ((Hw.ways (ww l) (l.length : Int) 0).countP (Hw.cyc (ww l)) : Nat)) := by show _ = _; unfold ccR; rw [hok]; rfl
  have HK := Lib.hid hk
  have hnl := hk.2.2.1
  subst hnl
  have hlow : Hid (∀ b, blk a = some b → b < w.heap.size + 1) := fun b e => by
    have hsz : Wa.heap.size = w.heap.size + 1 := by rw [HWa.out]; simp
    rcases hrowa with h2 | ⟨b2, off, rfl, hb, _⟩
    · rw [h2] at hqq; simp at hqq
    · simp [blk] at e; omega
  clear hok hk
  refine (callsIn_wide (n := 8)).1 ?_
  refine callsIn_of_wp_marks Try.func25 rfl trivial ?_ rfl
  simp only [Try.ntmps25, List.size_toArray, List.length_cons, List.length_nil, Nat.reduceAdd, Nat.reduceSub, Array.replicate_succ, Array.replicate_zero, List.push_toArray, List.append_toArray, List.nil_append, List.cons_append]
  gi_wp2_with fail
  refine ⟨trivial, ?_⟩
  rw [← HWa.out]
  refine (callsIn_wide.2 (implTourOk _ a l cap Wa hrowa HL.out)).mono ?_
  rintro e w1 ⟨rfl, hb1⟩
  rw [HO.out]
  have xa1 := xa.below hb1 xa.lt
  have hrow1 := hrowa.below hb1 (Nat.le_refl _)
  have bw1 := hba.trans (hb1.mono hba.size)
  have c0 := xa1.c0
  have c1 := xa1.c1
  obtain ⟨w2, hw2⟩ : ∃ w2, w2 = w1 := ⟨_, rfl⟩
  subst hw2
  have hb2 : True := trivial
  have xa2 := xa1
  have hrow2 := hrow1
  have bw2 := bw1
  obtain ⟨W2, hW2⟩ : ∃ W2, W2 = w2.alloc (.cells #[.int .i64 0] 3) := ⟨_, rfl⟩
  have hbW : Below w2.heap.size w2 W2 := by rw [hW2]; exact (Below.refl _ _).alloc (Nat.le_refl _) _
  have xc : Boxed W2 w2.heap.size 3 (.int .i64 0) := by rw [hW2]; exact Boxed.new _ _ _
  have xa3 := xa2.below hbW xa2.lt
  have hrow3 := hrow2.below hbW (Nat.le_refl _)
  have bw3 := bw2.trans (hbW.mono bw2.size)
  obtain ⟨W3, hW3⟩ : ∃ W3, W3 = ((W2.alloc (.cells #[.int .i64 (l.length : Int), .slice a l.length cap] 25)).alloc (.cells #[.int .i64 0] 3)).alloc (.cells #[.int .i64 (l.length : Int)] 3) := ⟨_, rfl⟩
  obtain ⟨hb3, xt, xq, xk, hs3⟩ := three_new hW3
  have XA := Lib.hid (xa3.below hb3 xa3.lt)
  have xc4 : Boxed W3 w2.heap.size 3 (.int .i64 0) := (hb3.block _ xc.lt).trans xc
  have hrow4 := hrow3.below hb3 (Nat.le_refl _)
  have bw4 := bw3.trans (hb3.mono bw3.size)
  have q1 : w.heap.size < w2.heap.size := xa2.lt
  have q2 : w2.heap.size < W2.heap.size := xc.lt
  have hac : ∀ b, blk a = some b → b ≠ w2.heap.size := fun b e => by have := hlow.out b e; omega
  clear c0 c1
  have c0 := xa3.c0
  have c1 := xa3.c1
  rw [hW2] at c0 c1
  have HW2 := Lib.hid hW2
  have HW3 := Lib.hid hW3
  have XT := Lib.hid xt
  have XC := Lib.hid xc4
  have XQ := Lib.hid xq
  have XK := Lib.hid xk
  have HR := Lib.hid hrow4
  have BW := Lib.hid bw4
  clear hW2 hW3 xt xc4 xq xk hrow4 bw4 bw3 hrow3 xa3 xc bw2 hrow2 xa2 bw1 hrow1 xa1 hbW hb3 hb1 hb2 hba xa hrowa
  gi_wp2_with fail
  refine ⟨trivial, ?_⟩
  rw [← HW2.out]
  refine (callsIn_wide.2 (waysFrom_any _ a l.length cap (0 : Int) (l.length : Int) W2)).mono ?_
  rintro e w4 ⟨rfl, hw4⟩
  rw [← HW3.out] at hw4
  have hw5 := hw4.symm
  clear hw4
  subst hw5
  clear c0 c1
  gi_wp2
  refine rangeZ (F := Fence.wide) (Z := Zl) rfl (by omega) (gf := 111) (lb := #[.pointer (some ⟨W2.heap.size + 1, 0, none⟩), .pointer (some ⟨W2.heap.size + 1 + 1, 0, none⟩), .pointer (some ⟨W2.heap.size, 0, none⟩)]) rfl trivial (enters_of Try.func111 (by kernel_rfl) rfl)
    (ways_stops W2.heap.size (W2.heap.size + 1) (W2.heap.size + 1 + 1) (W3.heap.size + 2) (fun b _ => b ≠ w2.heap.size) _ a cap l 0 (l.length : Int) HK.out hqq W3 XT.out XQ.out XK.out HR.out (fun _ => by omega) (fun _ => by omega) (fun b o e => hac b e) (fun b o h => by omega))
    (fun h k => h.trans k) (fun W l o o2 h hc => KeepR.put W l o o2 h hc) (fun pre x W l o o2 _ ho hc h => h.put l o o2 ho hc) (Below.refl _ _) (fun _ => rfl)
    (fun pre W => (Boxed W w2.heap.size 3 (.int .i64 (((pre.map Prod.fst).countP (Hw.cyc (ww l)) : Nat) : Int)) ∧ Box W w.heap.size 25 (.int .i64 (l.length : Int)) (.slice a l.length cap)) ∧ Below w.heap.size w W)
    (fun _ _ _ => False)
    (OwnZ.and (OwnZ.and (ownZ_boxed _ _ _ (fun pre : List Wx => .int .i64 (((pre.map Prod.fst).countP (Hw.cyc (ww l)) : Nat) : Int))) (ownZ_box _ _ _ _)) (ownZ_below (Nat.le_refl _) (by omega)))
    (fun _ _ _ _ _ hs _ _ => hs)
    ⟨⟨XC.out, XA.out⟩, BW.out⟩
    (fun x => { tmps := #[.agg #[.int .i64 (l.length : Int), .slice a l.length cap], .pointer (some ⟨w.heap.size, 0, none⟩), .int .i64 0, .pointer (some ⟨w2.heap.size, 0, none⟩), .slice (some ⟨x.2.1, 0, none⟩) x.1.length x.2.2, .agg #[.int .i64 (l.length : Int), .slice a l.length cap], .bool true, .bool false, .agg #[.int .i64 (l.length : Int), .slice a l.length cap], .pointer (some ⟨w.heap.size, 0, none⟩), .int .i64 (l.length : Int), .func (.func 111) #[] #[.pointer (some ⟨W2.heap.size + 1, 0, none⟩), .pointer (some ⟨W2.heap.size + 1 + 1, 0, none⟩), .pointer (some ⟨W2.heap.size, 0, none⟩)], .slice (some ⟨x.2.1, 0, none⟩) x.1.length x.2.2, undef, undef, undef, undef, undef, undef], defers := [] }) ?assign ?body ?done ?stop
  case assign =>
    intro lg x W' K hK
    unfold encW
    gi_wp2
    exact hK
  case body =>
    rintro lg pre x Wr ⟨⟨hc, hx⟩, hB⟩ hy
    have hcc := hc.cell
    have hcf := hc.frozen
    have c0 := hx.c0
    have c1 := hx.c1
    have hcnt := hy.count
    have hle := wways_len l (l.length : Int) 0
    obtain ⟨hw1, hw2, hw3, _⟩ := ways_at HK.out hqq hy.mem
    have hcy := implIsCycle (l.length : Int) a l cap (some ⟨x.2.1, 0, none⟩) (x.1.map Int.ofNat) x.2.2 Wr (HRW.out.below hB (Nat.le_refl _)) HL.out hy.row (by rw [List.length_map]; have := HK.out.2.1; unfold maxLen; omega)
    rw [List.length_map, isC_ofNat HK.out hw1 hw3] at hcy
    obtain ⟨v, hv⟩ : ∃ v, v = (pre.map Prod.fst).countP (Hw.cyc (ww l)) := ⟨_, rfl⟩
    rw [← hv] at hcc
    have hv2 : v ≤ 2097152 := by
      have : v ≤ (pre.map Prod.fst).length := by rw [hv]; exact List.countP_le_length
      rw [List.length_map] at this; omega
    have hsn : ((pre ++ [x]).map Prod.fst).countP (Hw.cyc (ww l)) = v + if Hw.cyc (ww l) x.1 then 1 else 0 := by rw [hv, List.map_append, List.countP_append]; simp [List.countP_cons]
    have HSN := Lib.hid hsn
    have HCY := Lib.hid hcy
    have HV := Lib.hid hv
    have HC := Lib.hid hc
    have HX := Lib.hid hx
    have HB := Lib.hid hB
    clear hc hx hB hy hv hcnt hle hcy hsn hw1 hw2 hw3
    gi_wp2_with fail
    refine ⟨trivial, ?_⟩
    refine (CallsIn.inRound lg (callsIn_wide.2 HCY.out)).mono ?_
    rintro e w5 ⟨rfl, hb5⟩
    have xc5 : Boxed w5 w2.heap.size 3 _ := (hb5.block _ HC.out.lt).trans HC.out
    have hcc5 := xc5.cell
    have hcf5 := xc5.frozen
    rw [← HV.out] at hcc5
    have hx5 := HX.out.below hb5 HX.out.lt
    have hB5 := HB.out.trans (hb5.mono HB.out.size)
    have H5 := Lib.hid hb5
    have XC5 := Lib.hid xc5
    have HX5 := Lib.hid hx5
    have HB5 := Lib.hid hB5
    clear hb5 xc5 hx5 hB5 hcc hcf c0 c1 HCY
    cases ha : Hw.cyc (ww l) x.1
    · have HA := Lib.hid ha
      clear ha
      gi_wp2
      refine ⟨kf_below H5.out, KeepR.below H5.out, ⟨?_, HX5.out⟩, HB5.out⟩
      have := XC5.out
      rw [HSN.out, HA.out]
      rw [← HV.out] at this
      exact this
    · have HA := Lib.hid ha
      have hv1 : ((v : Int) + 1) = ((((pre ++ [x]).map Prod.fst).countP (Hw.cyc (ww l)) : Nat) : Int) := by rw [HSN.out, ha]; rfl
      have HV1 := Lib.hid hv1
      clear ha hv1
      gi_wp2
      refine ⟨(kf_below H5.out).trans ((KeepsOthers.setCell _ _ _).from _), (KeepR.below H5.out).trans (KeepR.grown (grownBy_setCell' _ _ _) (fun g o e _ hn => by cases e; exact hn rfl)), ⟨?_, HX5.out.grown (grownBy_setCell' _ _ _) (fun e => by have := Option.some.inj e; omega)⟩, HB5.out.setCell (p := ⟨w2.heap.size, 0, none⟩) (by simp only; omega) _⟩
      rw [← HV1.out]
      exact Boxed.set _ XC5.out
  case done =>
    rintro D ys W' hD hS ⟨⟨hc, hx⟩, hB⟩ hK
    have hcc := hc.cell
    rw [hS, ← HE.out] at hcc
    have HB := Lib.hid hB
    have HKK := Lib.hid hK
    clear hc hx hB hK hS
    gi_wp2
    refine ⟨by simp, .inl ⟨_, _, rfl, run_takeDeferred HKK.out, ?_⟩⟩
    exact ⟨_, results_tmp rfl _ _ _, rfl, HB.out.trans (belowK_b (w := W3) (by have := BW.out.size; omega) W' D _ _ (by omega) HKK.out rfl rfl)⟩
  case stop =>
    rintro D c pre W _ _ h _
    exact h.elim
end Go.Proofs.Ytgjogbihadiojaa
