/-
  'TransitiveOrder' of the program and of the model. No conditions but the bounds that Go gives a slice.
-/
import Derived.Test.Ytgjogbihadiojaa8H
import Derived.Laws.MakeOwn
namespace Go.Proofs.Ytgjogbihadiojaa
open Go.ChangeShapes Go.WideShapes Go.ChangeAt Go.RowKit
set_option linter.unusedVariables false

theorem own_other8 {w : World} {B g n c : Nat} {xs : List Value} (h : w.ownsRow B 3 1 (.slice (some ⟨g, 0, none⟩) n c) n xs) (p : Addr) (u : Value) (hp : g ≠ p.block) : (w.setCell p u).ownsRow B 3 1 (.slice (some ⟨g, 0, none⟩) n c) n xs := by
  have hg : w.grownBy (w.setCell p u) (some p.block) := ⟨rfl, rfl, rfl, by simp [World.setCell], fun k hk hn => heap_setCell_other w p k u (fun e => hn (by rw [e]))⟩
  exact own_grown h hg (fun k hk e => hp (by simp [blk] at hk; simp at e; omega))
/-- The order while it is made: each one at the place that its score tells. -/
def ordTo (S : List Nat) : Nat → List Nat
  | 0 => List.replicate S.length 0
  | k + 1 => (ordTo S k).set (S.length - 1 - S.getD k 0) k
theorem ordTo_len (S : List Nat) : ∀ k, (ordTo S k).length = S.length
  | 0 => by simp [ordTo]
  | k + 1 => by simp [ordTo, ordTo_len S k]
/-- What both 'TransitiveOrder' answer. -/
noncomputable def ordR (n : Int) (l : List Int) : List Int := if tranB n l then (ordTo (scoresL l) (scoresL l).length).map Int.ofNat else []
theorem ordR_le (n : Int) (l : List Int) : (ordR n l).length ≤ 8 := by
  unfold ordR
  cases h : tranB n l
  · simp
  · unfold tranB at h
    have hk := okB_iff.1 (Bool.and_eq_true_iff.1 h).1
    simp only [if_true, List.length_map, ordTo_len, scoresL_len]
    have := hk.2.1; have := hk.2.2.1; omega
/-- Nobody's score is as great as the number of the players. -/
theorem score_lt {n : Int} {l : List Int} (h : Ok n l) (k : Nat) (hk : k < l.length) : (scoresL l).getD k 0 < l.length := by
  rw [score_sc h k hk]
  have : ∀ m, m ≤ l.length → Tr8.sc (bt l k) m ≤ m ∧ (k < m → Tr8.sc (bt l k) m < m) := by
    intro m
    induction m with
    | zero => exact fun _ => ⟨Nat.le_refl _, fun h => absurd h (Nat.not_lt_zero _)⟩
    | succ m ih =>
      intro hm
      obtain ⟨h1, h2⟩ := ih (by omega)
      have e : Tr8.sc (bt l k) (m + 1) = Tr8.sc (bt l k) m + Tr8.v (bt l k m) := rfl
      have hv : Tr8.v (bt l k m) ≤ 1 := by unfold Tr8.v; split <;> omega
      refine ⟨by omega, fun hkm => ?_⟩
      rcases Nat.lt_or_ge k m with h' | h'
      · have := h2 h'; omega
      · have hkm' : m = k := by omega
        subst hkm'
        have hz : bt l m m = false := h.self8 hk
        have : Tr8.v (bt l m m) = 0 := by rw [hz]; rfl
        omega
  exact (this l.length (Nat.le_refl _)).2 hk

set_option maxRecDepth 100000 in
set_option maxHeartbeats 2000000 in
theorem implOrder (n : Int) (a : Option Addr) (l : List Int) (cap : Nat) (w : World) (hrow : IntRow w a l) (hl : l.length ≤ maxLen) :
    Calls Try.prog 74 #[.agg #[.int .i64 n, .slice a l.length cap]] w fun e w' => (∃ a0 c0, e = .returned (.tuple #[.slice a0 (ordR n l).length c0, .bool (tranB n l)]) ∧ w'.ownsRow w.heap.size 3 1 (.slice a0 (ordR n l).length c0) (ordR n l).length ((ordR n l).map iv)) ∧ Below w.heap.size w w' := by
  obtain ⟨i0, hi, hz0, hz1, hz2⟩ := info_parts infoInt
  obtain ⟨Wa, hWa⟩ : ∃ Wa, Wa = w.alloc (.cells #[.int .i64 n, .slice a l.length cap] 25) := ⟨_, rfl⟩
  have HWa := Lib.hid hWa
  have hba : Below w.heap.size w Wa := by rw [hWa]; exact (Below.refl _ _).alloc (Nat.le_refl _) _
  have xa : Box Wa w.heap.size 25 (.int .i64 n) (.slice a l.length cap) := by rw [hWa]; exact Box.new _ _ _ _
  have hrowa : IntRow Wa a l := hrow.below hba (Nat.le_refl _)
  have HL := Lib.hid hl
  have htr := implTran n a l cap Wa hrowa hl
  obtain ⟨B, hB⟩ : ∃ B, B = tranB n l := ⟨_, rfl⟩
  rw [← hB] at htr ⊢
  have HT := Lib.hid htr
  clear hl hrow hWa htr
  cases B
  · have HE : Hid (ordR n l = []) := by show _ = _; unfold ordR; rw [← hB]; rfl
    clear hB
    go_enter Try.func74, Try.ntmps74
    go_wp2_with fail
    rw [← HWa.out]
    refine HT.out.mono ?_
    rintro e w1 ⟨rfl, hb1⟩
    go_wp2
    go_ret2
    refine ⟨⟨none, 0, by rw [HE.out]; rfl, ?_⟩, hba.trans (hb1.mono hba.size)⟩
    rw [HE.out]; exact World.ownsRow_nil _ _ _ _
  · have hok : okB n l = true := by
      cases h : okB n l
      · unfold tranB at hB; rw [h] at hB; cases hB
      · rfl
    have hk := okB_iff.1 hok
    have hl8 : l.length ≤ 8 := by have := hk.2.1; have := hk.2.2.1; omega
    have hl1 : 1 ≤ l.length := by have := hk.1; have := hk.2.2.1; omega
    obtain rfl : n = (l.length : Int) := hk.2.2.1.symm
    have hsl : Hid (∀ k, k < l.length → (scoresL l).getD k 0 < l.length) := fun k hk' => score_lt hk k hk'
    have hlen := scoresL_len l
    have HE : Hid (ordR l.length l = (ordTo (scoresL l) (scoresL l).length).map Int.ofNat) := by show _ = _; unfold ordR; rw [← hB]; rfl
    have HCS : Hid (∀ (W : World), IntRow W a l → Calls Try.prog 71 #[.agg #[.int .i64 (l.length : Int), .slice a l.length cap]] W fun e w' => (∃ a1 c1, e = .returned (.slice a1 l.length c1) ∧ w'.ownsRow W.heap.size 3 1 (.slice a1 l.length c1) l.length ((scoresL l).map nv)) ∧ Below W.heap.size W w') := by
      intro W hR
      refine (implScores l.length a l cap W hR HL.out (okB_iff.2 hk)).mono ?_
      rintro e w' ⟨⟨a1, c1, rfl, _, ho⟩, hb⟩
      rw [hlen] at ho ⊢
      exact ⟨⟨a1, c1, rfl, ho⟩, hb⟩
    have HLEN := Lib.hid hlen
    clear hB hok hk hlen
    go_enter Try.func74, Try.ntmps74
    go_wp2_with fail
    rw [← HWa.out]
    refine HT.out.mono ?_
    rintro e w1 ⟨rfl, hb1⟩
    have xa1 := xa.below hb1 xa.lt
    have c0 := xa1.c0
    have c1 := xa1.c1
    have B1 := Lib.hid (hba.trans (hb1.mono hba.size))
    have hr1 := Lib.hid (hrowa.below hb1 (Nat.le_refl _))
    have XA1 := Lib.hid xa1
    clear hb1 xa xa1 hrowa
    go_wp2_with (refine wpList_make_full _ rfl _ _ 23 rfl w1.heap.size 3 i0 (.int .i64 0) 1 Try.underlying23 hi hz0 hz1 .i64 .i64 _ _ l.length rfl rfl rfl rfl ?c1 ?c2 ?c3 ?_)
    case c1 => rw [hz2]; omega
    case c2 => unfold maxLen; omega
    case c3 => exact Nat.le_refl _
    intro w2 hown hg
    have hb2 : Below w1.heap.size w1 w2 := (Below.refl _ w1).grown hg (Nat.le_refl _) (fun k hk => by cases hk)
    rw [zeros] at hown
    have xa2 := XA1.out.below hb2 XA1.out.lt
    clear c0 c1
    have c0 := xa2.c0
    have c1 := xa2.c1
    have hr2 := hr1.out.below hb2 (Nat.le_refl _)
    have B2 := Lib.hid (B1.out.trans (hb2.mono B1.out.size))
    have hgl : w1.heap.size < w2.heap.size := (hown.lt w1.heap.size rfl).2
    have HO2 := Lib.hid hown
    have XA2 := Lib.hid xa2
    have HB2 := Lib.hid hb2
    clear hown hg hb2 xa2
    go_wp2_with fail
    refine (HCS.out w2 hr2).mono ?_
    rintro e w3 ⟨⟨a1, cp1, rfl, ho3⟩, hb3⟩
    have xa3 := XA2.out.below hb3 XA2.out.lt
    clear c0 c1
    have B3 := Lib.hid (B2.out.trans (hb3.mono B2.out.size))
    have HO3 := Lib.hid (own_below HO2.out hb3)
    have HS3 := Lib.hid ho3
    have XA3 := Lib.hid xa3
    have hbg : Hid (∀ k, blk a1 = some k → k ≠ w1.heap.size) := fun k e => by have := (own_blk ho3 e).1; omega
    have hwg : Hid (w.heap.size ≠ w1.heap.size) := by have := XA1.out.lt; show _ ≠ _; omega
    have hwl : Hid (w.heap.size ≤ w1.heap.size) := by have := XA1.out.lt; show _ ≤ _; omega
    clear ho3 hb3 xa3 hr2 hgl
    go_wp2
    go_loopw [16] (fun i wr => ∃ k : Nat, k ≤ l.length ∧ i = .int .i64 (k : Int) ∧ Hid (Below w.heap.size w wr ∧ Box wr w.heap.size 25 (.int .i64 (l.length : Int)) (.slice a l.length cap) ∧ wr.ownsRow w2.heap.size 3 1 (.slice a1 l.length cp1) l.length ((scoresL l).map nv) ∧ wr.ownsRow w1.heap.size 3 1 (.slice (some ⟨w1.heap.size, 0, none⟩) l.length l.length) l.length ((ordTo (scoresL l) k).map nv))) (fun i _ => l.length - (intOf i).toNat)
    case atStart => exact ⟨0, Nat.zero_le _, rfl, B3.out, XA3.out, HS3.out, by unfold ordTo; rw [HLEN.out]; exact HO3.out⟩
    case round =>
      obtain ⟨k, hk, rfl, hst⟩ := hrel
      obtain ⟨hbw, hx, hsr, hor⟩ := hst.out
      by_cases hlt : k < l.length
      · obtain ⟨s, hs⟩ : ∃ s, s = (scoresL l).getD k 0 := ⟨_, rfl⟩
        have hsn : s < l.length := by rw [hs]; exact hsl.out k hlt
        have hsat : (scoresL l)[k]? = some s := by rw [hs, List.getD_eq_getElem?_getD, List.getElem?_eq_getElem (by rw [HLEN.out]; exact hlt)]; rfl
        have hne : 0 < l.length := by omega
        obtain ⟨ga, hga⟩ : ∃ ga, a1 = some ⟨ga, 0, none⟩ := by
          rcases hsr.2 with ⟨_, hx0⟩ | ⟨g, cap', cur, hv, _⟩
          · omega
          · cases hv; exact ⟨g, rfl⟩
        subst hga
        have hc := hsr.cellAt k (by omega)
        rw [List.getElem?_map, hsat] at hc
        have c0 := hx.c0
        obtain ⟨j, hj⟩ : ∃ j, j = l.length - 1 - s := ⟨_, rfl⟩
        have hjl : j < l.length := by omega
        have hjs : IntKind.i64.wrap ((l.length : Int) - 1 - (s : Int)) = (j : Int) := by rw [show (l.length : Int) - 1 - (s : Int) = (j : Int) by omega]; exact wrap_small j (by omega)
        have hcj : ∃ v, wr.cell? ⟨w1.heap.size, j, none⟩ = some v := by
          rw [hor.cellAt j (by omega), List.getElem?_map]
          exact ⟨_, by rw [List.getElem?_eq_getElem (by rw [ordTo_len, HLEN.out]; exact hjl)]; rfl⟩
        obtain ⟨v, hcj⟩ := hcj
        have hfj := hor.frozenAt j
        have hkl : (k : Int) < (l.length : Int) := by omega
        have hst2 := (hor.stored j (nv k)).1
        have HN : Hid (Below w.heap.size w (wr.setCell ⟨w1.heap.size, j, none⟩ (nv k)) ∧ Box (wr.setCell ⟨w1.heap.size, j, none⟩ (nv k)) w.heap.size 25 (.int .i64 (l.length : Int)) (.slice a l.length cap) ∧ (wr.setCell ⟨w1.heap.size, j, none⟩ (nv k)).ownsRow w2.heap.size 3 1 (.slice (some ⟨ga, 0, none⟩) l.length cp1) l.length ((scoresL l).map nv) ∧ (wr.setCell ⟨w1.heap.size, j, none⟩ (nv k)).ownsRow w1.heap.size 3 1 (.slice (some ⟨w1.heap.size, 0, none⟩) l.length l.length) l.length ((ordTo (scoresL l) (k + 1)).map nv)) := by
          refine ⟨hbw.setCell (p := ⟨w1.heap.size, j, none⟩) hwl.out _, hx.other _ _ hwg.out, own_other8 hsr _ _ (hbg.out ga rfl), ?_⟩
          unfold ordTo
          rw [← hs, HLEN.out, ← hj, List.map_set]
          exact hst2
        clear hst hbw hx hsr hor hst2 hs hsat hj
        unfold nv at hc
        go_wp2
        go_roundw
        case rel => exact ⟨k + 1, by omega, by go_num, HN.out⟩
        case measure => simp [intOf]; omega
      · obtain rfl : k = l.length := by omega
        clear hst
        have HF := Lib.hid hor
        have HBW := Lib.hid hbw
        clear hor hbw hx hsr
        go_wp2
        go_ret2
        have he : (ordR l.length l).length = l.length := by rw [HE.out, List.length_map, ordTo_len, HLEN.out]
        refine ⟨⟨some ⟨w1.heap.size, 0, none⟩, l.length, by rw [he]; rfl, ?_⟩, HBW.out⟩
        rw [he, HE.out, HLEN.out, ← nv_iv]
        exact HF.out.mono hwl.out

end Go.Proofs.Ytgjogbihadiojaa
