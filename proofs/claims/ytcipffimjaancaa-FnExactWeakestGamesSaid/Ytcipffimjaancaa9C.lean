/-
  'StrongParts' of the model. No conditions but the bounds that Go gives a slice.
-/
import Derived.Test.Ytcipffimjaancaa9B
import Derived.Test.YtcipffimjaancaaN
namespace Go.Proofs.Ytcipffimjaancaa
open Go.ChangeShapes Go.WideShapes Go.ChangeAt Go.RowKit
set_option linter.unusedVariables false

theorem nb_step (f : Nat → Bool) (k : Nat) (c : Bool) (h : f k = c) : Rc.nb f (k + 1) = Rc.nb f k + if c then 2 ^ k else 0 := by subst h; rfl
theorem own_empty9 (w : World) (B p : Nat) (hB : B ≤ w.heap.size) (hp : w.heap.size = p) : (w.alloc (.cells #[] 3)).ownsRow B 3 1 (.slice (some ⟨p, 0, none⟩) 0 0) 0 [] := by
  subst hp
  have := World.ownsRow_lit (base := B) (e := 3) (size := 1) w #[] 0 hB (by simp) rfl
  simpa using this

/-- What the loops hold. -/
structure Lq (w W : World) (n : Int) (a : Option Addr) (l : List Int) (cap : Nat) (v : Value) (m : Nat) (L : List Value) : Prop where
  hb : Below w.heap.size w W
  hx : Box W w.heap.size 25 (.int .i64 n) (.slice a l.length cap)
  hr : IntRow W a l
  ho : W.ownsRow (w.heap.size + 1) 3 1 v m L
  hv : ∃ g, v.ownBlock = some g
theorem Lq.below {w W W' : World} {n : Int} {a : Option Addr} {l : List Int} {cap : Nat} {v : Value} {m : Nat} {L : List Value} (h : Lq w W n a l cap v m L) (hb : Below W.heap.size W W') : Lq w W' n a l cap v m L :=
  ⟨h.hb.trans (hb.mono h.hb.size), h.hx.below hb h.hx.lt, h.hr.below hb (Nat.le_refl _), h.ho.kept (grown_of_below hb) (by cases v.ownBlock <;> simp), h.hv⟩

set_option maxRecDepth 100000 in
set_option maxHeartbeats 4000000 in
theorem specParts (n : Int) (a : Option Addr) (l : List Int) (cap : Nat) (w : World) (hrow : IntRow w a l) (hl : l.length ≤ maxLen) :
    Calls Try.prog 33 #[.agg #[.int .i64 n, .slice a l.length cap]] w fun e w' => (∃ a0 c0, e = .returned (.slice a0 (spR n l).length c0) ∧ w'.ownsRow w.heap.size 3 1 (.slice a0 (spR n l).length c0) (spR n l).length ((spR n l).map iv)) ∧ Below w.heap.size w w' := by
  obtain ⟨i0, hi, hz0, hz1, hz2⟩ := info_parts infoInt
  obtain ⟨Wa, hWa⟩ : ∃ Wa, Wa = w.alloc (.cells #[.int .i64 n, .slice a l.length cap] 25) := ⟨_, rfl⟩
  have HWa := Lib.hid hWa
  have hba : Below w.heap.size w Wa := by rw [hWa]; exact (Below.refl _ _).alloc (Nat.le_refl _) _
  have xa : Box Wa w.heap.size 25 (.int .i64 n) (.slice a l.length cap) := by rw [hWa]; exact Box.new _ _ _ _
  have hrowa : IntRow Wa a l := hrow.below hba (Nat.le_refl _)
  have HRW := Lib.hid hrow
  have HL := Lib.hid hl
  clear hl hrow hWa
  cases hok : okB n l
  · have HO := Lib.hid hok
    have HE : Hid (spR n l = []) := by show _ = _; unfold spR; rw [hok]; rfl
    clear hok
    go_enter Try.func33, Try.ntmps33
    go_wp2_with fail
    rw [← HWa.out]
    refine (specTourOk n a l cap Wa hrowa HL.out).mono ?_
    rintro e w1 ⟨rfl, hb1⟩
    rw [HO.out]
    go_wp2
    go_ret
    refine ⟨⟨none, 0, by rw [HE.out]; rfl, ?_⟩, hba.trans (hb1.mono hba.size)⟩
    rw [HE.out]; exact World.ownsRow_nil _ _ _ _
  · have HO := Lib.hid hok
    have hk := okB_iff.1 hok
    have HK := Lib.hid hk
    have hl8 : l.length ≤ 8 := by have := hk.2.1; have := hk.2.2.1; omega
    have hl1 : 1 ≤ l.length := by have := hk.1; have := hk.2.2.1; omega
    obtain rfl : n = (l.length : Int) := hk.2.2.1.symm
    obtain ⟨D, hD⟩ : ∃ D, D = dsL l := ⟨_, rfl⟩
    have HE : Hid (spR l.length l = (Rc.dfs D).map Int.ofNat) := by show _ = _; unfold spR; rw [hok, hD]; rfl
    have HCH : Hid (Rc.Chain l.length (ww l) D) := by rw [hD]; exact chainL hk
    have hD8 : D.length ≤ 8 := by rw [hD]; exact ds_len hk
    have HV : Hid (Rc.Va l.length (ww l)) := vaR hk
    have hdlt : Hid (∀ i, D.getD i 0 < 256) := fun i => by rw [hD]; exact ds_lt hk i
    have hhead := HCH.out.head HV.out (by omega)
    obtain ⟨x0, hx0⟩ : ∃ x0, x0 = D.getD 0 0 := ⟨_, rfl⟩
    have HX0 := Lib.hid hx0
    have HD0 : Hid (((2 ^ l.length : Nat) : Int) - 1 = (x0 : Int)) := by
      show _ = _
      rw [hx0, hhead.1]
      have := Nat.two_pow_pos l.length
      omega
    have hD0 := hhead.2
    clear hok hk hD hhead hx0
    go_enter Try.func33, Try.ntmps33
    go_wp2_with fail
    rw [← HWa.out]
    refine (specTourOk _ a l cap Wa hrowa HL.out).mono ?_
    rintro e w1 ⟨rfl, hb1⟩
    rw [HO.out]
    have xa1 := xa.below hb1 xa.lt
    obtain ⟨W2, hW2⟩ : ∃ W2, W2 = w1.alloc (.cells #[] 3) := ⟨_, rfl⟩
    have HW2 := Lib.hid hW2
    have hb2 : Below w1.heap.size w1 W2 := by rw [hW2]; exact (Below.refl _ _).alloc (Nat.le_refl _) _
    have b1 := hba.trans (hb1.mono hba.size)
    have HLQ : Hid (Lq w W2 l.length a l cap (.slice (some ⟨w1.heap.size, 0, none⟩) 0 0) 0 []) := by
      have b2 := b1.trans (hb2.mono b1.size)
      refine ⟨b2, xa1.below hb2 xa1.lt, HRW.out.below b2 (Nat.le_refl _), ?_, ⟨_, rfl⟩⟩
      rw [hW2]
      exact own_empty9 w1 _ _ (by have := xa1.lt; omega) rfl
    have c0 := (xa1.below hb2 xa1.lt).c0
    have c1 := (xa1.below hb2 xa1.lt).c1
    rw [HW2.out] at c0 c1
    clear hb1 xa xa1 hrowa hW2 hb2 b1
    go_wp2_with fail
    rw [← HW2.out]
    refine (l02All_any a l.length cap l.length W2 hl8).mono ?_
    rintro e w3 ⟨rfl, hb3⟩
    rw [HD0.out]
    have HLQ3 := Lib.hid (HLQ.out.below hb3)
    clear hb3 HLQ c0 c1
    go_wp2
    go_loopw [3, 4] (fun out i wr => ∃ (k x : Nat) (v : Value), k ≤ D.length ∧ i = .int .i64 (x : Int) ∧ Hid (x = D.getD k 0) ∧ v = out ∧ Hid (Lq w wr l.length a l cap v k (((Rc.dfs D).take k).map nv))) (fun _ i _ => (intOf i).toNat)
    case atStart => exact ⟨0, x0, _, Nat.zero_le _, rfl, HX0.out, rfl, HLQ3.out⟩
    case round =>
      clear HLQ3
      obtain ⟨k, x, v, hk, rfl, hx, rfl, hlq⟩ := hrel
      have hx8 : x < 256 := by rw [hx.out]; exact hdlt.out k
      by_cases hlt : k < D.length
      · have hx0 : 0 < x := by rw [hx.out]; exact HCH.out.pos HV.out hlt
        have hxi : (0 : Int) < (x : Int) := by omega
        have HF : Hid (Rc.fi l.length (ww l) x = Rc.df D k) := by show _ = _; rw [hx.out]; exact HCH.out.first HV.out hlt
        have hc0 := hlq.out.hx.c0
        have hc1 := hlq.out.hx.c1
        go_wp2
        clear hc0 hc1
        go_loopw [5, 18] (fun f i w2 => ∃ b y : Nat, b ≤ l.length ∧ i = .int .i64 (b : Int) ∧ f = .int .i64 (y : Int) ∧ Hid (y = Rc.nb (fun a => x.testBit a && Rc.rs l.length (ww l) a == x) b) ∧ Hid (Lq w w2 l.length a l cap v k (((Rc.dfs D).take k).map nv))) (fun _ i _ => l.length - (intOf i).toNat)
        case atStart => exact ⟨0, 0, Nat.zero_le _, rfl, rfl, rfl, hlq.out⟩
        case round =>
          clear hlq
          obtain ⟨b, y, hb, rfl, rfl, hy, hlq⟩ := hrel
          have hy8 : y < 256 := by
            have h1 := Rc.nb_lt (fun a => x.testBit a && Rc.rs l.length (ww l) a == x) b
            have h2 := pow_le b (by omega)
            rw [← hy.out] at h1; omega
          by_cases hlt2 : b < l.length
          · have hbi : (b : Int) < (l.length : Int) := by omega
            have hb64 : b < 64 := by omega
            have hbt : (bits .and .i64 ((x : Int) / 2 ^ b) 1 == 1) = x.testBit b := bi_nat x b
            cases hbit : x.testBit b
            · rw [hbit] at hbt
              have HY : Hid (y = Rc.nb (fun a => x.testBit a && Rc.rs l.length (ww l) a == x) (b + 1)) := by
                show _ = _
                rw [nb_step _ b false (by rw [hbit]; rfl), ← hy.out]; rfl
              clear hbit hy
              go_wp2
              go_roundw
              case rel => exact ⟨b + 1, y, by omega, by go_num, rfl, HY.out, hlq.out⟩
              case measure => simp [intOf]; omega
            · rw [hbit] at hbt
              have hc0 := hlq.out.hx.c0
              have hc1 := hlq.out.hx.c1
              obtain ⟨q, hq⟩ : ∃ q, q = 2 ^ b := ⟨_, rfl⟩
              have hqz : wrap64 (2 ^ b) = (q : Int) := by rw [hq]; exact wrapPow b (by omega)
              have hq8 : q ≤ 256 := by rw [hq]; exact pow_le b (by omega)
              obtain ⟨s, hs⟩ : ∃ s, s = Rc.rs l.length (ww l) b := ⟨_, rfl⟩
              have hcall := l05Reach_any l.length a l cap b wr hlq.out.hr HK.out hlt2
              rw [← hs] at hcall
              have HC := Lib.hid hcall
              have HY : Hid (Rc.nb (fun a => x.testBit a && Rc.rs l.length (ww l) a == x) (b + 1) = y + if s == x then q else 0) := by
                show _ = _
                rw [nb_step _ b (s == x) (by rw [hbit, ← hs]; rfl), ← hy.out, hq]
              clear hcall hbit hy hq hs
              go_wp2_with fail
              refine HC.out.mono ?_
              rintro e w4 ⟨rfl, hb4⟩
              have HLQ4 := Lib.hid (hlq.out.below hb4)
              clear hb4 hc0 hc1
              by_cases hsx : s = x
              · have hq1 : ((s : Int) == (x : Int)) = true := by rw [beq_iff_eq]; omega
                have HY2 : Hid (y + q = Rc.nb (fun a => x.testBit a && Rc.rs l.length (ww l) a == x) (b + 1)) := by show _ = _; rw [HY.out, hsx]; simp
                clear hsx
                go_wp2
                go_roundw
                case rel => exact ⟨b + 1, y + q, by omega, by go_num, by go_num, HY2.out, HLQ4.out⟩
                case measure => simp [intOf]; omega
              · have hq1 : ((s : Int) == (x : Int)) = false := by rw [beq_eq_false_iff_ne]; omega
                have HY2 : Hid (y = Rc.nb (fun a => x.testBit a && Rc.rs l.length (ww l) a == x) (b + 1)) := by show _ = _; rw [HY.out]; simp [hsx]
                clear hsx
                go_wp2
                go_roundw
                case rel => exact ⟨b + 1, y, by omega, by go_num, rfl, HY2.out, HLQ4.out⟩
                case measure => simp [intOf]; omega
          · obtain rfl : b = l.length := by omega
            have hyf : Hid (y = Rc.df D k) := by show _ = _; rw [← HF.out, hy.out]; rfl
            obtain ⟨x2, hx2⟩ : ∃ x2, x2 = D.getD (k + 1) 0 := ⟨_, rfl⟩
            have hle : y ≤ x := by
              rw [hyf.out, hx.out]
              exact Rc.Sub.le fun z hz => by
                unfold Rc.df at hz
                rw [Nat.testBit_xor, Nat.testBit_and] at hz
                cases h : (D.getD k 0).testBit z
                · rw [h] at hz; simp at hz
                · rfl
            have hnx : x - y = x2 := by rw [hyf.out, hx.out, hx2]; exact HCH.out.next HV.out hl8 hlt
            have hsub : IntKind.i64.wrap ((x : Int) - (y : Int)) = (x2 : Int) := by
              rw [show (x : Int) - (y : Int) = (x2 : Int) by omega]; exact wrap_small x2 (by omega)
            have hlt3 : x2 < x := by
              rw [hx2, hx.out]
              rcases Nat.lt_or_ge (k + 1) D.length with h | h
              · exact HCH.out.lt (Nat.lt_succ_self k) h
              · rw [Rc.out_at h]; rw [← hx.out]; exact hx0
            have HX2 := Lib.hid hx2
            obtain ⟨hlb, hlx, hlr, hown, hlv⟩ := hlq.out
            have hbs := hlb.size
            have hxl := hlx.lt
            have HSN : Hid (((Rc.dfs D).take (k + 1)).map nv = ((Rc.dfs D).take k).map nv ++ [.int .i64 (y : Int)]) := by
              show _ = _
              rw [take_snoc (Rc.dfs D) k _ (Rc.dfs_at D k hlt), List.map_append, hyf.out]; rfl
            obtain ⟨cs, hcs⟩ : ∃ cs, cs = ((Rc.dfs D).take k).map nv := ⟨_, rfl⟩
            rw [← hcs] at hown
            have HCS := Lib.hid hcs
            clear hx2 hnx hcs hlq hle hyf hy
            go_wp2_with (at_builtin; refine wpList_append_own _ rfl _ _ 23 rfl (w.heap.size + 1) 3 i0 (.int .i64 0) 1 8 Try.underlying23 hi hz0 hz1 hz2 rfl (by decide) _ _ _ rfl (hown.alloc _) ⟨_, 0, none⟩ 1 1 [.int .i64 (y : Int)] rfl rfl ?c1 ?c2 ?c3 ?c4 ?c5 ?_)
            case c1 =>
              intro j u hj
              match j, hj with
              | 0, hj => simp at hj; subst hj; simp [Addr.add]
            case c2 => intro u hu; simp at hu; subst hu; rfl
            case c3 => unfold maxLen; omega
            case c4 => omega
            case c5 => simp; omega
            intro v' w5 hown' hgrow _
            have H5 : Hid (Lq w w5 l.length a l cap v' (k + 1) (((Rc.dfs D).take (k + 1)).map nv)) := by
              have ba := hlb.alloc hlb.size (.cells #[.int .i64 (y : Int)] 3)
              have hne : ∀ z, v.ownBlock = some z → w.heap.size + 1 ≤ z := fun z hz => (hown.lt z hz).1
              have b5 : Below w.heap.size w w5 := ba.grown hgrow ba.size (fun z hz => by have := hne z hz; omega)
              refine ⟨b5, ?_, HRW.out.below b5 (Nat.le_refl _), ?_, ?_⟩
              · exact ((hlx.grown (World.grownBy_alloc _ _ none) (by simp)).grown hgrow (fun e => by have := hne _ e; omega))
              · rw [HSN.out, ← HCS.out]; simpa using hown'
              · rcases hown'.2 with ⟨_, h0⟩ | ⟨g, cap, cur, rfl, _⟩
                · simp at h0
                · exact ⟨g, rfl⟩
            clear hown' hgrow hown hlb hlx hlr hlv
            go_wp2
            go_roundw
            case rel => exact ⟨k + 1, x2, _, by omega, rfl, HX2.out, rfl, H5.out⟩
            case measure => simp [intOf]; omega
      · obtain rfl : k = D.length := by omega
        have hx0 : x = 0 := by rw [hx.out]; exact Rc.out_at (Nat.le_refl _)
        subst hx0
        have he : (spR l.length l).length = D.length := by rw [HE.out, List.length_map, Rc.dfs_len]
        have HHE := Lib.hid he
        have hlo := hlq.out.ho
        rw [List.take_of_length_le (by rw [Rc.dfs_len]; exact Nat.le_refl _), nv_iv, ← HE.out] at hlo
        obtain ⟨g, hg⟩ := hlq.out.hv
        have hvv : Hid (∃ c, v = .slice (some ⟨g, 0, none⟩) D.length c) := by
          rcases hlo.2 with ⟨rfl, _⟩ | ⟨g', cap, cur, rfl, _⟩
          · cases hg
          · cases hg; exact ⟨cap, rfl⟩
        have HLO := Lib.hid hlo
        have HLB := Lib.hid hlq.out.hb
        clear hlq hlo he hg hx
        go_wp2
        go_ret
        obtain ⟨c, hc⟩ := hvv.out
        exact ⟨⟨some ⟨g, 0, none⟩, c, by rw [HHE.out, hc]; rfl, by rw [HHE.out, ← hc]; exact HLO.out.mono (Nat.le_succ _)⟩, HLB.out⟩
end Go.Proofs.Ytcipffimjaancaa
