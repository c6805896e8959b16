/-
  'WeakestGames' of the model. No conditions but the bounds that Go gives a slice.
-/
import Derived.Test.Ytcipffimjaancaa9H
import Derived.Test.YtcipffimjaancaaWc
import Derived.Test.YtcipffimjaancaaWf
import Derived.Test.YtcipffimjaancaaI
namespace Go.Proofs.Ytcipffimjaancaa
open Go.ChangeShapes Go.WideShapes Go.ChangeAt Go.RowKit
set_option linter.unusedVariables false

/-- Whether a beats b, and the tour is not strong with this game flipped. -/
noncomputable def wk (l : List Int) (a b : Nat) : Bool := bt l a b && !stB (flipL l a b)
def g2 (a b : Nat) : List Int := [(a : Int), (b : Int)]
noncomputable def wkB (l : List Int) (a b : Nat) : List (List Int) := ((List.range b).filter (wk l a)).map (g2 a)
noncomputable def wkA (l : List Int) (a : Nat) : List (List Int) := (List.range a).flatMap fun x => wkB l x l.length
noncomputable def wkR (n : Int) (l : List Int) : List (List Int) := if isB9 n l then wkA l l.length else []
theorem wkB_zero (l : List Int) (a : Nat) : wkB l a 0 = [] := rfl
theorem wkB_yes {l : List Int} {a b : Nat} (h : wk l a b = true) : wkB l a (b + 1) = wkB l a b ++ [g2 a b] := by
  unfold wkB; rw [List.range_succ, List.filter_append, List.map_append]; simp [h]
theorem wkB_no {l : List Int} {a b : Nat} (h : wk l a b = false) : wkB l a (b + 1) = wkB l a b := by
  unfold wkB; rw [List.range_succ, List.filter_append, List.map_append]; simp [h]
theorem wkA_succ (l : List Int) (a : Nat) : wkA l (a + 1) = wkA l a ++ wkB l a l.length := by
  unfold wkA; rw [List.range_succ, List.flatMap_append]; simp
theorem wkB_len (l : List Int) (a b : Nat) : (wkB l a b).length ≤ b := by
  unfold wkB; rw [List.length_map]; exact Nat.le_trans (List.length_filter_le _ _) (by simp)
theorem wkA_len (l : List Int) (h : l.length ≤ 8) : ∀ a, (wkA l a).length ≤ 8 * a
  | 0 => by simp [wkA]
  | a + 1 => by
    have h1 := wkA_len l h a
    have h2 := wkB_len l a l.length
    rw [wkA_succ, List.length_append]; omega
theorem wk_row {l : List Int} {a : Nat} {r : List Int} (h : r ∈ wkA l a) : r.length = 2 := by
  obtain ⟨x, _, hx⟩ := List.mem_flatMap.1 h
  unfold wkB at hx
  obtain ⟨y, _, rfl⟩ := List.mem_map.1 hx
  rfl

/-- A further row of two. -/
theorem La.push2 {w W W3 : World} {n : Int} {a : Option Addr} {cap : Nat} {l : List Int} {ao : Option Addr} {co : Nat} {gs : List (Nat × Nat)} {Ls : List (List Int)} (h : La w W n a cap l ao co gs Ls) (hrw : IntRow w a l) (x y : Int) {g3 c3 : Nat}
    (hg : ((W.alloc (.cells #[.int .i64 x, .int .i64 y] 3)).alloc (.cells #[.slice (some ⟨W.heap.size, 0, none⟩) 2 2] 23)).grownBy W3 (blk ao))
    (ho : W3.ownsRow (w.heap.size + 1) 23 1 (.slice (some ⟨g3, 0, none⟩) (Ls.length + 1) c3) (Ls.length + 1) (svs gs Ls ++ [.slice (some ⟨W.heap.size, 0, none⟩) 2 2])) :
    La w W3 n a cap l (some ⟨g3, 0, none⟩) c3 (gs ++ [(W.heap.size, 2)]) (Ls ++ [[x, y]]) := by
  have hs := h.hb.size
  have hxl := h.xt.lt
  have g1 : W.grownBy ((W.alloc (.cells #[.int .i64 x, .int .i64 y] 3)).alloc (.cells #[.slice (some ⟨W.heap.size, 0, none⟩) 2 2] 23)) none :=
    (World.grownBy_alloc W _ none).trans (World.grownBy_alloc _ _ _)
  have hrow : ((W.alloc (.cells #[.int .i64 x, .int .i64 y] 3)).alloc (.cells #[.slice (some ⟨W.heap.size, 0, none⟩) 2 2] 23)).ownsRow (w.heap.size + 1) 3 1 (.slice (some ⟨W.heap.size, 0, none⟩) [x, y].length 2) [x, y].length ([x, y].map iv) :=
    (World.ownsRow_lit (base := w.heap.size + 1) (e := 3) (size := 1) W #[.int .i64 x, .int .i64 y] 2 hxl (by unfold maxLen; omega) rfl).alloc _
  have hb1 : Below w.heap.size w ((W.alloc (.cells #[.int .i64 x, .int .i64 y] 3)).alloc (.cells #[.slice (some ⟨W.heap.size, 0, none⟩) 2 2] 23)) := by
    have hA := h.hb.alloc hs (.cells #[.int .i64 x, .int .i64 y] 3)
    exact hA.alloc hA.size _
  have hne : ∀ k, blk ao = some k → w.heap.size + 1 ≤ k := fun k hk => (h.ss.blkO hk).1
  have hb3 : Below w.heap.size w W3 := hb1.grown hg hb1.size (fun k e => by have := hne k e; omega)
  refine ⟨hb3, ?_, hrw.below hb3 (Nat.le_refl _), h.ss.push g1 hrow (Nat.le_refl _) hg ho⟩
  exact (h.xt.grown g1 (by simp)).grown hg (fun e => by have := hne _ e; omega)

set_option maxRecDepth 100000 in
set_option maxHeartbeats 4000000 in
theorem specWeak (n : Int) (a : Option Addr) (l : List Int) (cap : Nat) (w : World) (hrow : IntRow w a l) (hl : l.length ≤ maxLen) :
    Calls Try.prog 46 #[.agg #[.int .i64 n, .slice a l.length cap]] w (RetSS w (wkR n l)) := by
  obtain ⟨i0, hi, hz0, hz1, hz2⟩ := info_parts infoSl
  obtain ⟨Wa, hWa⟩ : ∃ Wa, Wa = w.alloc (.cells #[.int .i64 n, .slice a l.length cap] 25) := ⟨_, rfl⟩
  have HWa := Lib.hid hWa
  have hba : Below w.heap.size w Wa := by rw [hWa]; exact (Below.refl _ _).alloc (Nat.le_refl _) _
  have xa : Box Wa w.heap.size 25 (.int .i64 n) (.slice a l.length cap) := by rw [hWa]; exact Box.new _ _ _ _
  have hrowa : IntRow Wa a l := hrow.below hba (Nat.le_refl _)
  have HRW := Lib.hid hrow
  have HL := Lib.hid hl
  clear hl hrow hWa
  cases hst : isB9 n l
  · have HO := Lib.hid hst
    have HE : Hid (wkR n l = []) := by show _ = _; unfold wkR; rw [hst]; rfl
    clear hst
    go_enter Try.func46, Try.ntmps46
    go_wp2_with fail
    rw [← HWa.out]
    refine (specStrong n a l cap Wa hrowa HL.out).mono ?_
    rintro e w1 ⟨rfl, hb1⟩
    rw [HO.out]
    go_wp2
    go_ret
    refine ⟨⟨none, 0, [], ?_, ?_⟩, hba.trans (hb1.mono hba.size)⟩
    · rw [HE.out]; rfl
    · rw [HE.out]; exact OwnSS.nil _ _
  have HO := Lib.hid hst
  have HE : Hid (wkR n l = wkA l l.length) := by show _ = _; unfold wkR; rw [hst]; rfl
  have hok : okB n l = true := by unfold isB9 at hst; exact (Bool.and_eq_true_iff.1 hst).1
  have hk := okB_iff.1 hok
  have HK := Lib.hid hk
  have hl8 : l.length ≤ 8 := by have := hk.2.1; have := hk.2.2.1; omega
  obtain rfl : n = (l.length : Int) := hk.2.2.1.symm
  clear hst hok hk
  go_enter Try.func46, Try.ntmps46
  go_wp2_with fail
  rw [← HWa.out]
  refine (specStrong _ a l cap Wa hrowa HL.out).mono ?_
  rintro e w1 ⟨rfl, hb1⟩
  rw [HO.out]
  obtain ⟨W2, hW2⟩ : ∃ W2, W2 = w1.alloc (.cells #[] 23) := ⟨_, rfl⟩
  have HW2 := Lib.hid hW2
  have hb2 : Below w1.heap.size w1 W2 := by rw [hW2]; exact (Below.refl _ _).alloc (Nat.le_refl _) _
  have xa1 := xa.below hb1 xa.lt
  have b1 := hba.trans (hb1.mono hba.size)
  have b2 := b1.trans (hb2.mono b1.size)
  have hLa : Hid (La w W2 l.length a cap l (some ⟨w1.heap.size, 0, none⟩) 0 [] []) := by
    refine ⟨b2, xa1.below hb2 xa1.lt, HRW.out.below b2 (Nat.le_refl _), ⟨rfl, ?_, fun i h => absurd h (Nat.not_lt_zero _), fun i j h => absurd h (Nat.not_lt_zero _)⟩⟩
    have := World.ownsRow_lit (base := w.heap.size + 1) (e := 23) (size := 1) w1 #[] 0 (by have := xa1.lt; omega) (by simp) rfl
    rw [hW2]; simpa [svs] using this
  have c0 := (xa1.below hb2 xa1.lt).c0
  have c1 := (xa1.below hb2 xa1.lt).c1
  rw [HW2.out] at c0 c1
  clear hb1 hb2 xa xa1 b1 b2 hrowa hW2 hba
  go_wp2
  rw [← HW2.out]
  clear c0 c1
  go_loopw [3, 13] (fun o i wr => ∃ (x m : Nat) (ao : Option Addr) (co : Nat) (gs : List (Nat × Nat)), x ≤ l.length ∧ i = .int .i64 x ∧ o = .slice ao m co ∧ Hid (m = (wkA l x).length) ∧ Hid (La w wr l.length a cap l ao co gs (wkA l x))) (fun _ i _ => l.length - (intOf i).toNat)
  case atStart => exact ⟨0, 0, _, 0, [], Nat.zero_le _, rfl, rfl, rfl, hLa.out⟩
  case round =>
    clear hLa
    obtain ⟨x, m, ao, co, gs, hx, rfl, rfl, hm, hla⟩ := hrel
    have c0 := hla.out.xt.c0
    have c1 := hla.out.xt.c1
    by_cases hlt : x < l.length
    · have hxi : (x : Int) < (l.length : Int) := by omega
      have HB0 : Hid (wkA l x ++ wkB l x 0 = wkA l x) := by show _ = _; rw [wkB_zero, List.append_nil]
      have hS : Hid (La w wr l.length a cap l ao co gs (wkA l x ++ wkB l x 0)) := by rw [HB0.out]; exact hla.out
      have HLEN : Hid (m = (wkA l x ++ wkB l x 0).length) := by show _ = _; rw [HB0.out]; exact hm.out
      clear hla hm
      go_wp2
      clear c0 c1
      go_loopw [3, 19] (fun o i wr2 => ∃ (y m : Nat) (ao : Option Addr) (co : Nat) (gs : List (Nat × Nat)), y ≤ l.length ∧ i = .int .i64 y ∧ o = .slice ao m co ∧ Hid (m = (wkA l x ++ wkB l x y).length) ∧ Hid (La w wr2 l.length a cap l ao co gs (wkA l x ++ wkB l x y))) (fun _ i _ => l.length - (intOf i).toNat)
      case atStart => exact ⟨0, m, ao, co, gs, Nat.zero_le _, rfl, rfl, HLEN.out, hS.out⟩
      case round =>
        clear hS HLEN HB0
        obtain ⟨y, m, ao, co, gs, hy, rfl, rfl, hm, hlb⟩ := hrel
        have c0 := hlb.out.xt.c0
        have c1 := hlb.out.xt.c1
        by_cases hlt2 : y < l.length
        · have hyi : (y : Int) < (l.length : Int) := by omega
          have hy64 : y < 64 := by omega
          have hlm : l.length ≤ maxLen := by unfold maxLen; omega
          have HCB := Lib.hid (l02Beats_any l.length a l cap x y wr hlb.out.hr hlm hlt hy64)
          have hno : Hid (wk l x y = false → wkA l x ++ wkB l x (y + 1) = wkA l x ++ wkB l x y) := fun h => by rw [wkB_no h]
          cases h1 : bt l x y
          · have HEE := Lib.hid (hno.out (by unfold wk; rw [h1]; rfl))
            have H1 := Lib.hid h1
            clear h1 hno
            go_wp2_with fail
            refine HCB.out.mono ?_
            rintro e w3 ⟨rfl, hb3⟩
            rw [H1.out]
            have HS : Hid (La w w3 l.length a cap l ao co gs (wkA l x ++ wkB l x (y + 1)) ∧ m = (wkA l x ++ wkB l x (y + 1)).length) := by rw [HEE.out]; exact ⟨hlb.out.below hb3, hm.out⟩
            clear hb3 c0 c1 hlb hm HEE
            go_wp2
            go_roundw
            case rel => exact ⟨y + 1, m, ao, co, gs, by omega, by go_num, rfl, HS.out.2, HS.out.1⟩
            case measure => simp [intOf]; omega
          · have hne : x ≠ y := by
              intro e; subst e
              have : bt l x x = false := (HK.out.2.2.2 x hlt).2.1
              rw [this] at h1; cases h1
            obtain ⟨F, hF⟩ : ∃ F, F = flipL l x y := ⟨_, rfl⟩
            have hFok : Ok (l.length : Int) F := by rw [hF]; exact flip_ok HK.out hlt hlt2 hne
            have hFl : F.length = l.length := by rw [hF]; exact flipL_len l x y
            obtain ⟨sb, hsb⟩ : ∃ sb, sb = stB F := ⟨_, rfl⟩
            have hwk : wk l x y = !sb := by unfold wk; rw [h1, hsb, hF]; rfl
            have HFL : Hid (∀ (W : World), IntRow W a l → Calls Try.prog 91 #[.agg #[.int .i64 (l.length : Int), .slice a l.length cap], .int .i64 x, .int .i64 y] W fun e w' => (∃ g c0, e = .returned (.agg #[.int .i64 (l.length : Int), .slice (some ⟨g, 0, none⟩) l.length c0]) ∧ IntRow w' (some ⟨g, 0, none⟩) F) ∧ Below W.heap.size W w') := by
              intro W hR
              refine (l02Flip_any l.length a l cap x y W hR HK.out hlt hlt2 hne).mono ?_
              rintro e w' ⟨⟨g, c0, rfl, ho⟩, hb⟩
              refine ⟨⟨g, c0, rfl, ?_⟩, hb⟩
              rw [← hF, ← hFl] at ho
              exact own_int ho
            have HST : Hid (∀ (g cp : Nat) (W : World), IntRow W (some ⟨g, 0, none⟩) F → Calls Try.prog 80 #[.agg #[.int .i64 (l.length : Int), .slice (some ⟨g, 0, none⟩) l.length cp]] W fun e w' => e = .returned (.bool sb) ∧ Below W.heap.size W w') := by
              intro g cp W hR
              have := l05Strong_any l.length (some ⟨g, 0, none⟩) F cp W hR hFok
              rw [hFl, ← hsb] at this
              exact this
            have H1 := Lib.hid h1
            have HWK := Lib.hid hwk
            clear h1 hF hFok hFl hsb hwk hne
            go_wp2_with fail
            refine HCB.out.mono ?_
            rintro e w3 ⟨rfl, hb3⟩
            rw [H1.out]
            have HL3 := Lib.hid (hlb.out.below hb3)
            clear c0 c1 hb3 hlb
            have c0 := HL3.out.xt.c0
            have c1 := HL3.out.xt.c1
            go_wp2_with fail
            refine (HFL.out w3 HL3.out.hr).mono ?_
            rintro e w4 ⟨⟨gf, cf, rfl, hrf⟩, hb4⟩
            have HL4 := Lib.hid (HL3.out.below hb4)
            clear hb4 HL3 c0 c1
            go_wp2_with fail
            refine (HST.out gf cf w4 hrf).mono ?_
            rintro e w5 ⟨rfl, hb5⟩
            have HL5 := Lib.hid (HL4.out.below hb5)
            clear hb5 HL4 hrf
            cases sb
            · have HE2 : Hid (wkA l x ++ wkB l x (y + 1) = (wkA l x ++ wkB l x y) ++ [g2 x y]) := by show _ = _; rw [wkB_yes (by rw [HWK.out]; rfl), List.append_assoc]
              have hroom : (wkA l x ++ wkB l x y).length ≤ 72 := by
                have h1 := wkA_len l hl8 x
                have h2 := wkB_len l x y
                rw [List.length_append]; omega
              obtain ⟨Ls, hLs⟩ : ∃ Ls, Ls = wkA l x ++ wkB l x y := ⟨_, rfl⟩
              rw [← hLs] at HE2 hroom HL5 hm
              obtain rfl := hm.out
              have hOW := ((HL5.out.ss.out.alloc (.cells #[.int .i64 x, .int .i64 y] 3)).alloc (.cells #[.slice (some ⟨w5.heap.size, 0, none⟩) 2 2] 23))
              have HOW := Lib.hid hOW
              have hwz := HL5.out.xt.lt
              have HCN : Hid (∀ j u, [Value.slice (some ⟨w5.heap.size, 0, none⟩) 2 2][j]? = some u → ((w5.alloc (.cells #[.int .i64 x, .int .i64 y] 3)).alloc (.cells #[.slice (some ⟨w5.heap.size, 0, none⟩) 2 2] 23)).cell? ((⟨w5.heap.size + 1, 0, none⟩ : Addr).add j) = some u) := by
                have h := cell_one_new (w5.alloc (.cells #[.int .i64 x, .int .i64 y] 3)) (.slice (some ⟨w5.heap.size, 0, none⟩) 2 2) 23
                rw [World.size_alloc] at h
                exact h
              clear hOW hno hm hLs
              go_wp2_with (first | (at_builtin; refine wpList_append_own _ rfl (.tmp 34) (.tmp 38) 48 rfl (w.heap.size + 1) 23 i0 (.slice none 0 0) 1 24 Try.underlying48 hi hz0 hz1 hz2 rfl (by decide) (.slice ao Ls.length co) Ls.length (svs gs Ls) rfl HOW.out ⟨w5.heap.size + 1, 0, none⟩ 1 1 [.slice (some ⟨w5.heap.size, 0, none⟩) 2 2] rfl rfl HCN.out (by intro u hu; simp at hu; subst hu; rfl) (by unfold maxLen; omega) (by omega) (by simp; omega) ?_; intro v4 w6 ho4 hg4 hn4; obtain ⟨g4, c4, rfl, _, _, _⟩ := own_someE4 ho4; rw [blk_own] at hg4) | fail)
              have HS := Lib.hid (HL5.out.push2 HRW.out x y hg4 ho4)
              clear ho4 hg4 hn4 HOW
              have hlen : Ls.length + 1 = (wkA l x ++ wkB l x (y + 1)).length := by rw [HE2.out]; simp
              have HLN := Lib.hid hlen
              clear hlen
              go_wp2
              go_roundw
              case rel => exact ⟨y + 1, _, _, c4, _, by omega, by go_num, rfl, HLN.out, by rw [HE2.out]; exact HS.out⟩
              case measure => simp [intOf]; omega
            · have HEE := Lib.hid (hno.out (by rw [HWK.out]; rfl))
              have HS : Hid (La w w5 l.length a cap l ao co gs (wkA l x ++ wkB l x (y + 1)) ∧ m = (wkA l x ++ wkB l x (y + 1)).length) := by rw [HEE.out]; exact ⟨HL5.out, hm.out⟩
              clear HL5 hm HEE hno
              go_wp2
              go_roundw
              case rel => exact ⟨y + 1, m, ao, co, gs, by omega, by go_num, rfl, HS.out.2, HS.out.1⟩
              case measure => simp [intOf]; omega
        · obtain rfl : y = l.length := by omega
          have hyi : ¬ (l.length : Int) < (l.length : Int) := by omega
          have HE2 : Hid (wkA l (x + 1) = wkA l x ++ wkB l x l.length) := wkA_succ l x
          go_wp2
          go_roundw
          case rel => exact ⟨x + 1, m, ao, co, gs, by omega, by go_num, rfl, by rw [HE2.out]; exact hm.out, by rw [HE2.out]; exact hlb.out⟩
          case measure => simp [intOf]; omega
    · obtain rfl : x = l.length := by omega
      have hxi : ¬ (l.length : Int) < (l.length : Int) := by omega
      go_wp2
      go_ret
      exact ⟨⟨ao, co, gs, by rw [HE.out, show (wkA l l.length).length = m from hm.out.symm]; rfl, by rw [HE.out]; exact hla.out.ss.mono (Nat.le_succ _)⟩, hla.out.hb⟩
end Go.Proofs.Ytcipffimjaancaa
