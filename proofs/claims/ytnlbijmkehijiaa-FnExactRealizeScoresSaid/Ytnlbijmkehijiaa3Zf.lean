/-
  'RealizeScores' of the program. No conditions but the bounds that Go gives a slice, and at most 2^20 numbers.
-/
import Derived.Test.Ytnlbijmkehijiaa3Ze
namespace Go.Proofs.Ytnlbijmkehijiaa
open Go.ChangeShapes Go.WideShapes Go.ChangeAt Go.RowKit Go.Sort
set_option linter.unusedVariables false

def reB (l : List Int) : Bool := Tmpm.landB (Tmpm.srt l)
def reW (l : List Int) : List Nat := Tmpm.runR (List.range l.length).length l (List.replicate l.length 0) (List.range l.length)
def reR (l : List Int) : List Int := if reB l then (reW l).map Int.ofNat else []
def reN (l : List Int) : Int := if reB l then l.length else 0

theorem landau_sorted (B : Nat) (l : List Int) (hl : l.length ≤ 1048576) (W : World) (a2 : Option Addr) (c2 : Nat) (ho : W.ownsRow B 3 1 (.slice a2 l.length c2) l.length ((Tmpm.srt l).map iv)) :
    Calls Try.prog 23 #[.slice a2 l.length c2] W fun e w' => e = .returned (.bool (reB l)) ∧ Below W.heap.size W w' := by
  have hls := Tmpm.srt_len l
  obtain ⟨a', c', he, hi, _⟩ := own_read (l := Tmpm.srt l) (by rw [hls]; exact ho)
  simp only [Value.slice.injEq] at he
  obtain ⟨rfl, _, rfl⟩ := he
  have h := implLandau a2 (Tmpm.srt l) c2 W hi (by unfold maxLen; omega)
  rw [hls] at h
  exact h

/-- The steps up to the test, for whatever follows. -/
theorem re_start (a : Option Addr) (l : List Int) (cap : Nat) (w : World) (hrow : IntRow w a l) (hl : l.length ≤ 1048576) (W1 : World) (hW1 : W1 = w.alloc (.cells #[.slice a l.length cap] 22)) :
    Calls Try.prog 49 #[.func (.func 69) #[] #[.pointer (some ⟨w.heap.size, 0, none⟩)]] W1 fun e w' => (∃ a1 c1, e = .returned (.slice a1 l.length c1) ∧ w'.ownsRow W1.heap.size 3 1 (.slice a1 l.length c1) l.length ((Tmpm.srt l).map iv)) ∧ Below W1.heap.size W1 w' := by
  have hb1 : Below w.heap.size w W1 := by rw [hW1]; exact (Below.refl _ _).alloc (Nat.le_refl _) _
  exact sorted_any w.heap.size w a cap l hl W1 hb1 hrow (by rw [hW1]; exact (Boxed.new _ _ _).cell) (by rw [hW1]; simp)

set_option maxRecDepth 100000 in
set_option maxHeartbeats 4000000 in
theorem implRealize (a : Option Addr) (l : List Int) (cap : Nat) (w : World) (hrow : IntRow w a l) (hl : l.length ≤ 1048576) :
    Calls Try.prog 25 #[.slice a l.length cap] w fun e w' => (∃ a0 c0, e = .returned (.tuple #[.agg #[.int .i64 (reN l), .slice a0 (reR l).length c0], .bool (reB l)]) ∧ w'.ownsRow w.heap.size 3 1 (.slice a0 (reR l).length c0) (reR l).length ((reR l).map iv)) ∧ Below w.heap.size w w' := by
  obtain ⟨Wa, hWa⟩ : ∃ Wa, Wa = w.alloc (.cells #[.int .i64 0, .slice none 0 0] 27) := ⟨_, rfl⟩
  have hba : Below w.heap.size w Wa := by rw [hWa]; exact (Below.refl _ _).alloc (Nat.le_refl _) _
  have sa : Wa.heap.size = w.heap.size + 1 := by rw [hWa]; simp
  have xr : Box Wa w.heap.size 27 (.int .i64 0) (.slice none 0 0) := by rw [hWa]; exact Box.new _ _ _ _
  have hrowa : IntRow Wa a l := hrow.below hba (Nat.le_refl _)
  have HSA := Lib.hid sa
  have HWa := Lib.hid hWa
  have HLan := Lib.hid (landau_sorted Wa.heap.size l hl)
  have HLan2 : Hid (∀ (W : World) (B : Nat) (a2 : Option Addr) (c2 : Nat), W.ownsRow B 3 1 (.slice a2 l.length c2) l.length ((Tmpm.srt l).map iv) → Calls Try.prog 23 #[.slice a2 l.length c2] W fun e w' => e = .returned (.bool (reB l)) ∧ Below W.heap.size W w') := fun W B a2 c2 h => landau_sorted B l hl W a2 c2 h
  have HST : Hid (∀ W1, W1 = Wa.alloc (.cells #[.slice a l.length cap] 22) → Calls Try.prog 49 #[.func (.func 69) #[] #[.pointer (some ⟨Wa.heap.size, 0, none⟩)]] W1 fun e w' => (∃ a1 c1, e = .returned (.slice a1 l.length c1) ∧ w'.ownsRow W1.heap.size 3 1 (.slice a1 l.length c1) l.length ((Tmpm.srt l).map iv)) ∧ Below W1.heap.size W1 w') := fun W1 h => re_start a l cap Wa hrowa hl W1 h
  clear hWa hrow HLan sa
  cases hB : reB l
  · have HB := Lib.hid hB
    have HN : Hid (reN l = 0) := by show _ = _; unfold reN; rw [hB]; rfl
    have HR : Hid (reR l = []) := by show _ = _; unfold reR; rw [hB]; rfl
    clear hB
    go_enter Try.func25, Try.ntmps25
    go_wp2_with fail
    rw [← HWa.out]
    refine (values_any a l.length cap Wa).mono ?_
    rintro e W1 ⟨rfl, hW1⟩
    have hb1 : Below Wa.heap.size Wa W1 := by rw [hW1]; exact (Below.refl _ _).alloc (Nat.le_refl _) _
    have HC := Lib.hid (HST.out W1 hW1)
    have B1 := Lib.hid (hba.trans (hb1.mono hba.size))
    have X1 := Lib.hid (xr.below hb1 xr.lt)
    clear hW1 hb1
    go_wp2_with fail
    refine HC.out.mono ?_
    rintro e W2 ⟨⟨a2, c2, rfl, ho2⟩, hb2⟩
    have HL2 := Lib.hid (HLan2.out W2 _ a2 c2 ho2)
    have B2 := Lib.hid (B1.out.trans (hb2.mono B1.out.size))
    have X2 := Lib.hid (X1.out.below hb2 X1.out.lt)
    clear ho2 hb2
    go_wp2_with fail
    refine HL2.out.mono ?_
    rintro e W3 ⟨rfl, hb3⟩
    rw [HB.out]
    have x3 := X2.out.below hb3 X2.out.lt
    have B3 := Lib.hid (B2.out.trans (hb3.mono B2.out.size))
    have c0 := x3.c0
    have c1 := x3.c1
    have f0 := x3.f0
    have f1 := x3.f1
    have X := Lib.hid x3
    clear x3 hb3 xr
    go_wp2
    refine bodyPost_ret (v := .tuple #[.agg #[.int .i64 0, .slice none 0 0], .bool false]) (Box.res2 rfl _ rfl rfl ((X.out.set0 _).set1 _)) rfl ?_
    refine ⟨⟨none, 0, ?_, ?_⟩, ?_⟩
    · rw [HN.out, HR.out]; rfl
    · rw [HR.out]; exact World.ownsRow_nil _ _ _ _
    · exact (B3.out.setCell (p := ⟨w.heap.size, 0, none⟩) (Nat.le_refl _) _).setCell (p := ⟨w.heap.size, 1, none⟩) (Nat.le_refl _) _
  · have HB := Lib.hid hB
    have hland := (Tmpm.landB_iff _).1 (show Tmpm.landB (Tmpm.srt l) = true from hB)
    have hls := Tmpm.srt_len l
    have h8 : l.length ≤ 8 := by have := hland.h8; omega
    have h1 : 0 < l.length := by have := hland.h1; omega
    have HN : Hid (reN l = l.length) := by show _ = _; unfold reN; rw [hB]; rfl
    have HR : Hid (reR l = (reW l).map Int.ofNat) := by show _ = _; unfold reR; rw [hB]; rfl
    have HINV := Lib.hid (Tmpm.Inv.start hland)
    have hz := zeroRow
    have HPL : Hid ((rv zeros8).size = (rv (pad l)).size) := by show _ = _; rw [rv_size (pad l), pad_len l h8]; rfl
    have HI : Hid ((Try.prog.info? 53).map (·.size) = some (rv (pad l)).size) := by show _ = _; rw [rv_size, pad_len l h8]; exact infoRow
    clear hB hland hls hl
    go_enter Try.func25, Try.ntmps25
    go_wp2_with fail
    rw [← HWa.out]
    refine (values_any a l.length cap Wa).mono ?_
    rintro e W1 ⟨rfl, hW1⟩
    have hb1 : Below Wa.heap.size Wa W1 := by rw [hW1]; exact (Below.refl _ _).alloc (Nat.le_refl _) _
    have HC := Lib.hid (HST.out W1 hW1)
    have B1 := Lib.hid (hba.trans (hb1.mono hba.size))
    have X1 := Lib.hid (xr.below hb1 xr.lt)
    have R1 := Lib.hid (hrowa.below hb1 (Nat.le_refl _))
    clear hW1 hb1
    go_wp2_with fail
    refine HC.out.mono ?_
    rintro e W2 ⟨⟨a2, c2, rfl, ho2⟩, hb2⟩
    have HL2 := Lib.hid (HLan2.out W2 _ a2 c2 ho2)
    have B2 := Lib.hid (B1.out.trans (hb2.mono B1.out.size))
    have X2 := Lib.hid (X1.out.below hb2 X1.out.lt)
    have R2 := Lib.hid (R1.out.below hb2 (Nat.le_refl _))
    clear ho2 hb2
    go_wp2_with fail
    refine HL2.out.mono ?_
    rintro e W3 ⟨rfl, hb3⟩
    rw [HB.out]
    have B3 := Lib.hid (B2.out.trans (hb3.mono B2.out.size))
    have X3 := Lib.hid (X2.out.below hb3 X2.out.lt)
    have R3 := Lib.hid (R2.out.below hb3 (Nat.le_refl _))
    clear hb3 xr hrowa
    go_wp2_with fail
    refine (newTour_any l.length W3 (by omega)).mono ?_
    rintro e W4 ⟨⟨g, rfl, ho4⟩, hb4⟩
    have hgl := ho4.lt g rfl
    have hx3 := X3.out.lt
    have B4 := Lib.hid (B3.out.trans (hb4.mono B3.out.size))
    have X4 := Lib.hid (X3.out.below hb4 X3.out.lt)
    have R4 := Lib.hid (R3.out.below hb4 (Nat.le_refl _))
    obtain ⟨W5, hW5⟩ : ∃ W5, W5 = W4.alloc (.cells #[.int .i64 l.length, .slice (some ⟨g, 0, none⟩) l.length l.length] 27) := ⟨_, rfl⟩
    have hb5 : Below W4.heap.size W4 W5 := by rw [hW5]; exact (Below.refl _ _).alloc (Nat.le_refl _) _
    have s5 : W5.heap.size = W4.heap.size + 1 := by rw [hW5]; simp
    have S5 := Lib.hid s5
    have T5 : Hid (Box W5 W4.heap.size 27 (.int .i64 l.length) (.slice (some ⟨g, 0, none⟩) l.length l.length)) := by rw [hW5]; exact Box.new _ _ _ _
    have O5 := Lib.hid (own_below ho4 hb5)
    have B5 := Lib.hid (B4.out.trans (hb5.mono B4.out.size))
    have X5 := Lib.hid (X4.out.below hb5 X4.out.lt)
    have R5 := Lib.hid (R4.out.below hb5 (Nat.le_refl _))
    have HW5 := Lib.hid hW5
    clear hW5 ho4 hb5 hb4 s5
    go_wp2_with fail
    rw [← HW5.out]
    refine (rowOf_any a cap l W5 h1 h8 R5.out).mono ?_
    rintro e W6 ⟨rfl, hb6⟩
    have hs6 := hb6.size
    obtain ⟨W7, hW7⟩ : ∃ W7, W7 = (W6.alloc (.cells (rv zeros8) 53)).setRow W6.heap.size (rv (pad l)) := ⟨_, rfl⟩
    have hz7 : (W6.alloc (.cells (rv zeros8) 53)).heap[W6.heap.size]? = some (.cells (rv zeros8) 53 (0, 0)) := heap_alloc_new W6 _
    have L7 : Hid (W7.heap[W6.heap.size]? = some (.cells (rv (pad l)) 53 (0, 0))) := by rw [hW7]; exact setRow_heap _ _ _ _ _ _ hz7
    have hb7 : Below W6.heap.size W6 W7 := by rw [hW7]; exact below_setRow ((Below.refl _ _).alloc (Nat.le_refl _) _) (Nat.le_refl _) _
    have hs7 : W6.heap.size < W7.heap.size := (Array.getElem?_eq_some_iff.1 L7.out).1
    have hb67 := hb6.trans (hb7.mono hb6.size)
    have T7 := Lib.hid (T5.out.below hb67 T5.out.lt)
    have O7 := Lib.hid (own_below O5.out hb67)
    have B7 := Lib.hid (B5.out.trans (hb67.mono B5.out.size))
    have X7 := Lib.hid (X5.out.below hb67 X5.out.lt)
    have HW7 := Lib.hid hW7
    have HZ7 := Lib.hid hz7
    clear hW7 hz7 hb6 hb7 hb67
    have t0 := T7.out.c0
    go_wp2_with (first | (refine wpList_store_row rfl 53 _ _ rfl W6.heap.size (rv (pad l)) rfl rfl 53 (rv zeros8) HZ7.out HI.out HPL.out (rv_one _) ?_; rw [← HW7.out]) | fail)
    refine (playersOf_any l.length h8 W7).mono ?_
    rintro e W8 ⟨⟨gp, cp, rfl, ho8⟩, hb8⟩
    have hgp := ho8.lt gp rfl
    have hcp : l.length ≤ cp ∧ cp ≤ maxLen := by
      rcases ho8.2 with ⟨h, _⟩ | ⟨g', cap', cur, h, _, _, q1, q2, _⟩
      · cases h
      · cases h; exact ⟨q1, q2⟩
    have Z8 : Hid (Rz w W8 W4.heap.size W6.heap.size g gp l.length 0 l (List.replicate l.length 0) (List.range l.length)) := by
      have e5 := S5.out
      refine ⟨⟨by omega, by omega, by omega, by omega, by omega, by omega, by omega, by omega, by omega, by omega⟩, B7.out.trans (hb8.mono B7.out.size), T7.out.below hb8 T7.out.lt, X7.out.below hb8 X7.out.lt, (own_below O7.out hb8).mono (Nat.le_of_lt hx3), (hb8.block _ hs7).trans L7.out, pls_of_own ho8 (fun x hx => by have := List.mem_range.1 hx; omega)⟩
    have hlr : (List.range l.length).length = l.length := List.length_range
    have HREL : Hid (Value.slice (some ⟨gp, 0, none⟩) l.length cp = Value.slice (some ⟨gp, 0, none⟩) (List.range l.length).length cp) := by show _ = _; rw [hlr]
    have HLR := Lib.hid hlr
    have hcp1 := hcp.1
    have hcp2 := hcp.2
    clear ho8 hb8 t0 hgl hx3 hs6 hs7 hgp hlr hcp hz
    go_wp2
    go_loopw [6] (fun pl wr => ∃ (r : Nat) (L : List Int) (ys P : List Nat) (ax : Option Addr) (c : Nat), pl = .slice ax P.length c ∧ Hid (P ≠ [] → ax = some ⟨gp, r, none⟩) ∧ P.length ≤ c ∧ c ≤ maxLen ∧ Hid (Rz w wr W4.heap.size W6.heap.size g gp l.length r L ys P) ∧ Hid (Tmpm.Inv l.length L ys P) ∧ Hid (Tmpm.runR P.length L ys P = reW l)) (fun pl _ => lenV pl)
    case atStart => exact ⟨0, l, _, List.range l.length, _, cp, HREL.out, fun _ => rfl, by rw [HLR.out]; exact hcp1, hcp2, Z8.out, HINV.out, rfl⟩
    case round =>
      clear Z8 HREL HLR hcp1 hcp2 HINV
      obtain ⟨r, L, ys, P, ax, c, rfl, hax, hPc, hcm, hz, hinv, hrun⟩ := hrel
      cases hQ : Tmpm.sortP L P with
      | nil =>
        have hP0 : P.length = 0 := by have := (Tmpm.sortP_perm L P).length_eq; rw [hQ] at this; exact this.symm
        rw [hP0] at hrun ⊢
        have hys : Hid (ys = reW l) := hrun.out
        have hyl := hinv.out.hW
        have d0 := hz.out.xt.c0
        have d1 := hz.out.xt.c1
        have e0 := hz.out.xr.c0
        have e1 := hz.out.xr.c1
        have e2 := hz.out.xr.f0
        have e3 := hz.out.xr.f1
        have hgw : g ≠ w.heap.size := by have := hz.out.d.g0; omega
        have HGW := Lib.hid hgw
        have HYL := Lib.hid hyl
        clear hQ hP0 hPc hcm hax hinv hrun hgw hyl
        go_wp2
        have hlen : (reR l).length = l.length := by rw [HR.out, List.length_map, ← hys.out, HYL.out]
        refine bodyPost_ret (v := .tuple #[.agg #[.int .i64 l.length, .slice (some ⟨g, 0, none⟩) l.length l.length], .bool true]) (Box.res2 rfl _ rfl rfl ((hz.out.xr.set0 _).set1 _)) rfl ⟨⟨some ⟨g, 0, none⟩, l.length, ?_, ?_⟩, ?_⟩
        · rw [HN.out, hlen]
        · rw [hlen, HR.out, ← nv_iv, ← hys.out]
          exact own_aside (own_aside hz.out.ow ⟨w.heap.size, 0, none⟩ _ HGW.out) ⟨w.heap.size, 1, none⟩ _ HGW.out
        · exact (hz.out.hb.setCell (p := ⟨w.heap.size, 0, none⟩) (Nat.le_refl _) _).setCell (p := ⟨w.heap.size, 1, none⟩) (Nat.le_refl _) _
      | cons a T =>
        have hpq := Tmpm.sortP_perm L P
        have hsq := Tmpm.sortP_sorted L P
        rw [hQ] at hpq hsq
        have hPl : P.length = T.length + 1 := hpq.length_eq.symm
        have hne : P ≠ [] := by intro e; rw [e] at hPl; simp at hPl
        obtain rfl := hax.out hne
        have hhead := hinv.out.head hpq hsq
        have hnext := hinv.out.next hpq hsq
        have hrs := Tmpm.runR_step (W := ys) hQ
        have hLl := hinv.out.hL
        have hP8 : ∀ x ∈ P, x < 8 := fun x hx => by have := hinv.out.lt x hx; omega
        have hT8 : T.length + 1 ≤ 8 := by
          have h1 := hinv.out.ln
          omega
        have hSP := sortPlayers_any (pad L) (pad_len L (by omega)) gp r c P hP8 wr hz.out.pl (by omega)
        rw [sortP_pad, hQ, hPl] at hSP
        obtain ⟨ax2, hax2, hsl⟩ := slice_tail gp r T.length c (by omega) hcm
        obtain ⟨s, hs⟩ : ∃ s, s = (L.getD a 0).toNat := ⟨_, rfl⟩
        rw [← hs] at hhead hnext hrs
        have HH := Lib.hid hhead.1
        have HNX := Lib.hid hnext
        have HRUN : Hid (Tmpm.runR T.length (Tmpm.innr a s T L ys T.length).1 (Tmpm.innr a s T L ys T.length).2 T = reW l) := hrs.symm.trans hrun.out
        have HAX2 := Lib.hid hax2
        have HSP := Lib.hid hSP
        have HINV2 := hinv
        have HIL : Hid ((Try.prog.info? 53).map (·.size) = some (rv (pad L)).size) := by show _ = _; rw [rv_size, pad_len L (by omega)]; exact infoRow
        have HLF := Lib.hid hz.out.lf
        have hcT : T.length + 1 ≤ c := by omega
        have hTi : (0 : Int) < (T.length : Int) + 1 := by omega
        have HL8 : Hid (L.length ≤ 8) := (show L.length ≤ 8 by omega)
        rw [hPl]
        clear hax hhead hnext hrs hrun hax2 hSP hpq hsq hPl hne hLl hP8 hs hQ hPc
        go_wp2_with (first | (refine wpList_load_row rfl 53 _ rfl W6.heap.size rfl 53 _ _ _ HLF.out Try.underlying53 rfl HIL.out ?_) | fail)
        refine HSP.out.mono ?_
        rintro e W9 ⟨⟨v, rfl⟩, hpl9, hgr9⟩
        have Z9 := Lib.hid (hz.out.sort hgr9 hpl9)
        have haT8 : ∀ x ∈ a :: T, x < 8 := by
          intro x hx
          rcases List.mem_cons.1 hx with rfl | hx
          · have := HH.out.an; omega
          · have := HH.out.lt x hx; omega
        have hca : W9.cell? ⟨gp, r, none⟩ = some (.int .i64 (a : Nat)) := Z9.out.pl.at haT8 0 (by simp)
        have HT8 := Lib.hid haT8
        clear hpl9 hgr9 haT8
        go_wp2
        go_quiet (fail)
        have Z10 : Hid (Rz w (W9.drewN nq) W4.heap.size W6.heap.size g gp l.length (r + 1) (Tmpm.innr a s T L ys 0).1 (Tmpm.innr a s T L ys 0).2 T) := (Z9.out.quiet (grown_drewN W9 nq)).tail
        clear hca
        go_wp2
        go_loopw [40] (fun i wr2 => ∃ k : Nat, k ≤ T.length ∧ i = .int .i64 k ∧ Hid (Rz w wr2 W4.heap.size W6.heap.size g gp l.length (r + 1) (Tmpm.innr a s T L ys k).1 (Tmpm.innr a s T L ys k).2 T)) (fun i _ => T.length - (intOf i).toNat)
        case atStart => exact ⟨0, Nat.zero_le _, rfl, Z10.out⟩
        case round =>
          clear Z10 Z9
          obtain ⟨k, hk, rfl, hzk⟩ := hrel
          by_cases hlt : k < T.length
          · obtain rfl := HAX2.out (by omega)
            have hT7 : ∀ x ∈ T, x < 8 := fun x hx => HT8.out x (by simp [hx])
            have hcb0 := hzk.out.pl.at hT7 k hlt
            obtain ⟨b, hb⟩ : ∃ b, b = T.getD k 0 := ⟨_, rfl⟩
            have hbT : b ∈ T := by rw [hb, List.getD_eq_getElem?_getD, List.getElem?_eq_getElem hlt]; exact List.getElem_mem hlt
            rw [← hb] at hcb0
            have hbl := HH.out.lt b hbT
            have hal := HH.out.an
            have hb8 : b < 8 := by omega
            have ha8 : a < 8 := by omega
            have hinL := hinv.out.hL
            have hinW := hinv.out.hW
            have hlen1 := Tmpm.innr_len1 a s T L ys k
            have hlen2 := Tmpm.innr_len2 a s T L ys k
            have hat1 := Tmpm.innr_at1 (a := a) (s := s) (L := L) (W := ys) HH.out.nT HH.out.lt hinL a k hk
            rw [if_neg (fun h => HH.out.aT (List.mem_of_mem_take (List.mem_of_mem_drop h))), HH.out.hs] at hat1
            have hca := hzk.out.cell a (by rw [hlen1]; omega) (by rw [hlen1]; omega)
            rw [hat1] at hca
            have hib : (k : Int) < (T.length : Int) := by omega
            have hkl : (k : Int) ≤ 8 := by omega
            have d0 := hzk.out.xt.c0
            have d1 := hzk.out.xt.c1
            have hy8 := Tmpm.innr_lt (s := s) (L := L) hal h8 HH.out.lt hinW hinv.out.bd k hk
            have HY8 := Lib.hid hy8
            have hBsz := hzk.out.hb.size
            have HLEN1 := Lib.hid hlen1
            have HLEN2 := Lib.hid hlen2
            have HBB := Lib.hid hb
            clear hat1 hlen1 hlen2 hy8 hb hinL hinW
            by_cases hks : k < s
            · have hksi : (k : Int) < (s : Int) := by omega
              have hst : Hid ((Tmpm.innr a s T L ys (k + 1)).1 = (Tmpm.innr a s T L ys k).1 ∧ (Tmpm.innr a s T L ys (k + 1)).2 = (Tmpm.innr a s T L ys k).2.set a ((Tmpm.innr a s T L ys k).2.getD a 0 ||| 2 ^ b)) := by
                rw [Tmpm.innr, if_pos hks, HBB.out]; exact ⟨rfl, rfl⟩
              have HAW := Lib.hid (addWin_gr w.heap.size g l.length l.length a b (Tmpm.innr a s T L ys k).2 wr (by omega) hal (by omega) HY8.out hBsz hzk.out.ow)
              go_wp2_with fail
              refine HAW.out.mono ?_
              rintro e W11 ⟨⟨v11, rfl⟩, ho11, hg11⟩
              have Z11 : Hid (Rz w W11 W4.heap.size W6.heap.size g gp l.length (r + 1) (Tmpm.innr a s T L ys (k + 1)).1 (Tmpm.innr a s T L ys (k + 1)).2 T) := by
                rw [hst.out.1, hst.out.2]; exact hzk.out.win hg11 ho11
              clear ho11 hg11 hca hcb0 d0 d1
              go_wp2
              go_roundw
              case rel => exact ⟨k + 1, by omega, by go_num, Z11.out⟩
              case measure => simp [intOf]; omega
            · have hksi : ¬ (k : Int) < (s : Int) := by omega
              have hat2 := Tmpm.innr_at1 (a := a) (s := s) (L := L) (W := ys) HH.out.nT HH.out.lt hinv.out.hL b k hk
              have hbn : b ∉ (T.take k).drop s := by
                intro h
                have h2 := List.mem_of_mem_drop h
                obtain ⟨j, hj, e⟩ := List.getElem_of_mem h2
                rw [List.length_take] at hj
                rw [List.getElem_take] at e
                have e2 : b = T[k] := by rw [HBB.out, List.getD_eq_getElem?_getD, List.getElem?_eq_getElem hlt]; rfl
                have h5 : T[j]'(by omega) = T[k]'hlt := e.trans e2
                have h6 := (List.getElem_inj HH.out.nT).1 h5
                omega
              rw [if_neg hbn] at hat2
              obtain ⟨x, hx⟩ : ∃ x, x = L.getD b 0 := ⟨_, rfl⟩
              have hxb := HH.out.lo b hbT
              rw [← hx] at hat2 hxb
              have hx0 := hxb.1
              have hx8 := hxb.2
              have hst : Hid ((Tmpm.innr a s T L ys (k + 1)).1 = (Tmpm.innr a s T L ys k).1.set b (x - 1) ∧ (Tmpm.innr a s T L ys (k + 1)).2 = (Tmpm.innr a s T L ys k).2.set b ((Tmpm.innr a s T L ys k).2.getD b 0 ||| 2 ^ a)) := by
                rw [Tmpm.innr, if_neg hks, ← HBB.out, hat2]; exact ⟨rfl, rfl⟩
              have hblen : b < (Tmpm.innr a s T L ys k).1.length := by rw [HLEN1.out, hinv.out.hL]; exact hbl
              have HAW := Lib.hid (addWin_gr w.heap.size g l.length l.length b a (Tmpm.innr a s T L ys k).2 wr (by omega) hbl (by omega) HY8.out hBsz hzk.out.ow)
              have HAT2 := Lib.hid hat2
              have HBL := Lib.hid hblen
              clear hat2 hbn hxb hx hblen
              go_wp2_with fail
              refine HAW.out.mono ?_
              rintro e W11 ⟨⟨v11, rfl⟩, ho11, hg11⟩
              have Z11 := Lib.hid (hzk.out.win hg11 ho11)
              have hc11 := Z11.out.cell b HBL.out (by rw [HLEN1.out]; exact HL8.out)
              rw [HAT2.out] at hc11
              have hf11 := Z11.out.frozen b
              have Z12 : Hid (Rz w (W11.setCell ⟨W6.heap.size, b, none⟩ (.int .i64 (x - 1))) W4.heap.size W6.heap.size g gp l.length (r + 1) (Tmpm.innr a s T L ys (k + 1)).1 (Tmpm.innr a s T L ys (k + 1)).2 T) := by
                rw [hst.out.1, hst.out.2]; exact Z11.out.left b (x - 1) HBL.out
              clear ho11 hg11 hca hcb0 d0 d1
              go_wp2
              go_roundw
              case rel => exact ⟨k + 1, by omega, by go_num, Z12.out⟩
              case measure => simp [intOf]; omega
          · obtain rfl : k = T.length := by omega
            have hcm1 : c - 1 ≤ maxLen := by omega
            have hcT1 : T.length ≤ c - 1 := by omega
            have HAX3 : Hid (T ≠ [] → ax2 = some ⟨gp, r + 1, none⟩) := fun h => HAX2.out (fun e => h (List.eq_nil_of_length_eq_zero e))
            go_wp2
            go_roundw
            case rel => exact ⟨r + 1, _, _, T, ax2, c - 1, rfl, HAX3.out, hcT1, hcm1, hzk.out, HNX.out, HRUN.out⟩
            case measure => simp [lenV]
end Go.Proofs.Ytnlbijmkehijiaa
