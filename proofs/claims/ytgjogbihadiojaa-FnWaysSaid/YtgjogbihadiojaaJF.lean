/-
  The closure of 'Tour.waysFrom' that lengthens a way, walked whole. Condition: the tour is valid.
-/
import Derived.Test.YtgjogbihadiojaaJE
namespace Go.Proofs.Ytgjogbihadiojaa
open Go.ChangeShapes Go.WideShapes Go.ChangeAt Go.RowKit Go.Shelf
attribute [local go_sem] Oper.semAt_some
set_option linter.unusedVariables false

set_option maxRecDepth 100000 in
set_option maxHeartbeats 1000000 in
theorem lengthen_on (R : Nat → Obj → Prop) (n : Int) (a : Option Addr) (l : List Int) (cap : Nat) (k : Int) (ly Bt Bk By Bf Bl g0 B0 Bz Wb : Nat) (J Jx : List Wx → World → Prop) (Ls : List (List Nat))
    (hok : Ok n l) (hJ : OwnZ Zl Wb J) (hWb : Wb ≤ B0) (hnm : Nm R a Bt Bk By Bf Bl) (hfr : ∀ b o, B0 ≤ b → R b o)
    (m : Nat) (IH : ∀ (m' : Nat) (p gs : List Nat) (s : Nat) (pre : List Wx) (W : World), m = m' + 1 → Le R n a l cap k ly Bt Bk By Bf Bl g0 B0 J Ls m' p gs s pre W →
      Calls Try.prog 112 #[.pointer (some ⟨gs.getLastD 0, 0, none⟩), .int .i64 (s : Int), .pointer (some ⟨Bk, 0, none⟩), .pointer (some ⟨By, 0, none⟩), .pointer (some ⟨Bf, 0, none⟩), .pointer (some ⟨Bt, 0, none⟩), .pointer (some ⟨Bl, 0, none⟩)] W
        (LenP R J Jx Ls (Hw.ext (ww l) k m' p) Bz (gs.getLastD 0) (p.getLastD 0) pre W))
    (p gs : List Nat) (s : Nat) (pre : List Wx) (W : World) (h : Le R n a l cap k ly Bt Bk By Bf Bl g0 B0 J Ls m p gs s pre W) (hk : (p.length : Int) ≠ k) :
    Calls Try.prog 112 #[.pointer (some ⟨gs.getLastD 0, 0, none⟩), .int .i64 (s : Int), .pointer (some ⟨Bk, 0, none⟩), .pointer (some ⟨By, 0, none⟩), .pointer (some ⟨Bf, 0, none⟩), .pointer (some ⟨Bt, 0, none⟩), .pointer (some ⟨Bl, 0, none⟩)] W
      (LenP R J Jx Ls (Hw.ext (ww l) k m p) Bz (gs.getLastD 0) (p.getLastD 0) pre W) := by
  have mixed : Try.prog.follows Departure.mixedOrders = true := by kernel_rfl
  have hl8 : l.length ≤ 8 := by have := hok.2.1; have := hok.2.2.1; omega
  have h8 : ∀ x ∈ p, x < 8 := fun x hx => Nat.lt_of_lt_of_le (h.low x hx) hl8
  have hs8 : s < 256 := h.set.lt h8
  have hpc : pc s = p.length := h.set.pc h.way.1 h8
  obtain ⟨pk, hpk⟩ : ∃ pk : Int, pk = (p.length : Int) := ⟨_, rfl⟩
  have hkb : (pk == k) = false := by rw [hpk]; simpa using hk
  have hcnt : ∀ W2 : World, Calls Try.prog 77 #[.int .i64 (s : Int)] W2 fun e w' => e = .returned (.int .i64 pk) ∧ w' = W2 := fun W2 => (countElements_any s hs8 W2).mono fun e w' ⟨he, hw⟩ => ⟨by rw [he, hpc, hpk], hw.symm⟩
  have HCN := Lib.hid hcnt
  -- the last one, and whom it beats
  have hpl0 := List.length_pos_iff.2 h.ne
  obtain ⟨u, hu⟩ : ∃ u, u = p.getLastD 0 := ⟨_, rfl⟩
  have hul : u < l.length := by rw [hu, Hw.last_getD p h.ne]; exact h.low _ (getD_mem (by omega))
  obtain ⟨hz1, hz2, hz3⟩ := hok.ww hul
  obtain ⟨z, hz⟩ : ∃ z, z = ww l u := ⟨_, rfl⟩
  rw [← hz] at hz1 hz2 hz3
  obtain ⟨ab, off, rfl, habl, hcx⟩ := h.env.hr.at hul
  rw [hz1] at hcx
  obtain ⟨zz, hzz⟩ : ∃ zz, zz = z ^^^ (z &&& s) := ⟨_, rfl⟩
  have hzz8 : zz < 256 := by rw [hzz]; exact Nat.xor_lt_two_pow (n := 8) hz3 (Nat.lt_of_le_of_lt Nat.and_le_left hz3)
  have han : bits .andNot .i64 (z : Int) (s : Int) = (zz : Int) := by rw [hzz]; exact i64_andNotW z s (by omega) (by omega)
  have hel : elems zz = Hw.nx (ww l) p := by rw [hzz, hz, hu]; exact Hw.nx_set _ _ _ h.set
  have hew := elementsOf_any zz hzz8 W.drew.drew
  rw [hel] at hew
  obtain ⟨M, hM⟩ : ∃ M, M = (Hw.nx (ww l) p).length := ⟨_, rfl⟩
  rw [← hM] at hew
  have hM8 : M ≤ 8 := by rw [hM]; exact Hw.nx_len _ _
  have HEW := Lib.hid hew
  have HM := Lib.hid hM
  obtain ⟨gl, hgl⟩ : ∃ gl, gl = gs.getLastD 0 := ⟨_, rfl⟩
  have HGL := Lib.hid hgl
  have hlast := h.ch.last h.ne
  rw [← hgl, ← hu] at hlast
  have hgm : gl ∈ gs := by
    rw [hgl, Hw.last_getD _ (by intro e; have h1 := h.ch.len; rw [e] at h1; simp at h1; omega)]
    exact getD_mem (by have := h.ch.len; omega)
  obtain ⟨hgd, hg0, hgw⟩ := h.gs.ne gl hgm
  have HB0 : Hid (B0 ≤ W.heap.size) := Nat.le_of_lt (Nat.lt_of_le_of_lt hg0 hgw)
  have ck := h.env.xk.cell
  have ct1 := h.env.xt.c1
  have cg0 := hlast.c0
  have HH := Lib.hid h
  have HNK := Lib.hid hk
  have HU := Lib.hid hu
  have HGD := Lib.hid hgd
  have HIH := Lib.hid IH
  have HOK := Lib.hid hok
  have HLA := Lib.hid hlast
  have hui : (u : Int) < (l.length : Int) := by omega
  have hmx : l.length ≤ 9223372036854775807 := by omega
  rw [← hgl, ← hu]
  clear hcnt hpc hpk hk hz hz1 hzz hel hew hM hgl hu hgd h IH hok hlast hpl0 habl
  refine (callsIn_wide (n := 7)).1 ?_
  refine callsIn_of_wp Try.func112 rfl trivial ?_ rfl
  simp only [Try.ntmps112, List.size_toArray, List.length_cons, List.length_nil, Nat.reduceAdd, Nat.reduceSub, Array.replicate_succ, Array.replicate_zero, List.push_toArray, List.append_toArray, List.nil_append, List.cons_append]
  gi_wp2
  refine wpIn_then (K := fun a' w' => a' = { tmps := #[.pointer (some ⟨gl, 0, none⟩), .int .i64 (s : Int), .pointer (some ⟨Bk, 0, none⟩), .pointer (some ⟨By, 0, none⟩), .pointer (some ⟨Bf, 0, none⟩), .pointer (some ⟨Bt, 0, none⟩), .pointer (some ⟨Bl, 0, none⟩), undef, undef, .bool false, undef, undef, .int .i64 (s : Int), .int .i64 pk, .int .i64 k, .bool false, undef, undef, undef, undef, undef, undef, undef, undef, undef, undef, undef, undef, undef, undef, undef, undef, undef, undef, undef, undef, undef, undef, undef, undef, undef, undef, undef, undef, undef, undef, undef, undef, undef, undef, undef, undef, undef, undef], defers := [] } ∧ w' = W.drew) ?reg ?_
  case reg =>
    gi_region_with_o (refine ⟨trivial, ?_⟩; refine (callsIn_wide.2 (HCN.out _)).mono ?_; rintro e w1 ⟨rfl, rfl⟩)
    all_goals exact ⟨rfl, rfl⟩
  rintro a' w' ⟨rfl, rfl⟩
  gi_wp2
  refine wpIn_then (K := fun a' w' => ∃ ge ce, a' = { tmps := #[.pointer (some ⟨gl, 0, none⟩), .int .i64 (s : Int), .pointer (some ⟨Bk, 0, none⟩), .pointer (some ⟨By, 0, none⟩), .pointer (some ⟨Bf, 0, none⟩), .pointer (some ⟨Bt, 0, none⟩), .pointer (some ⟨Bl, 0, none⟩), undef, undef, .bool false, undef, undef, .int .i64 (s : Int), .int .i64 pk, .int .i64 k, .bool false, undef, undef, undef, undef, .pointer (some ⟨Bt, 1, none⟩), .slice (some ⟨ab, off, none⟩) l.length cap, .pointer (some ⟨gl, 0, none⟩), .pointer (some ⟨gl, 0, none⟩), .pointer (some ⟨gl, 0, none⟩), .int .i64 (u : Int), .pointer (some ⟨ab, off + u, none⟩), .int .i64 (z : Int), .int .i64 (s : Int), .int .i64 (zz : Int), .slice (some ⟨ge, 0, none⟩) M ce, .int .i64 (M : Int), .int .i64 0, undef, undef, undef, undef, undef, undef, undef, undef, undef, undef, undef, undef, undef, undef, undef, undef, undef, undef, undef, undef, undef], defers := [] } ∧ Hid (w'.ownsRow W.heap.size 3 1 (.slice (some ⟨ge, 0, none⟩) M ce) M ((Hw.nx (ww l) p).map nv)) ∧ Below W.heap.size W w') ?reg ?_
  case reg =>
    gi_region_with_o (refine ⟨trivial, ?_⟩; refine (callsIn_wide.2 HEW.out).mono ?_; rintro e w1 ⟨⟨ge, ce, rfl, hown⟩, hb1⟩; have HOW := Lib.hid hown; have HBW := Lib.hid (((below_drew W).trans (below_drew W.drew)).trans hb1); clear hown hb1)
    all_goals exact ⟨ge, ce, rfl, HOW.out, HBW.out⟩
  rintro a' w' ⟨ge, ce, rfl, hown, hbw⟩
  have HOWN := Lib.hid hown.out
  have HBW := Lib.hid hbw
  have HL0 : Hid (Lp R J (ww l) k m p Bz gl pre w' 0 w') :=
    ⟨⟨[], rfl, by rw [List.append_nil]; exact hJ _ W w' none HH.out.j (grown_of_below hbw) (by simp)⟩, KeepR.refl _ _, ⟨_, by rw [← HU.out]; exact HLA.out.below hbw HLA.out.lt⟩, KeepsFrom.refl _ _⟩
  clear hown hbw ck ct1 cg0 hcx
  gi_wp2
  gi_loopw [32] (fun i wr => ∃ j : Nat, j ≤ M ∧ i = .int .i64 j ∧ Lp R J (ww l) k m p Bz gl pre w' j wr) (fun i _ => M - (intOf i).toNat)
  case atStart => exact ⟨0, Nat.zero_le _, rfl, HL0.out⟩
  case round =>
    clear HL0
    obtain ⟨j, hj, rfl, hlp⟩ := hrel
    by_cases hlt : j < M
    · obtain ⟨b, hb⟩ : ∃ b, (Hw.nx (ww l) p)[j]? = some b := ⟨_, List.getElem?_eq_getElem (by rw [← HM.out]; exact hlt)⟩
      rcases m with _ | m'
      · have := nx_none (f := ww l) HH.out.way.1 h8 (by have := HH.out.lm; omega)
        rw [this] at hb; simp at hb
      obtain ⟨hb8, _, _⟩ := Hw.mem_nx.1 (List.mem_of_getElem? hb)
      obtain ⟨W3, hW3⟩ : ∃ W3, W3 = (wr.alloc (.cells #[.int .i64 (b : Int), .pointer none] 57)).setCell ⟨gl, 1, none⟩ (.pointer (some ⟨wr.heap.size, 0, none⟩)) := ⟨_, rfl⟩
      obtain ⟨xs, hx1, hle, hkr, hbx, hkf⟩ := HH.out.child HOK.out hJ hWb hnm hfr HNK.out HGL.out HBW.out hlp hb hW3
      obtain ⟨s2, hs2⟩ : ∃ s2, s2 = s ||| 2 ^ b := ⟨_, rfl⟩
      have hcall := HIH.out m' _ _ _ _ W3.drew rfl hle
      rw [List.getLastD_concat, List.getLastD_concat, ← hs2] at hcall
      have hp8 := pow_le b (by omega)
      have hor : bits .or .i64 (s : Int) (IntKind.i64.wrap (2 ^ b)) = (s2 : Int) := by rw [hs2, wrapPowI b (by omega)]; exact i64_or _ _ (by omega) (by omega)
      have hcr : wr.cell? ⟨ge, j, none⟩ = some (.int .i64 (b : Int)) := by
        rw [(own_keepR HOWN.out hlp.keep (fun g cur hg => ⟨hfr _ _ (by have := HB0.out; omega), by omega⟩)).cellAt j (by omega), List.getElem?_map, hb]; rfl
      obtain ⟨nx, hla⟩ := hlp.last
      have x2 : Box (wr.alloc (.cells #[.int .i64 (b : Int), .pointer none] 57)) gl 57 (.int .i64 ((p.getLastD 0 : Nat) : Int)) nx := hla.below ((Below.refl _ _).alloc (Nat.le_refl _) _) hla.lt
      have c1 := x2.c1
      have f1 := x2.f1
      have d1 : W3.cell? ⟨Bl, 0, none⟩ = _ := hle.env.xl.cell
      have d2 : W3.cell? ⟨gl, 1, none⟩ = _ := hbx.c1
      have hjb : (j : Int) < (M : Int) := by omega
      rw [set_alloc _ _ _ _ _ hla.lt] at hW3
      have HW3 := Lib.hid hW3
      have HCALL := Lib.hid hcall
      have HX1 := Lib.hid hx1
      have HKR := Lib.hid hkr
      have HKF := Lib.hid hkf
      have HBX := Lib.hid hbx
      have HLP := Lib.hid hlp
      have HBB := Lib.hid hb
      have hgw2 : gl < wr.heap.size := hla.lt
      clear hW3 hcall hx1 hkr hkf hbx hlp hb hle hla x2 hs2
      gi_wp2
      rw [← HW3.out]
      clear c1 f1 hcr
      gi_region_with_o (refine ⟨trivial, ?_⟩; (with_reducible refine (callsIn_wide.2 HCALL.out).mono ?_); rintro e w4 hpost; obtain ⟨bb, rfl, hlen⟩ := lenP_of hpost; have HLEN := Lib.hid hlen; clear hpost hlen)
      all_goals
        clear d1 d2 hor
        rcases lenP_cases HLEN.out with ⟨rfl, ⟨ys, hy1, hy2⟩, hk4, _, hf4⟩ | ⟨rfl, ⟨ys, ⟨rest, hy1⟩, hy2⟩, hf4⟩
        · have HNX : Hid (Lp R J (ww l) k (m' + 1) p Bz gl pre w' (j + 1) w4) := by
            refine ⟨⟨xs ++ ys, by rw [List.map_append, hy1, HX1.out, extT_succ HBB.out]; rfl, by rw [← List.append_assoc]; exact hy2⟩, ?_, ⟨_, HBX.out.keepR hk4 ⟨hfr _ _ hg0, by omega⟩⟩, (HLP.out.oth.trans HKF.out).trans hf4⟩
            exact (HLP.out.keep.trans HKR.out).over hk4 (fun _ _ _ h => h) (fun b2 o hb2 h => ⟨h.1, by have := HLP.out.keep.size; omega⟩)
          clear HLEN hy1 hy2 hk4 hf4
          gi_wp2
          go_roundw
          case rel => exact ⟨j + 1, by omega, by go_num, HNX.out⟩
          case measure => simp [intOf]; omega
        · have HF : Hid (LenP R J Jx Ls (Hw.ext (ww l) k (m' + 1) p) Bz gl u pre W (.returned (.bool false)) w4) :=
            .inr ⟨rfl, ⟨xs ++ ys, ⟨rest, by rw [← List.append_assoc]; exact hy1⟩, by rw [← List.append_assoc]; exact hy2⟩, (kf_below HBW.out).trans ((HLP.out.oth.trans HKF.out).trans hf4)⟩
          clear HLEN hy1 hy2 hf4
          gi_wp2
          go_ret
          exact HF.out
    · obtain rfl : j = M := by omega
      obtain ⟨xs, hx1, hx2⟩ := hlp.come
      rw [HM.out, extT_all HNK.out HH.out.way.1 h8 HH.out.lm] at hx1
      have HF : Hid (LenP R J Jx Ls (Hw.ext (ww l) k m p) Bz gl u pre W (.returned (.bool true)) wr) :=
        .inl ⟨rfl, ⟨xs, hx1, hx2⟩, (KeepR.below HBW.out).trans hlp.keep, by have := hlp.last; rwa [← HU.out] at this, (kf_below HBW.out).trans hlp.oth⟩
      clear hlp hx1 hx2
      gi_wp2
      go_ret
      exact HF.out

/-- The closure, whole. -/
theorem lengthen_any (R : Nat → Obj → Prop) (n : Int) (a : Option Addr) (l : List Int) (cap : Nat) (k : Int) (ly Bt Bk By Bf Bl g0 B0 Bz Wb : Nat) (J Jx : List Wx → World → Prop) (Ls : List (List Nat))
    (hok : Ok n l) (hJ : OwnZ Zl Wb J) (hWb : Wb ≤ B0) (hnm : Nm R a Bt Bk By Bf Bl) (hfr : ∀ b o, B0 ≤ b → R b o)
    (hY : ∀ pre x W1, J pre W1 → YW Ls B0 pre x W1 → YieldAt Fence.wide 6 Try.prog ly (encW x) W1 fun e W' =>
      (e = .returned (.bool true) ∧ J (pre ++ [x]) W' ∧ KeepR R W1 W' ∧ KeepsFrom Bz W1 W') ∨ (e = .returned (.bool false) ∧ Jx (pre ++ [x]) W' ∧ KeepsFrom Bz W1 W')) :
    ∀ (m : Nat) (p gs : List Nat) (s : Nat) (pre : List Wx) (W : World), Le R n a l cap k ly Bt Bk By Bf Bl g0 B0 J Ls m p gs s pre W →
      Calls Try.prog 112 #[.pointer (some ⟨gs.getLastD 0, 0, none⟩), .int .i64 (s : Int), .pointer (some ⟨Bk, 0, none⟩), .pointer (some ⟨By, 0, none⟩), .pointer (some ⟨Bf, 0, none⟩), .pointer (some ⟨Bt, 0, none⟩), .pointer (some ⟨Bl, 0, none⟩)] W
        (LenP R J Jx Ls (Hw.ext (ww l) k m p) Bz (gs.getLastD 0) (p.getLastD 0) pre W) := by
  intro m
  induction m with
  | zero =>
    intro p gs s pre W h
    by_cases hk : (p.length : Int) = k
    · exact lengthen_at R n a l cap k ly Bt Bk By Bf Bl g0 B0 Bz Wb J Jx Ls hok hJ hWb hnm hfr hY 0 p gs s pre W h hk
    · exact lengthen_on R n a l cap k ly Bt Bk By Bf Bl g0 B0 Bz Wb J Jx Ls hok hJ hWb hnm hfr 0 (fun m' _ _ _ _ _ e _ => by omega) p gs s pre W h hk
  | succ m ih =>
    intro p gs s pre W h
    by_cases hk : (p.length : Int) = k
    · exact lengthen_at R n a l cap k ly Bt Bk By Bf Bl g0 B0 Bz Wb J Jx Ls hok hJ hWb hnm hfr hY (m + 1) p gs s pre W h hk
    · exact lengthen_on R n a l cap k ly Bt Bk By Bf Bl g0 B0 Bz Wb J Jx Ls hok hJ hWb hnm hfr (m + 1) (fun m' p gs s pre W e hle => by
        obtain rfl : m = m' := by omega
        exact ih p gs s pre W hle) p gs s pre W h hk
end Go.Proofs.Ytgjogbihadiojaa
