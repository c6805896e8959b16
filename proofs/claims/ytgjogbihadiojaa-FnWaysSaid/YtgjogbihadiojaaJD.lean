/-
  The closure of 'Tour.waysFrom' that lengthens a way, walked. Condition: the tour is valid.
-/
import Derived.Test.YtgjogbihadiojaaJC
import Derived.Sort.QuietIn
namespace Go.Proofs.Ytgjogbihadiojaa
open Go.ChangeShapes Go.WideShapes Go.ChangeAt Go.RowKit Go.Shelf
attribute [local go_sem] Oper.semAt_some
set_option linter.unusedVariables false

/-- The ways that go on with the first j next ones. -/
def extT (f : Nat → Nat) (k : Int) (m : Nat) (p : List Nat) (j : Nat) : List (List Nat) := ((Hw.nx f p).take j).flatMap fun b => Hw.ext f k (m - 1) (p ++ [b])
theorem extT_succ {f : Nat → Nat} {k : Int} {m : Nat} {p : List Nat} {j b : Nat} (h : (Hw.nx f p)[j]? = some b) : extT f k m p (j + 1) = extT f k m p j ++ Hw.ext f k (m - 1) (p ++ [b]) := by
  unfold extT
  rw [take_snoc _ j b h, List.flatMap_append]; simp
theorem nx_none {f : Nat → Nat} {p : List Nat} (hp : p.Nodup) (h8 : ∀ x ∈ p, x < 8) (hl : p.length = 8) : Hw.nx f p = [] := by
  rw [List.eq_nil_iff_forall_not_mem]
  intro b hb
  obtain ⟨h1, _, h3⟩ := Hw.mem_nx.1 hb
  exact h3 (Hw.way_all hp h8 hl h1)
theorem extT_all {f : Nat → Nat} {k : Int} {m : Nat} {p : List Nat} (hk : (p.length : Int) ≠ k) (hp : p.Nodup) (h8 : ∀ x ∈ p, x < 8) (hl : p.length + m = 8) : extT f k m p (Hw.nx f p).length = Hw.ext f k m p := by
  unfold extT
  rw [List.take_of_length_le (Nat.le_refl _)]
  cases m with
  | zero => rw [nx_none hp h8 (by omega), Hw.ext_no hk]; rfl
  | succ m => rw [Hw.ext_on hk]; rfl
theorem extT_part {f : Nat → Nat} {k : Int} {m : Nat} {p : List Nat} {j b : Nat} (hk : (p.length : Int) ≠ k) (hb : (Hw.nx f p)[j]? = some b) (hp : p.Nodup) (h8 : ∀ x ∈ p, x < 8) (hl : p.length + m = 8) : ∃ rest, Hw.ext f k m p = extT f k m p j ++ (Hw.ext f k (m - 1) (p ++ [b]) ++ rest) := by
  have hj : j < (Hw.nx f p).length := by
    rcases Nat.lt_or_ge j (Hw.nx f p).length with h | h
    · exact h
    · rw [List.getElem?_eq_none h] at hb; cases hb
  rw [← extT_all hk hp h8 hl]
  refine ⟨((Hw.nx f p).drop (j + 1)).flatMap fun b => Hw.ext f k (m - 1) (p ++ [b]), ?_⟩
  rw [← List.append_assoc, ← extT_succ hb]
  unfold extT
  rw [← List.flatMap_append, List.take_of_length_le (Nat.le_refl _), List.take_append_drop]

/-- What a call of the closure stands on. -/
structure Le (R : Nat → Obj → Prop) (n : Int) (a : Option Addr) (l : List Int) (cap : Nat) (k : Int) (ly Bt Bk By Bf Bl g0 B0 : Nat) (J : List Wx → World → Prop) (Ls : List (List Nat)) (m : Nat) (p gs : List Nat) (s : Nat) (pre : List Wx) (W : World) : Prop where
  lm : p.length + m = 8
  way : Hw.Way (ww l) p
  ne : p ≠ []
  low : ∀ x ∈ p, x < l.length
  set : Hw.Sp p s
  ch : Ch W gs p (.pointer none)
  fst : gs.getD 0 0 = g0
  gs : Gs a Bt Bk By Bf Bl B0 gs W
  env : En n a l cap k ly Bt Bk By Bf Bl g0 W
  j : J pre W
  rest : ∃ rest, Ls = pre.map Prod.fst ++ (Hw.ext (ww l) k m p ++ rest)

/-- What a round leaves, by its answer. -/
def Yd (J Jx : List Wx → World → Prop) (R : Nat → Obj → Prop) (Bz : Nat) (pre : List Wx) (x : Wx) (W1 : World) (b : Bool) (W' : World) : Prop :=
  (b = true ∧ J (pre ++ [x]) W' ∧ KeepR R W1 W' ∧ KeepsFrom Bz W1 W') ∨ (b = false ∧ Jx (pre ++ [x]) W' ∧ KeepsFrom Bz W1 W')
theorem yd_of {J Jx : List Wx → World → Prop} {R : Nat → Obj → Prop} {Bz : Nat} {pre : List Wx} {x : Wx} {W1 : World} {e : Ending} {W' : World}
    (h : (e = .returned (.bool true) ∧ J (pre ++ [x]) W' ∧ KeepR R W1 W' ∧ KeepsFrom Bz W1 W') ∨ (e = .returned (.bool false) ∧ Jx (pre ++ [x]) W' ∧ KeepsFrom Bz W1 W')) : ∃ b, e = .returned (.bool b) ∧ Yd J Jx R Bz pre x W1 b W' := by
  rcases h with ⟨h1, h2⟩ | ⟨h1, h2⟩
  · exact ⟨true, h1, .inl ⟨rfl, h2⟩⟩
  · exact ⟨false, h1, .inr ⟨rfl, h2⟩⟩
/-- A piece of code that ends in one way. -/
theorem wpIn_then {F : Fence} {n : Nat} {P : Program} {c : Code} {K : Act → World → Prop} {Q : Exit → Act → World → Prop} {a : Act} {w : World} (h : c.wpIn F n P (Exit.then K (fun _ _ _ => False)) a w) (hq : ∀ a w, K a w → Q .normal a w) : c.wpIn F n P Q a w :=
  wpIn_mono h (fun e a w hk => by
    cases e with
    | normal => exact hq a w hk
    | _ => exact hk.elim)

set_option maxRecDepth 100000 in
set_option maxHeartbeats 2000000 in
theorem lengthen_at (R : Nat → Obj → Prop) (n : Int) (a : Option Addr) (l : List Int) (cap : Nat) (k : Int) (ly Bt Bk By Bf Bl g0 B0 Bz Wb : Nat) (J Jx : List Wx → World → Prop) (Ls : List (List Nat))
    (hok : Ok n l) (hJ : OwnZ Zl Wb J) (hWb : Wb ≤ B0) (hnm : Nm R a Bt Bk By Bf Bl) (hfr : ∀ b o, B0 ≤ b → R b o)
    (hY : ∀ pre x W1, J pre W1 → YW Ls B0 pre x W1 → YieldAt Fence.wide 6 Try.prog ly (encW x) W1 fun e W' =>
      (e = .returned (.bool true) ∧ J (pre ++ [x]) W' ∧ KeepR R W1 W' ∧ KeepsFrom Bz W1 W') ∨ (e = .returned (.bool false) ∧ Jx (pre ++ [x]) W' ∧ KeepsFrom Bz W1 W'))
    (m : Nat) (p gs : List Nat) (s : Nat) (pre : List Wx) (W : World) (h : Le R n a l cap k ly Bt Bk By Bf Bl g0 B0 J Ls m p gs s pre W) (hk : (p.length : Int) = k) :
    Calls Try.prog 112 #[.pointer (some ⟨gs.getLastD 0, 0, none⟩), .int .i64 (s : Int), .pointer (some ⟨Bk, 0, none⟩), .pointer (some ⟨By, 0, none⟩), .pointer (some ⟨Bf, 0, none⟩), .pointer (some ⟨Bt, 0, none⟩), .pointer (some ⟨Bl, 0, none⟩)] W
      (LenP R J Jx Ls (Hw.ext (ww l) k m p) Bz (gs.getLastD 0) (p.getLastD 0) pre W) := by
  have mixed : Try.prog.follows Departure.mixedOrders = true := by kernel_rfl
  have hl8 : l.length ≤ 8 := by have := hok.2.1; have := hok.2.2.1; omega
  have h8 : ∀ x ∈ p, x < 8 := fun x hx => Nat.lt_of_lt_of_le (h.low x hx) hl8
  have hs8 : s < 256 := h.set.lt h8
  have hpc : pc s = p.length := h.set.pc h.way.1 h8
  have ck := h.env.xk.cell
  have cy := h.env.xy.cell
  have cf := h.env.xf.cell
  have hcnt : ∀ W2 : World, Calls Try.prog 77 #[.int .i64 (s : Int)] W2 fun e w' => e = .returned (.int .i64 k) ∧ w' = W2 := fun W2 => (countElements_any s hs8 W2).mono fun e w' ⟨he, hw⟩ => ⟨by rw [he, hpc, hk], hw.symm⟩
  have HCN := Lib.hid hcnt
  have hext : Hw.ext (ww l) k m p = [p] := Hw.ext_at hk
  have HEXT := Lib.hid hext
  -- players
  have hpv : pV gs 0 (.pointer none) = .pointer (some ⟨g0, 0, none⟩) := by
    have h1 := h.ch.len
    have h2 := List.length_pos_iff.2 h.ne
    rw [pV_lt _ (by omega), h.fst]
  have hpl := players_any gs p W.drew.drew (h.ch.below ((below_drew W).trans ((below_drew W.drew).mono (Nat.le_refl _)))) (by have := h.lm; omega)
  rw [hpv] at hpl
  have HPL := Lib.hid hpl
  have HH := Lib.hid h
  have HB0 : Hid (B0 ≤ W.heap.size) := by
    obtain ⟨x, hx⟩ := List.exists_mem_of_ne_nil _ h.ne
    have h1 := List.length_pos_of_mem hx
    have h2 := h.gs.ne (gs.getD 0 0) (getD_mem (by rw [h.ch.len]; exact h1))
    exact Nat.le_of_lt (Nat.lt_of_le_of_lt h2.2.1 h2.2.2)
  have HKK := Lib.hid hk
  clear hcnt hext hpv hpl h hk hpc hok
  obtain ⟨gl, hgl⟩ : ∃ gl, gl = gs.getLastD 0 := ⟨_, rfl⟩
  have HGL := Lib.hid hgl
  rw [← hgl]
  clear hgl
  refine (callsIn_wide (n := 7)).1 ?_
  refine callsIn_of_wp Try.func112 rfl trivial ?_ rfl
  simp only [Try.ntmps112, List.size_toArray, List.length_cons, List.length_nil, Nat.reduceAdd, Nat.reduceSub, Array.replicate_succ, Array.replicate_zero, List.push_toArray, List.append_toArray, List.nil_append, List.cons_append]
  gi_wp2
  refine wpIn_then (K := fun a' w' => a' = { tmps := #[.pointer (some ⟨gl, 0, none⟩), .int .i64 (s : Int), .pointer (some ⟨Bk, 0, none⟩), .pointer (some ⟨By, 0, none⟩), .pointer (some ⟨Bf, 0, none⟩), .pointer (some ⟨Bt, 0, none⟩), .pointer (some ⟨Bl, 0, none⟩), undef, undef, .bool false, undef, undef, .int .i64 (s : Int), .int .i64 k, .int .i64 k, .bool true, undef, undef, undef, undef, undef, undef, undef, undef, undef, undef, undef, undef, undef, undef, undef, undef, undef, undef, undef, undef, undef, undef, undef, undef, undef, undef, undef, undef, undef, undef, undef, undef, undef, undef, undef, undef, undef, undef], defers := [] } ∧ w' = W.drew) ?reg ?_
  case reg =>
    gi_region_with_o (refine ⟨trivial, ?_⟩; refine (callsIn_wide.2 (HCN.out _)).mono ?_; rintro e w1 ⟨rfl, rfl⟩)
    all_goals exact ⟨rfl, rfl⟩
  rintro a' w' ⟨rfl, rfl⟩
  gi_wp2
  gi_region_with_o (first
    | (refine ⟨trivial, ?_⟩; refine (callsIn_wide.2 (HPL.out)).mono ?_; rintro e w1 ⟨⟨g, c, rfl, hown⟩, hb1⟩
       have hbW : Below W.heap.size W w1 := ((below_drew W).trans (below_drew W.drew)).trans hb1
       have hj1 := hJ _ W w1 none HH.out.j (grown_of_below hbW) (by simp)
       obtain ⟨rest, hrest⟩ := HH.out.rest
       rw [HEXT.out] at hrest
       obtain ⟨fn, tmps, assign, body, hyy, hR⟩ := hY pre (p, g, c) w1 hj1 ⟨⟨rest, by rw [hrest]; rfl⟩, hown.mono (by have := HB0.out; exact this)⟩
       dsimp only [encW] at hyy
       have HR := Lib.hid hR
       have HBW := Lib.hid hbW
       have cy1 := (hbW.cell (p := ⟨By, 0, none⟩) HH.out.env.xy.lt).trans cy
       clear hR hown hb1 hbW hj1 hrest)
    | (refine HR.out.mono ?_; rintro e w2 hpost; obtain ⟨b, rfl, hyd⟩ := yd_of hpost; have HYD := Lib.hid hyd; clear hpost hyd))
  all_goals
    have HF : Hid (LenP R J Jx Ls (Hw.ext (ww l) k m p) Bz gl (p.getLastD 0) pre W (.returned (.bool b)) w2) := by
      obtain ⟨rest, hrest⟩ := HH.out.rest
      rw [HEXT.out] at hrest
      show LenP _ _ _ _ _ _ _ _ _ _ _ _
      have hgl : gl ∈ gs := by
        rw [HGL.out, Hw.last_getD _ (by intro e; have h1 := HH.out.ch.len; rw [e] at h1; exact HH.out.ne (List.eq_nil_of_length_eq_zero h1.symm))]
        have h1 := List.length_pos_iff.2 HH.out.ne
        have h2 := HH.out.ch.len
        exact getD_mem (by omega)
      rcases HYD.out with ⟨rfl, h1, h2, h3⟩ | ⟨rfl, h1, h3⟩
      · have hlast := HH.out.ch.last HH.out.ne
        rw [← HGL.out] at hlast
        refine .inl ⟨rfl, ⟨[(p, g, c)], by rw [HEXT.out]; rfl, h1⟩, (KeepR.below HBW.out).trans (h2.weak (fun _ _ _ h => h.1)), ⟨_, (hlast.below HBW.out hlast.lt).keepR h2 (hfr _ _ (HH.out.gs.ne gl hgl).2.1)⟩, (kf_below HBW.out).trans h3⟩
      · exact .inr ⟨rfl, ⟨[(p, g, c)], ⟨rest, by rw [hrest]; simp⟩, h1⟩, (kf_below HBW.out).trans h3⟩
    clear HYD hyy cy1
    gi_wp2
    go_ret
    exact HF.out
end Go.Proofs.Ytgjogbihadiojaa
