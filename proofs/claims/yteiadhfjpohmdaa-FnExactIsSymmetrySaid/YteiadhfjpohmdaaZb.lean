/-
  'FnExactRenameTour': the program's RenameTour answers as the model's for every tour and every list of names, leaves both as they were, and shares no memory with them. No conditions.
-/
import Derived.Test.YteiadhfjpohmdaaZ
namespace Go.Proofs.Yteiadhfjpohmdaa
open Go.ChangeShapes Go.WideShapes Go.ChangeAt Go.RowKit
set_option linter.unusedVariables false

set_option maxHeartbeats 1000000 in
theorem specRename (n : Int) (a : Option Addr) (l : List Int) (cap : Nat) (an : Option Addr) (ns : List Int) (cn : Nat) (w : World) (hrow : IntRow w a l) (hl : l.length ≤ maxLen) (hrn : IntRow w an ns) (hn : ns.length ≤ maxLen) :
    Calls Try.prog 97 #[.agg #[.int .i64 n, .slice a l.length cap], .slice an ns.length cn] w fun e w' => (∃ a0 c0, e = .returned (.tuple #[.agg #[.int .i64 (renN n l ns), .slice a0 (renR n l ns).length c0], .bool (renB n l ns)]) ∧ w'.ownsRow w.heap.size 3 1 (.slice a0 (renR n l ns).length c0) (renR n l ns).length ((renR n l ns).map iv)) ∧ Below w.heap.size w w' := by
  obtain ⟨Wb, hWb⟩ : ∃ Wb, Wb = w.alloc (.cells #[.int .i64 n, .slice a l.length cap] 27) := ⟨_, rfl⟩
  obtain ⟨Wa, hWa⟩ : ∃ Wa, Wa = Wb.alloc (.cells #[.int .i64 0, .slice none 0 0] 27) := ⟨_, rfl⟩
  have sb : Wb.heap.size = w.heap.size + 1 := by rw [hWb]; simp
  have sa : Wa.heap.size = w.heap.size + 1 + 1 := by rw [hWa]; simp [sb]
  have hbb : Below w.heap.size w Wb := by rw [hWb]; exact (Below.refl _ _).alloc (Nat.le_refl _) _
  have hba : Below w.heap.size w Wa := by rw [hWa]; exact hbb.alloc hbb.size _
  have xt : Box Wa w.heap.size 27 (.int .i64 n) (.slice a l.length cap) := by
    rw [hWa]; exact (show Box Wb w.heap.size 27 (.int .i64 n) (.slice a l.length cap) by rw [hWb]; exact Box.new _ _ _ _).below ((Below.refl Wb.heap.size Wb).alloc (Nat.le_refl _) _) (by omega)
  have xr : Box Wa (w.heap.size + 1) 27 (.int .i64 0) (.slice none 0 0) := by rw [hWa, ← sb]; exact Box.new _ _ _ _
  have HWa : Hid (Wa = (w.alloc (.cells #[.int .i64 n, .slice a l.length cap] 27)).alloc (.cells #[.int .i64 0, .slice none 0 0] 27)) := by rw [hWa, hWb]; exact rfl
  have hrowa : IntRow Wa a l := hrow.below hba (Nat.le_refl _)
  have hrown : IntRow Wa an ns := hrn.below hba (Nat.le_refl _)
  have HN := Lib.hid hn
  have HL := Lib.hid hl
  clear hl hn hrn hrow hWa hWb hbb
  cases hok : okB n l
  · have HO := Lib.hid hok
    have HE : Hid (renB n l ns = false) := by show _ = _; unfold renB; rw [hok]; rfl
    clear hok
    go_enter Try.func97, Try.ntmps97
    go_wp2_with fail
    rw [← HWa.out]
    refine (specTourOk n a l cap Wa hrowa HL.out).mono ?_
    rintro e w1 ⟨rfl, hb1⟩
    rw [HO.out]
    have B1 := hba.trans (hb1.mono hba.size)
    have xr1 := xr.below hb1 xr.lt
    have xt1 := xt.below hb1 xt.lt
    have c0 := xr1.c0
    have c1 := xr1.c1
    have f0 := xr1.f0
    have f1 := xr1.f1
    have X := Lib.hid xr1
    have BB := Lib.hid (B1)
    clear xr1
    go_wp2
    refine bodyPost_ret (v := .tuple #[.agg #[.int .i64 0, .slice none 0 0], .bool false]) (Box.res2 rfl _ rfl rfl ((X.out.set0 _).set1 _)) rfl ?_
    refine ⟨⟨none, 0, ?_, ?_⟩, ?_⟩
    · unfold renN renR; rw [HE.out]; rfl
    · unfold renR; rw [HE.out]; exact World.ownsRow_nil _ _ _ _
    · exact (BB.out.setCell (p := ⟨w.heap.size + 1, 0, none⟩) (Nat.le_succ _) _).setCell (p := ⟨w.heap.size + 1, 1, none⟩) (Nat.le_succ _) _
  have HO := Lib.hid hok
  have HK : Hid (Ok n l) := okB_iff.1 hok
  have hnl := HK.out.2.2.1
  have hl8 : l.length ≤ 8 := by have := HK.out.2.1; omega
  subst hnl
  cases hp : permB l.length ns
  · have HP := Lib.hid hp
    have HE : Hid (renB l.length l ns = false) := by show _ = _; unfold renB; rw [hp]; simp
    clear hok hp
    go_enter Try.func97, Try.ntmps97
    go_wp2_with fail
    rw [← HWa.out]
    refine (specTourOk _ a l cap Wa hrowa HL.out).mono ?_
    rintro e w1 ⟨rfl, hb1⟩
    rw [HO.out]
    have B1 := hba.trans (hb1.mono hba.size)
    have xr1 := xr.below hb1 xr.lt
    have xt1 := xt.below hb1 xt.lt
    have c0 := xt1.c0
    go_wp2_with fail
    refine (l02Perm_any l.length an ns cn w1 hl8 (hrown.below hb1 (Nat.le_refl _)) HN.out).mono ?_
    rintro e w2 ⟨rfl, hb2⟩
    rw [HP.out]
    have B2 := B1.trans (hb2.mono B1.size)
    have xr2 := xr1.below hb2 xr1.lt
    have xt2 := xt1.below hb2 xt1.lt
    clear c0
    have c0 := xr2.c0
    have c1 := xr2.c1
    have f0 := xr2.f0
    have f1 := xr2.f1
    have X := Lib.hid xr2
    have BB := Lib.hid (B2)
    clear xr2
    go_wp2
    refine bodyPost_ret (v := .tuple #[.agg #[.int .i64 0, .slice none 0 0], .bool false]) (Box.res2 rfl _ rfl rfl ((X.out.set0 _).set1 _)) rfl ?_
    refine ⟨⟨none, 0, ?_, ?_⟩, ?_⟩
    · unfold renN renR; rw [HE.out]; rfl
    · unfold renR; rw [HE.out]; exact World.ownsRow_nil _ _ _ _
    · exact (BB.out.setCell (p := ⟨w.heap.size + 1, 0, none⟩) (Nat.le_succ _) _).setCell (p := ⟨w.heap.size + 1, 1, none⟩) (Nat.le_succ _) _
  have HP := Lib.hid hp
  have HE : Hid (renB l.length l ns = true) := by show _ = _; unfold renB; rw [hok, hp]; rfl
  clear hok hp
  go_enter Try.func97, Try.ntmps97
  go_wp2_with fail
  rw [← HWa.out]
  refine (specTourOk _ a l cap Wa hrowa HL.out).mono ?_
  rintro e w1 ⟨rfl, hb1⟩
  rw [HO.out]
  have B1 := hba.trans (hb1.mono hba.size)
  have xr1 := xr.below hb1 xr.lt
  have xt1 := xt.below hb1 xt.lt
  have c0 := xt1.c0
  go_wp2_with fail
  refine (l02Perm_any l.length an ns cn w1 hl8 (hrown.below hb1 (Nat.le_refl _)) HN.out).mono ?_
  rintro e w2 ⟨rfl, hb2⟩
  rw [HP.out]
  have B2 := B1.trans (hb2.mono B1.size)
  have xr2 := xr1.below hb2 xr1.lt
  have xt2 := xt1.below hb2 xt1.lt
  clear c0
  have c0 := xt2.c0
  have c1 := xt2.c1
  go_wp2_with fail
  refine (l02Rename_any a l cap an ns cn w2 ((hrowa.below hb1 (Nat.le_refl _)).below hb2 (Nat.le_refl _)) ((hrown.below hb1 (Nat.le_refl _)).below hb2 (Nat.le_refl _)) HK.out HP.out).mono ?_
  rintro e w3 ⟨⟨g, rfl, ho3⟩, hb3⟩
  have xr3 := xr2.below hb3 xr2.lt
  have B3 := B2.trans (hb3.mono B2.size)
  have e0 := xr3.c0
  have e1 := xr3.c1
  have e2 := xr3.f0
  have e3 := xr3.f1
  have XR := Lib.hid xr3
  have BB := Lib.hid B3
  have HO3 := Lib.hid ho3
  have HX := Lib.hid xr2.lt
  have HB2 := Lib.hid B2.size
  clear xr3 B3 ho3 xr2 xt2 B2 c0 c1 hb1 hb2 hb3 xr1 xt1 B1 xr xt hrowa hrown hba
  go_wp2
  have hn : renN l.length l ns = l.length := by unfold renN; rw [HE.out]; rfl
  have hr : renR l.length l ns = (renF ns (gamesL l.length l)).map Int.ofNat := by unfold renR; rw [HE.out]; rfl
  have hlen : ((renF ns (gamesL l.length l)).map Int.ofNat).length = l.length := by simp [renF_len]
  refine bodyPost_ret (v := .tuple #[.agg #[.int .i64 l.length, .slice (some ⟨g, 0, none⟩) l.length l.length], .bool true]) (Box.res2 rfl _ rfl rfl ((XR.out.set0 _).set1 _)) rfl ?_
  refine ⟨⟨some ⟨g, 0, none⟩, l.length, ?_, ?_⟩, ?_⟩
  · rw [hn, hr, hlen, HE.out]
  · rw [hr, hlen, ← nv_iv]
    exact (own_set (own_set HO3.out ⟨w.heap.size + 1, 0, none⟩ _ (by have := HX.out; show w.heap.size + 1 < _; omega)) ⟨w.heap.size + 1, 1, none⟩ _ (by have := HX.out; show w.heap.size + 1 < _; omega)).mono HB2.out
  · exact (BB.out.setCell (p := ⟨w.heap.size + 1, 0, none⟩) (Nat.le_succ _) _).setCell (p := ⟨w.heap.size + 1, 1, none⟩) (Nat.le_succ _) _

theorem markI2 (B n p : Nat) (a : Option Addr) (cap : Nat) (l : List Value) (w : World) (hn : n ≤ 1048577) (hp : p ≤ 1048577) (hown : w.ownsRow B 3 1 (.slice a n cap) n l) :
    Calls Try.prog 21 #[.slice a n cap, .int .i64 (1 + p)] w fun e w' => (∃ k : Nat, e = .returned (.int .i64 k) ∧ k ≤ 4194304) ∧ (∃ Z : List Int, Z.length = n ∧ w'.ownsRow B 3 1 (.slice a n cap) n (Z.map iv)) ∧ Below B w w' ∧ w.grownBy w' (blk a) := by
  have := markInt B n (1 + p) _ l w hn (by omega) hown
  rw [blk_own] at this
  have e : ((1 + p : Nat) : Int) = 1 + (p : Int) := by omega
  rw [e] at this
  refine this.mono ?_
  rintro e' w' ⟨rfl, ho, hb, hg⟩
  exact ⟨⟨_, rfl, by omega⟩, ⟨_, marks_len _ _, ho⟩, hb, hg⟩

/-- The row of names, beside 'St' and 'Bs'. -/
structure Nx (w W : World) (gn : Nat) (m : Nat) (Z : List Int) (pA px p0 pg : Nat) (a0 ax ag : Option Addr) : Prop where
  r1 : W.ownsRow w.heap.size 3 1 (.slice (some ⟨gn, 0, none⟩) m m) m (Z.map iv)
  nb : gn ≠ pA ∧ gn ≠ px ∧ gn ≠ p0 ∧ gn ≠ pg ∧ blk a0 ≠ some gn ∧ blk ax ≠ some gn ∧ blk ag ≠ some gn
theorem Nx.kept {w W W' : World} {gn m : Nat} {Z : List Int} {pA px p0 pg : Nat} {a0 ax ag : Option Addr} (h : Nx w W gn m Z pA px p0 pg a0 ax ag) (hb : Below W.heap.size W W') : Nx w W' gn m Z pA px p0 pg a0 ax ag := ⟨own_below h.r1 hb, h.nb⟩
theorem Nx.grown {w W W' : World} {gn m : Nat} {Z : List Int} {pA px p0 pg : Nat} {a0 ax ag : Option Addr} (h : Nx w W gn m Z pA px p0 pg a0 ax ag) {row : Option Nat} (hg : W.grownBy W' row) (hr : row = blk ax ∨ row = blk ag) : Nx w W' gn m Z pA px p0 pg a0 ax ag :=
  ⟨own_grown h.r1 hg (fun k hk e => by
    have hkg : k = gn := by simp [blk] at hk; omega
    subst hkg
    rcases hr with h1 | h1
    · exact h.nb.2.2.2.2.2.1 (h1.symm.trans e)
    · exact h.nb.2.2.2.2.2.2 (h1.symm.trans e)), h.nb⟩
theorem St.markN {w W W' : World} {pA : Nat} {n : Int} {a : Option Addr} {cap : Nat} {l : List Int} {px : Nat} {ax : Option Addr} {cx : Nat} {X : List Int} {a0 : Option Addr} {c0 : Nat} {R : List Int} {ag : Option Addr} {cg : Nat} {G : List Int} {gn m : Nat} {Z : List Int} {p0 pg : Nat}
    (h : St w W pA n a cap l px ax cx X a0 c0 R ag cg G) (hn : Nx w W gn m Z pA px p0 pg a0 ax ag) (hb : Below w.heap.size W W') (hg : W.grownBy W' (some gn)) : St w W' pA n a cap l px ax cx X a0 c0 R ag cg G :=
  ⟨h.hb.trans hb, h.hr, h.bA.grown hg (fun e => hn.nb.1 (by simpa using e)), h.bx.grown hg (fun e => hn.nb.2.1 (by simpa using e)), own_grown h.rx hg (fun k hk e => hn.nb.2.2.2.2.2.1 (by rw [hk, ← e])), own_grown h.r0 hg (fun k hk e => hn.nb.2.2.2.2.1 (by rw [hk, ← e])), own_grown h.rg hg (fun k hk e => hn.nb.2.2.2.2.2.2 (by rw [hk, ← e])), h.nx, h.ng⟩
theorem Bs.markN {w W W' : World} {p0 pg : Nat} {rn : Int} {a0 : Option Addr} {c0 m0 : Nat} {ag : Option Addr} {cg mg : Nat} {ax : Option Addr} {gn m : Nat} {Z : List Int} {pA px : Nat}
    (h : Bs W p0 pg rn a0 c0 m0 ag cg mg ax) (hn : Nx w W gn m Z pA px p0 pg a0 ax ag) (hg : W.grownBy W' (some gn)) : Bs W' p0 pg rn a0 c0 m0 ag cg mg ax :=
  ⟨h.b0.grown hg (fun e => hn.nb.2.2.1 (by simpa using e)), h.bg.grown hg (fun e => hn.nb.2.2.2.1 (by simpa using e)), h.n0⟩

end Go.Proofs.Yteiadhfjpohmdaa


