/-
  The model's 'FlipGame'. No conditions but the bounds that Go gives a slice.
-/
import Derived.Test.YteiadhfjpohmdaaH
import Derived.Deep.AppendLies
import Derived.Deep.RegionHeld3
namespace Go.Proofs.Yteiadhfjpohmdaa
open Go.ChangeShapes Go.WideShapes Go.ChangeAt Go.RowKit
set_option linter.unusedVariables false

theorem Below.one (w : World) (o : Obj) : Below w.heap.size w (w.alloc o) := (Below.refl _ _).alloc (Nat.le_refl _) _
theorem Box.more {w : World} {p : Nat} {t : TypeId} {v0 v1 : Value} (h : Box w p t v0 v1) (o : Obj) : Box (w.alloc o) p t v0 v1 := h.below (Below.one w o) h.lt
theorem Box.drew {w : World} {p : Nat} {t : TypeId} {v0 v1 : Value} (h : Box w p t v0 v1) : Box w.drew p t v0 v1 := h
theorem own_empty (w : World) (B p : Nat) (hB : B ≤ w.heap.size) (hp : w.heap.size = p) : (w.alloc (.cells #[] 3)).ownsRow B 3 1 (.slice (some ⟨p, 0, none⟩) 0 0) 0 [] := by
  subst hp; exact World.ownsRow_lit (base := B) (e := 3) (size := 1) w #[] 0 hB (by simp) rfl
theorem IntRow.more {w : World} {a : Option Addr} {l : List Int} (h : IntRow w a l) (o : Obj) : IntRow (w.alloc o) a l := h.below (Below.one w o) (Nat.le_refl _)

theorem own_other {w : World} {B g n c : Nat} {xs : List Value} (h : w.ownsRow B 3 1 (.slice (some ⟨g, 0, none⟩) n c) n xs) (p : Addr) (u : Value) (hp : g ≠ p.block) : (w.setCell p u).ownsRow B 3 1 (.slice (some ⟨g, 0, none⟩) n c) n xs := by
  have hg : w.grownBy (w.setCell p u) (some p.block) := ⟨rfl, rfl, rfl, by simp [World.setCell], fun k hk hn => heap_setCell_other w p k u (fun e => hn (by rw [e]))⟩
  exact own_grown h hg (fun k hk e => hp (by simp [blk] at hk; simp at e; omega))

set_option maxHeartbeats 10000000 in
theorem l02Flip_any (n : Int) (a : Option Addr) (l : List Int) (cap i j : Nat) (w : World) (hrow : IntRow w a l) (hok : Ok n l) (hil : i < l.length) (hjl : j < l.length) (hij : i ≠ j) :
    Calls Try.prog 144 #[.agg #[.int .i64 n, .slice a l.length cap], .int .i64 i, .int .i64 j] w fun e w' => (∃ g c0, e = .returned (.agg #[.int .i64 n, .slice (some ⟨g, 0, none⟩) l.length c0]) ∧ w'.ownsRow w.heap.size 3 1 (.slice (some ⟨g, 0, none⟩) l.length c0) l.length ((flipL l i j).map iv)) ∧ Below w.heap.size w w' := by
  obtain ⟨i0, hi, hz0, hz1, hz2⟩ := info_parts infoInt
  obtain ⟨ws, hws, hlt⟩ := hok.nats
  have hnl := hok.2.2.1
  have hn8 := hok.2.1
  have hlw : ws.length = l.length := by rw [hws]; simp
  subst hnl
  have hl8 : l.length ≤ 8 := by omega
  have HWS := Lib.hid hws
  have HLT : Hid (∀ y ∈ ws, y < 256) := fun y hy => (hlt y hy).2
  obtain ⟨ca, rfl⟩ : ∃ ca, a = some ca := by
    rcases hrow with h | ⟨b, off, h, _⟩
    · exfalso; rw [h] at hil; simp at hil
    · exact ⟨_, h⟩
  have hone : ∀ v ∈ l.map iv, v.oneCell' = true := by intro v hv; obtain ⟨x, _, rfl⟩ := List.mem_map.1 hv; rfl
  have H1 := Lib.hid hone
  have hpos : 0 < l.length := by omega
  have h2 : IntRow ((w.alloc (.cells #[.int .i64 (l.length : Int), .slice (some ca) l.length cap] 27)).alloc (.cells #[.int .i64 0, .slice none 0 0] 27)) (some ca) l := (hrow.more _).more _
  have b1 := Below.one w (.cells #[.int .i64 (l.length : Int), .slice (some ca) l.length cap] 27)
  have b2 : Below w.heap.size w ((w.alloc (.cells #[.int .i64 (l.length : Int), .slice (some ca) l.length cap] 27)).alloc (.cells #[.int .i64 0, .slice none 0 0] 27)) := b1.alloc b1.size _
  have z2 : ((w.alloc (.cells #[.int .i64 (l.length : Int), .slice (some ca) l.length cap] 27)).alloc (.cells #[.int .i64 0, .slice none 0 0] 27)).heap.size = w.heap.size + 1 + 1 := by simp
  have x1 : Box ((w.alloc (.cells #[.int .i64 (l.length : Int), .slice (some ca) l.length cap] 27)).alloc (.cells #[.int .i64 0, .slice none 0 0] 27)) (w.heap.size + 1) 27 (.int .i64 0) (.slice none 0 0) := by
    have := Box.new (w.alloc (.cells #[.int .i64 (l.length : Int), .slice (some ca) l.length cap] 27)) 27 (.int .i64 0) (.slice none 0 0)
    simpa using this
  have bd : Below w.heap.size w (((w.alloc (.cells #[.int .i64 (l.length : Int), .slice (some ca) l.length cap] 27)).alloc (.cells #[.int .i64 0, .slice none 0 0] 27)).alloc (.cells #[.int .i64 0, .slice none 0 0] 27)) := b2.alloc b2.size _
  have zd : (((w.alloc (.cells #[.int .i64 (l.length : Int), .slice (some ca) l.length cap] 27)).alloc (.cells #[.int .i64 0, .slice none 0 0] 27)).alloc (.cells #[.int .i64 0, .slice none 0 0] 27)).heap.size = w.heap.size + 1 + 1 + 1 := by simp
  have xd : Box (((w.alloc (.cells #[.int .i64 (l.length : Int), .slice (some ca) l.length cap] 27)).alloc (.cells #[.int .i64 0, .slice none 0 0] 27)).alloc (.cells #[.int .i64 0, .slice none 0 0] 27)) (w.heap.size + 1 + 1) 27 (.int .i64 0) (.slice none 0 0) := by
    have := Box.new ((w.alloc (.cells #[.int .i64 (l.length : Int), .slice (some ca) l.length cap] 27)).alloc (.cells #[.int .i64 0, .slice none 0 0] 27)) 27 (.int .i64 0) (.slice none 0 0)
    simpa using this
  have bb : Below w.heap.size w (((w.alloc (.cells #[.int .i64 (l.length : Int), .slice (some ca) l.length cap] 27)).alloc (.cells #[.int .i64 0, .slice none 0 0] 27)).alloc (.cells #[] 3)) := b2.alloc b2.size _
  have zb : (((w.alloc (.cells #[.int .i64 (l.length : Int), .slice (some ca) l.length cap] 27)).alloc (.cells #[.int .i64 0, .slice none 0 0] 27)).alloc (.cells #[] 3)).heap.size = w.heap.size + 1 + 1 + 1 := by simp
  have xc : Box ((((w.alloc (.cells #[.int .i64 (l.length : Int), .slice (some ca) l.length cap] 27)).alloc (.cells #[.int .i64 0, .slice none 0 0] 27)).alloc (.cells #[] 3)).alloc (.cells #[.int .i64 0, .slice none 0 0] 27)) (w.heap.size + 1 + 1 + 1) 27 (.int .i64 0) (.slice none 0 0) := by
    have := Box.new (((w.alloc (.cells #[.int .i64 (l.length : Int), .slice (some ca) l.length cap] 27)).alloc (.cells #[.int .i64 0, .slice none 0 0] 27)).alloc (.cells #[] 3)) 27 (.int .i64 0) (.slice none 0 0)
    simpa using this
  have OA := Lib.hid (own_empty (((w.alloc (.cells #[.int .i64 (l.length : Int), .slice (some ca) l.length cap] 27)).alloc (.cells #[.int .i64 0, .slice none 0 0] 27)).alloc (.cells #[.int .i64 0, .slice none 0 0] 27)) w.heap.size (w.heap.size + 1 + 1 + 1) bd.size zd).drew
  have OB := Lib.hid (own_empty ((w.alloc (.cells #[.int .i64 (l.length : Int), .slice (some ca) l.length cap] 27)).alloc (.cells #[.int .i64 0, .slice none 0 0] 27)) w.heap.size (w.heap.size + 1 + 1) b2.size z2).drew
  have OC := Lib.hid ((own_empty ((w.alloc (.cells #[.int .i64 (l.length : Int), .slice (some ca) l.length cap] 27)).alloc (.cells #[.int .i64 0, .slice none 0 0] 27)) w.heap.size (w.heap.size + 1 + 1) b2.size z2).alloc (.cells #[.int .i64 0, .slice none 0 0] 27)).drew
  have RA := Lib.hid (row_src ((h2.more (.cells #[.int .i64 0, .slice none 0 0] 27)).more (.cells #[] 3)))
  have RB := Lib.hid (row_src (h2.more (.cells #[] 3)))
  have RC := Lib.hid (row_src ((h2.more (.cells #[] 3)).more (.cells #[.int .i64 0, .slice none 0 0] 27)))
  have BA := Lib.hid (bd.alloc bd.size (.cells #[] 3)).drew
  have BB := Lib.hid bb.drew
  have BC := Lib.hid (bb.alloc bb.size (.cells #[.int .i64 0, .slice none 0 0] 27)).drew
  have XA := Lib.hid ((x1.more (.cells #[.int .i64 0, .slice none 0 0] 27)).more (.cells #[] 3)).drew
  have XB := Lib.hid (x1.more (.cells #[] 3)).drew
  have XC := Lib.hid ((x1.more (.cells #[] 3)).more (.cells #[.int .i64 0, .slice none 0 0] 27)).drew
  have t0 : Box ((w.alloc (.cells #[.int .i64 (l.length : Int), .slice (some ca) l.length cap] 27)).alloc (.cells #[.int .i64 0, .slice none 0 0] 27)) w.heap.size 27 (.int .i64 (l.length : Int)) (.slice (some ca) l.length cap) := (Box.new w 27 _ _).more _
  have TA := Lib.hid ((t0.more (.cells #[.int .i64 0, .slice none 0 0] 27)).more (.cells #[] 3)).drew
  have TB := Lib.hid (t0.more (.cells #[] 3)).drew
  have TC := Lib.hid ((t0.more (.cells #[] 3)).more (.cells #[.int .i64 0, .slice none 0 0] 27)).drew
  have YA := Lib.hid (xd.more (.cells #[] 3)).drew
  have YC := Lib.hid xc.drew
  clear t0 h2 b1 b2 z2 x1 bd zd xd bb zb xc hone hws hlt hok hrow
  go_enter Try.func144, Try.ntmps144
  go_wp2
  go_region_law (first
    | (refine step_append_lies _ rfl (.tmp 10) (.tmp 12) 22 rfl w.heap.size 3 i0 (.int .i64 0) 1 8 Try.underlying22 hi hz0 hz1 hz2 rfl (by decide) (.slice (some ⟨w.heap.size + 1 + 1 + 1, 0, none⟩) 0 0) 0 [] rfl OA.out ca l.length cap (l.map iv) rfl (by simp) RA.out H1.out (by omega) (by unfold maxLen; omega) (by omega) (by simp <;> omega) _ rfl ?_
       intro g ck w1 hown hgrow hat hlt1
       have hgw : Hid (w.heap.size + 1 + 1 ≤ g) := (by rcases hat with h | h <;> (simp [Value.ownBlock] at h; show _ ≤ g; omega))
       have hgp : Hid (g ≠ w.heap.size + 1 + 1) := (by rcases hat with h | h <;> (simp [Value.ownBlock] at h; show g ≠ _; omega))
       have B1 := Lib.hid (BA.out.grown hgrow (by simp <;> omega) (fun k hk => by simp [Value.ownBlock] at hk; omega))
       have X1 := Lib.hid (XA.out.grown hgrow (by simp [Value.ownBlock] <;> omega)); have y1 := YA.out.grown hgrow (by simp [Value.ownBlock] <;> omega); have o0 := y1.c0; have o1 := y1.c1; have q0 := y1.f0; have q1 := y1.f1; have Y1 := Lib.hid y1; clear y1
       have O1 := Lib.hid (show w1.ownsRow w.heap.size 3 1 (.slice (some ⟨g, 0, none⟩) l.length ck) l.length (l.map iv) from (by simpa using hown))
       have t1 := TA.out.grown hgrow (by simp [Value.ownBlock] <;> omega)
       have a0 := t1.c0
       have a1 := t1.c1
       have t2 := t1.more (.cells #[.int .i64 0, .slice none 0 0] 27)
       have a2 := t2.c0
       clear t2 t1 hown hgrow hat hlt1)
    | (refine step_append_lies _ rfl (.tmp 10) (.tmp 12) 22 rfl w.heap.size 3 i0 (.int .i64 0) 1 8 Try.underlying22 hi hz0 hz1 hz2 rfl (by decide) (.slice (some ⟨w.heap.size + 1 + 1, 0, none⟩) 0 0) 0 [] rfl OC.out ca l.length cap (l.map iv) rfl (by simp) RC.out H1.out (by omega) (by unfold maxLen; omega) (by omega) (by simp <;> omega) _ rfl ?_
       intro g ck w1 hown hgrow hat hlt1
       have hgw : Hid (w.heap.size + 1 + 1 ≤ g) := (by rcases hat with h | h <;> (simp [Value.ownBlock] at h; show _ ≤ g; omega))
       have hgp : Hid (g ≠ w.heap.size + 1 + 1 + 1) := (by rcases hat with h | h <;> (simp [Value.ownBlock] at h; show g ≠ _; omega))
       have B1 := Lib.hid (BC.out.grown hgrow (by simp <;> omega) (fun k hk => by simp [Value.ownBlock] at hk; omega))
       have X1 := Lib.hid (XC.out.grown hgrow (by simp [Value.ownBlock] <;> omega)); have y1 := YC.out.grown hgrow (by simp [Value.ownBlock] <;> omega); have o0 := y1.c0; have o1 := y1.c1; have q0 := y1.f0; have q1 := y1.f1; have Y1 := Lib.hid y1; clear y1
       have O1 := Lib.hid (show w1.ownsRow w.heap.size 3 1 (.slice (some ⟨g, 0, none⟩) l.length ck) l.length (l.map iv) from (by simpa using hown))
       have t1 := TC.out.grown hgrow (by simp [Value.ownBlock] <;> omega)
       have a0 := t1.c0
       have a1 := t1.c1
       have t2 := t1.more (.cells #[.int .i64 0, .slice none 0 0] 27)
       have a2 := t2.c0
       clear t2 t1 hown hgrow hat hlt1)
    | (refine step_append_lies _ rfl (.tmp 10) (.tmp 12) 22 rfl w.heap.size 3 i0 (.int .i64 0) 1 8 Try.underlying22 hi hz0 hz1 hz2 rfl (by decide) (.slice (some ⟨w.heap.size + 1 + 1, 0, none⟩) 0 0) 0 [] rfl OB.out ca l.length cap (l.map iv) rfl (by simp) RB.out H1.out (by omega) (by unfold maxLen; omega) (by omega) (by simp <;> omega) _ rfl ?_
       intro g ck w1 hown hgrow hat hlt1
       have hgw : Hid (w.heap.size + 1 + 1 ≤ g) := (by rcases hat with h | h <;> (simp [Value.ownBlock] at h; show _ ≤ g; omega))
       have hgp : Hid (g < w1.heap.size) := hlt1
       have B1 := Lib.hid (BB.out.grown hgrow (by simp <;> omega) (fun k hk => by simp [Value.ownBlock] at hk; omega))
       have X1 := Lib.hid (XB.out.grown hgrow (by simp [Value.ownBlock] <;> omega))
       have O1 := Lib.hid (show w1.ownsRow w.heap.size 3 1 (.slice (some ⟨g, 0, none⟩) l.length ck) l.length (l.map iv) from (by simpa using hown))
       have t1 := TB.out.grown hgrow (by simp [Value.ownBlock] <;> omega)
       have a0 := t1.c0
       have a1 := t1.c1
       have t2 := t1.more (.cells #[.int .i64 0, .slice none 0 0] 27)
       have a2 := t2.c0
       clear t2 t1 hown hgrow hat hlt1))
  all_goals first
    | (obtain ⟨wz, hwz⟩ : ∃ wz, wz = ((w1.setCell ⟨w.heap.size + 1 + 1, 0, none⟩ (.int .i64 (l.length : Int))).setCell ⟨w.heap.size + 1 + 1, 1, none⟩ (.slice (some ⟨g, 0, none⟩) l.length ck)) := ⟨_, rfl⟩
       rw [← hwz]
       have xo : Box wz (w.heap.size + 1 + 1) 27 (.int .i64 (l.length : Int)) (.slice (some ⟨g, 0, none⟩) l.length ck) := by rw [hwz]; exact (Y1.out.set0 _).set1 _
       have oz : wz.ownsRow w.heap.size 3 1 (.slice (some ⟨g, 0, none⟩) l.length ck) l.length (l.map iv) := by rw [hwz]; exact own_other (own_other O1.out ⟨w.heap.size + 1 + 1, 0, none⟩ _ (fun e => hgp.out e)) ⟨w.heap.size + 1 + 1, 1, none⟩ _ (fun e => hgp.out e)
       have xz : Box wz (w.heap.size + 1) 27 (.int .i64 0) (.slice none 0 0) := by rw [hwz]; exact (X1.out.other ⟨w.heap.size + 1 + 1, 0, none⟩ _ (by simp <;> omega)).other ⟨w.heap.size + 1 + 1, 1, none⟩ _ (by simp <;> omega)
       have bz : Below w.heap.size w wz := by rw [hwz]; exact (B1.out.setCell (p := ⟨w.heap.size + 1 + 1, 0, none⟩) (by show w.heap.size ≤ w.heap.size + 1 + 1; omega) _).setCell (p := ⟨w.heap.size + 1 + 1, 1, none⟩) (by show w.heap.size ≤ w.heap.size + 1 + 1; omega) _
       have hgo : Hid (g ≠ w.heap.size + 1 + 1) := hgp
       have hpo : Hid (w.heap.size + 1 + 1 ≤ w.heap.size + 1 + 1) := (by show _ ≤ _; omega)
       have XO := Lib.hid xo
       have OZ := Lib.hid (show wz.ownsRow w.heap.size 3 1 (.slice (some ⟨g, 0, none⟩) l.length ck) l.length (ws.map nv) from by rw [show ws.map nv = l.map iv by rw [nv_iv, ← HWS.out]]; exact oz)
       have XZ := Lib.hid xz
       have BZ := Lib.hid bz
       have hil2 : (i : Int) < (l.length : Int) := by omega
       have hjl2 : (j : Int) < (l.length : Int) := by omega
       obtain ⟨x1, z1, hx1, hf1, hz1', ho7⟩ := flip_at (by omega) hil (show j < 8 by omega) HLT.out OZ.out
       have H7 := Lib.hid ho7
       have d0 := xo.c0
       have d1 := xo.c1
       clear ho7 hwz xo oz xz bz
       try clear o0 o1 q0 q1
       clear a0 a1 a2
       go_wp2
       go_region
       all_goals
         obtain ⟨w7, hw7⟩ : ∃ w7, w7 = (wz.setCell ⟨g, i, none⟩ (.int .i64 z1)).drew := ⟨_, rfl⟩
         rw [← hw7]
         have ho7 : w7.ownsRow w.heap.size 3 1 (.slice (some ⟨g, 0, none⟩) l.length ck) l.length ((flipAt ws i j).map nv) := by rw [hw7]; exact H7.out.drew
         have xf7 : Box w7 (w.heap.size + 1 + 1) 27 (.int .i64 l.length) (.slice (some ⟨g, 0, none⟩) l.length ck) := by rw [hw7]; exact XO.out.other ⟨g, i, none⟩ _ (fun e => hgo.out e.symm)
         have xr7 : Box w7 (w.heap.size + 1) 27 (.int .i64 0) (.slice none 0 0) := by rw [hw7]; exact XZ.out.other ⟨g, i, none⟩ _ (by have := hgw.out; simp <;> omega)
         have B7 : Below w.heap.size w w7 := by rw [hw7]; exact (BZ.out.setCell (p := ⟨g, i, none⟩) (by have := hgw.out; show w.heap.size ≤ g; omega) _).drew
         obtain ⟨x2, z2, hx2, hf2, hz2', ho8⟩ := flip_at (by omega) hjl (show i < 8 by omega) (flipAt_lt ws i j (by omega) HLT.out) ho7
         have H8 := Lib.hid ho8
         have XF7 := Lib.hid xf7
         have XR7 := Lib.hid xr7
         have BB7 := Lib.hid B7
         clear hw7 d0 d1 hx1 hf1 ho7 ho8
         have d0 := xf7.c0
         have d1 := xf7.c1
         clear xf7 xr7 B7
         go_wp2
         go_region
         all_goals
           obtain ⟨w8, hw8⟩ : ∃ w8, w8 = (w7.setCell ⟨g, j, none⟩ (.int .i64 z2)).drew := ⟨_, rfl⟩
           rw [← hw8]
           have ho8 : w8.ownsRow w.heap.size 3 1 (.slice (some ⟨g, 0, none⟩) l.length ck) l.length ((flipAt (flipAt ws i j) j i).map nv) := by rw [hw8]; exact H8.out.drew
           have xf8 : Box w8 (w.heap.size + 1 + 1) 27 (.int .i64 l.length) (.slice (some ⟨g, 0, none⟩) l.length ck) := by rw [hw8]; exact XF7.out.other ⟨g, j, none⟩ _ (fun e => hgo.out e.symm)
           have xr8 : Box w8 (w.heap.size + 1) 27 (.int .i64 0) (.slice none 0 0) := by rw [hw8]; exact XR7.out.other ⟨g, j, none⟩ _ (by have := hgw.out; simp <;> omega)
           have B8 : Below w.heap.size w w8 := by rw [hw8]; exact (BB7.out.setCell (p := ⟨g, j, none⟩) (by have := hgw.out; show w.heap.size ≤ g; omega) _).drew
           have H9 := Lib.hid ho8
           have XR8 := Lib.hid xr8
           have BB8 := Lib.hid B8
           clear hw8 d0 d1 hx2 hf2 ho8
           have d0 := xf8.c0
           have d1 := xf8.c1
           have e0 := xr8.c0
           have e1 := xr8.c1
           have e2 := xr8.f0
           have e3 := xr8.f1
           clear xf8 xr8 B8
           go_wp2
           obtain ⟨ht1, ht2⟩ := flip_tail ws l HWS.out i j
           refine bodyPost_ret (v := .agg #[.int .i64 l.length, .slice (some ⟨g, 0, none⟩) l.length ck]) (Box.res1 rfl _ rfl ((XR8.out.set0 _).set1 _)) rfl ?_
           refine ⟨⟨g, ck, rfl, ?_⟩, ?_⟩
           · rw [← ht1]
             exact own_other (own_other H9.out ⟨w.heap.size + 1, 0, none⟩ _ (by have := hgw.out; simp <;> omega)) ⟨w.heap.size + 1, 1, none⟩ _ (by have := hgw.out; simp <;> omega)
           · exact (BB8.out.setCell (p := ⟨w.heap.size + 1, 0, none⟩) (Nat.le_succ _) _).setCell (p := ⟨w.heap.size + 1, 1, none⟩) (Nat.le_succ _) _)
    | (obtain ⟨wz, hwz⟩ : ∃ wz, wz = ((w1.setCell ⟨w.heap.size + 1 + 1 + 1, 0, none⟩ (.int .i64 (l.length : Int))).setCell ⟨w.heap.size + 1 + 1 + 1, 1, none⟩ (.slice (some ⟨g, 0, none⟩) l.length ck)) := ⟨_, rfl⟩
       rw [← hwz]
       have xo : Box wz (w.heap.size + 1 + 1 + 1) 27 (.int .i64 (l.length : Int)) (.slice (some ⟨g, 0, none⟩) l.length ck) := by rw [hwz]; exact (Y1.out.set0 _).set1 _
       have oz : wz.ownsRow w.heap.size 3 1 (.slice (some ⟨g, 0, none⟩) l.length ck) l.length (l.map iv) := by rw [hwz]; exact own_other (own_other O1.out ⟨w.heap.size + 1 + 1 + 1, 0, none⟩ _ (fun e => hgp.out e)) ⟨w.heap.size + 1 + 1 + 1, 1, none⟩ _ (fun e => hgp.out e)
       have xz : Box wz (w.heap.size + 1) 27 (.int .i64 0) (.slice none 0 0) := by rw [hwz]; exact (X1.out.other ⟨w.heap.size + 1 + 1 + 1, 0, none⟩ _ (by simp <;> omega)).other ⟨w.heap.size + 1 + 1 + 1, 1, none⟩ _ (by simp <;> omega)
       have bz : Below w.heap.size w wz := by rw [hwz]; exact (B1.out.setCell (p := ⟨w.heap.size + 1 + 1 + 1, 0, none⟩) (by show w.heap.size ≤ w.heap.size + 1 + 1 + 1; omega) _).setCell (p := ⟨w.heap.size + 1 + 1 + 1, 1, none⟩) (by show w.heap.size ≤ w.heap.size + 1 + 1 + 1; omega) _
       have hgo : Hid (g ≠ w.heap.size + 1 + 1 + 1) := hgp
       have hpo : Hid (w.heap.size + 1 + 1 ≤ w.heap.size + 1 + 1 + 1) := (by show _ ≤ _; omega)
       have XO := Lib.hid xo
       have OZ := Lib.hid (show wz.ownsRow w.heap.size 3 1 (.slice (some ⟨g, 0, none⟩) l.length ck) l.length (ws.map nv) from by rw [show ws.map nv = l.map iv by rw [nv_iv, ← HWS.out]]; exact oz)
       have XZ := Lib.hid xz
       have BZ := Lib.hid bz
       have hil2 : (i : Int) < (l.length : Int) := by omega
       have hjl2 : (j : Int) < (l.length : Int) := by omega
       obtain ⟨x1, z1, hx1, hf1, hz1', ho7⟩ := flip_at (by omega) hil (show j < 8 by omega) HLT.out OZ.out
       have H7 := Lib.hid ho7
       have d0 := xo.c0
       have d1 := xo.c1
       clear ho7 hwz xo oz xz bz
       try clear o0 o1 q0 q1
       clear a0 a1 a2
       go_wp2
       go_region
       all_goals
         obtain ⟨w7, hw7⟩ : ∃ w7, w7 = (wz.setCell ⟨g, i, none⟩ (.int .i64 z1)).drew := ⟨_, rfl⟩
         rw [← hw7]
         have ho7 : w7.ownsRow w.heap.size 3 1 (.slice (some ⟨g, 0, none⟩) l.length ck) l.length ((flipAt ws i j).map nv) := by rw [hw7]; exact H7.out.drew
         have xf7 : Box w7 (w.heap.size + 1 + 1 + 1) 27 (.int .i64 l.length) (.slice (some ⟨g, 0, none⟩) l.length ck) := by rw [hw7]; exact XO.out.other ⟨g, i, none⟩ _ (fun e => hgo.out e.symm)
         have xr7 : Box w7 (w.heap.size + 1) 27 (.int .i64 0) (.slice none 0 0) := by rw [hw7]; exact XZ.out.other ⟨g, i, none⟩ _ (by have := hgw.out; simp <;> omega)
         have B7 : Below w.heap.size w w7 := by rw [hw7]; exact (BZ.out.setCell (p := ⟨g, i, none⟩) (by have := hgw.out; show w.heap.size ≤ g; omega) _).drew
         obtain ⟨x2, z2, hx2, hf2, hz2', ho8⟩ := flip_at (by omega) hjl (show i < 8 by omega) (flipAt_lt ws i j (by omega) HLT.out) ho7
         have H8 := Lib.hid ho8
         have XF7 := Lib.hid xf7
         have XR7 := Lib.hid xr7
         have BB7 := Lib.hid B7
         clear hw7 d0 d1 hx1 hf1 ho7 ho8
         have d0 := xf7.c0
         have d1 := xf7.c1
         clear xf7 xr7 B7
         go_wp2
         go_region
         all_goals
           obtain ⟨w8, hw8⟩ : ∃ w8, w8 = (w7.setCell ⟨g, j, none⟩ (.int .i64 z2)).drew := ⟨_, rfl⟩
           rw [← hw8]
           have ho8 : w8.ownsRow w.heap.size 3 1 (.slice (some ⟨g, 0, none⟩) l.length ck) l.length ((flipAt (flipAt ws i j) j i).map nv) := by rw [hw8]; exact H8.out.drew
           have xf8 : Box w8 (w.heap.size + 1 + 1 + 1) 27 (.int .i64 l.length) (.slice (some ⟨g, 0, none⟩) l.length ck) := by rw [hw8]; exact XF7.out.other ⟨g, j, none⟩ _ (fun e => hgo.out e.symm)
           have xr8 : Box w8 (w.heap.size + 1) 27 (.int .i64 0) (.slice none 0 0) := by rw [hw8]; exact XR7.out.other ⟨g, j, none⟩ _ (by have := hgw.out; simp <;> omega)
           have B8 : Below w.heap.size w w8 := by rw [hw8]; exact (BB7.out.setCell (p := ⟨g, j, none⟩) (by have := hgw.out; show w.heap.size ≤ g; omega) _).drew
           have H9 := Lib.hid ho8
           have XR8 := Lib.hid xr8
           have BB8 := Lib.hid B8
           clear hw8 d0 d1 hx2 hf2 ho8
           have d0 := xf8.c0
           have d1 := xf8.c1
           have e0 := xr8.c0
           have e1 := xr8.c1
           have e2 := xr8.f0
           have e3 := xr8.f1
           clear xf8 xr8 B8
           go_wp2
           obtain ⟨ht1, ht2⟩ := flip_tail ws l HWS.out i j
           refine bodyPost_ret (v := .agg #[.int .i64 l.length, .slice (some ⟨g, 0, none⟩) l.length ck]) (Box.res1 rfl _ rfl ((XR8.out.set0 _).set1 _)) rfl ?_
           refine ⟨⟨g, ck, rfl, ?_⟩, ?_⟩
           · rw [← ht1]
             exact own_other (own_other H9.out ⟨w.heap.size + 1, 0, none⟩ _ (by have := hgw.out; simp <;> omega)) ⟨w.heap.size + 1, 1, none⟩ _ (by have := hgw.out; simp <;> omega)
           · exact (BB8.out.setCell (p := ⟨w.heap.size + 1, 0, none⟩) (Nat.le_succ _) _).setCell (p := ⟨w.heap.size + 1, 1, none⟩) (Nat.le_succ _) _)
    | (obtain ⟨wz, hwz⟩ : ∃ wz, wz = (w1.alloc (.cells #[.int .i64 (l.length : Int), .slice (some ⟨g, 0, none⟩) l.length ck] 27)) := ⟨_, rfl⟩
       rw [← hwz]
       have xo : Box wz (w1.heap.size) 27 (.int .i64 (l.length : Int)) (.slice (some ⟨g, 0, none⟩) l.length ck) := by rw [hwz]; exact Box.new _ _ _ _
       have oz : wz.ownsRow w.heap.size 3 1 (.slice (some ⟨g, 0, none⟩) l.length ck) l.length (l.map iv) := by rw [hwz]; exact O1.out.alloc _
       have xz : Box wz (w.heap.size + 1) 27 (.int .i64 0) (.slice none 0 0) := by rw [hwz]; exact X1.out.more _
       have bz : Below w.heap.size w wz := by rw [hwz]; exact B1.out.alloc B1.out.size _
       have hgo : Hid (g ≠ w1.heap.size) := (by show g ≠ _; have := hgp.out; omega)
       have hpo : Hid (w.heap.size + 1 + 1 ≤ w1.heap.size) := (by show _ ≤ _; have := X1.out.lt; have := hgw.out; have := hgp.out; omega)
       have XO := Lib.hid xo
       have OZ := Lib.hid (show wz.ownsRow w.heap.size 3 1 (.slice (some ⟨g, 0, none⟩) l.length ck) l.length (ws.map nv) from by rw [show ws.map nv = l.map iv by rw [nv_iv, ← HWS.out]]; exact oz)
       have XZ := Lib.hid xz
       have BZ := Lib.hid bz
       have hil2 : (i : Int) < (l.length : Int) := by omega
       have hjl2 : (j : Int) < (l.length : Int) := by omega
       obtain ⟨x1, z1, hx1, hf1, hz1', ho7⟩ := flip_at (by omega) hil (show j < 8 by omega) HLT.out OZ.out
       have H7 := Lib.hid ho7
       have d0 := xo.c0
       have d1 := xo.c1
       clear ho7 hwz xo oz xz bz
       try clear o0 o1 q0 q1
       clear a0 a1 a2
       go_wp2
       go_region
       all_goals
         obtain ⟨w7, hw7⟩ : ∃ w7, w7 = (wz.setCell ⟨g, i, none⟩ (.int .i64 z1)).drew := ⟨_, rfl⟩
         rw [← hw7]
         have ho7 : w7.ownsRow w.heap.size 3 1 (.slice (some ⟨g, 0, none⟩) l.length ck) l.length ((flipAt ws i j).map nv) := by rw [hw7]; exact H7.out.drew
         have xf7 : Box w7 (w1.heap.size) 27 (.int .i64 l.length) (.slice (some ⟨g, 0, none⟩) l.length ck) := by rw [hw7]; exact XO.out.other ⟨g, i, none⟩ _ (fun e => hgo.out e.symm)
         have xr7 : Box w7 (w.heap.size + 1) 27 (.int .i64 0) (.slice none 0 0) := by rw [hw7]; exact XZ.out.other ⟨g, i, none⟩ _ (by have := hgw.out; simp <;> omega)
         have B7 : Below w.heap.size w w7 := by rw [hw7]; exact (BZ.out.setCell (p := ⟨g, i, none⟩) (by have := hgw.out; show w.heap.size ≤ g; omega) _).drew
         obtain ⟨x2, z2, hx2, hf2, hz2', ho8⟩ := flip_at (by omega) hjl (show i < 8 by omega) (flipAt_lt ws i j (by omega) HLT.out) ho7
         have H8 := Lib.hid ho8
         have XF7 := Lib.hid xf7
         have XR7 := Lib.hid xr7
         have BB7 := Lib.hid B7
         clear hw7 d0 d1 hx1 hf1 ho7 ho8
         have d0 := xf7.c0
         have d1 := xf7.c1
         clear xf7 xr7 B7
         go_wp2
         go_region
         all_goals
           obtain ⟨w8, hw8⟩ : ∃ w8, w8 = (w7.setCell ⟨g, j, none⟩ (.int .i64 z2)).drew := ⟨_, rfl⟩
           rw [← hw8]
           have ho8 : w8.ownsRow w.heap.size 3 1 (.slice (some ⟨g, 0, none⟩) l.length ck) l.length ((flipAt (flipAt ws i j) j i).map nv) := by rw [hw8]; exact H8.out.drew
           have xf8 : Box w8 (w1.heap.size) 27 (.int .i64 l.length) (.slice (some ⟨g, 0, none⟩) l.length ck) := by rw [hw8]; exact XF7.out.other ⟨g, j, none⟩ _ (fun e => hgo.out e.symm)
           have xr8 : Box w8 (w.heap.size + 1) 27 (.int .i64 0) (.slice none 0 0) := by rw [hw8]; exact XR7.out.other ⟨g, j, none⟩ _ (by have := hgw.out; simp <;> omega)
           have B8 : Below w.heap.size w w8 := by rw [hw8]; exact (BB7.out.setCell (p := ⟨g, j, none⟩) (by have := hgw.out; show w.heap.size ≤ g; omega) _).drew
           have H9 := Lib.hid ho8
           have XR8 := Lib.hid xr8
           have BB8 := Lib.hid B8
           clear hw8 d0 d1 hx2 hf2 ho8
           have d0 := xf8.c0
           have d1 := xf8.c1
           have e0 := xr8.c0
           have e1 := xr8.c1
           have e2 := xr8.f0
           have e3 := xr8.f1
           clear xf8 xr8 B8
           go_wp2
           obtain ⟨ht1, ht2⟩ := flip_tail ws l HWS.out i j
           refine bodyPost_ret (v := .agg #[.int .i64 l.length, .slice (some ⟨g, 0, none⟩) l.length ck]) (Box.res1 rfl _ rfl ((XR8.out.set0 _).set1 _)) rfl ?_
           refine ⟨⟨g, ck, rfl, ?_⟩, ?_⟩
           · rw [← ht1]
             exact own_other (own_other H9.out ⟨w.heap.size + 1, 0, none⟩ _ (by have := hgw.out; simp <;> omega)) ⟨w.heap.size + 1, 1, none⟩ _ (by have := hgw.out; simp <;> omega)
           · exact (BB8.out.setCell (p := ⟨w.heap.size + 1, 0, none⟩) (Nat.le_succ _) _).setCell (p := ⟨w.heap.size + 1, 1, none⟩) (Nat.le_succ _) _)
end Go.Proofs.Yteiadhfjpohmdaa
