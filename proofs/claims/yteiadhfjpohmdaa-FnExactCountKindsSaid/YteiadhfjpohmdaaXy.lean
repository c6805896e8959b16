/-
  'CountKinds' of the program. No conditions.
-/
import Derived.Test.YteiadhfjpohmdaaXx
import Derived.Test.YteiadhfjpohmdaaXr
import Derived.Test.YteiadhfjpohmdaaXwk
import Derived.Test.Yteiadhfjpohmdaa3B
namespace Go.Proofs.Yteiadhfjpohmdaa
open Go.ChangeShapes Go.WideShapes Go.ChangeAt Go.RowKit Go.Shelf
attribute [local go_sem] Oper.semAt_some
set_option linter.unusedVariables false

/-- The marks of the ranges that are over: each block still bears an empty list. -/
structure Marks (B U : Nat) (ds : List Deferred) (W : World) : Prop where
  all : ∀ d ∈ ds, ∃ D, d = { target := .collected D, args := #[] } ∧ B ≤ D ∧ D < U ∧ W.heap[D]? = some (.deferred (some []))
  nd : ds.Pairwise (fun d e => ∀ D, d = { target := .collected D, args := #[] } → e ≠ { target := .collected D, args := #[] })
section
variable {B U : Nat} {ds : List Deferred} {W W2 : World}
theorem Marks.nil (B U : Nat) (W : World) : Marks B U [] W := ⟨by simp, List.Pairwise.nil⟩
theorem Marks.mono (h : Marks B U ds W) {U2 : Nat} (hU : U ≤ U2) : Marks B U2 ds W := ⟨fun d hd => by obtain ⟨D, h1, h2, h3, h4⟩ := h.all d hd; exact ⟨D, h1, h2, by omega, h4⟩, h.nd⟩
/-- A step that turns a block which is no such list. -/
theorem Marks.grown (h : Marks B U ds W) {row : Option Nat} (hg : W.grownBy W2 row) (hr : ∀ r, row = some r → W.heap[r]? ≠ some (.deferred (some []))) : Marks B U ds W2 := by
  refine ⟨fun d hd => ?_, h.nd⟩
  obtain ⟨D, h1, h2, h3, h4⟩ := h.all d hd
  exact ⟨D, h1, h2, h3, (hg.block D (Array.getElem?_eq_some_iff.1 h4).1 (fun e => hr D e.symm h4)).trans h4⟩
theorem Marks.below (h : Marks B U ds W) (hb : Below W.heap.size W W2) : Marks B U ds W2 := by
  refine ⟨fun d hd => ?_, h.nd⟩
  obtain ⟨D, h1, h2, h3, h4⟩ := h.all d hd
  exact ⟨D, h1, h2, h3, (hb.block D (Array.getElem?_eq_some_iff.1 h4).1).trans h4⟩
/-- What lies from U on may turn. -/
theorem Marks.beyond (h : Marks B U ds W) {row : Option Nat} (hg : W.grownBy W2 row) (hr : ∀ r, row = some r → U ≤ r) : Marks B U ds W2 := by
  refine ⟨fun d hd => ?_, h.nd⟩
  obtain ⟨D, h1, h2, h3, h4⟩ := h.all d hd
  exact ⟨D, h1, h2, h3, (hg.block D (Array.getElem?_eq_some_iff.1 h4).1 (fun e => by have := hr D e.symm; omega)).trans h4⟩
theorem Marks.cons (h : Marks B U ds W) {D : Nat} (hB : B ≤ D) (hU : U ≤ D) (hD : W.heap[D]? = some (.deferred (some []))) : Marks B (D + 1) ({ target := .collected D, args := #[] } :: ds) W := by
  refine ⟨fun d hd => ?_, List.Pairwise.cons (fun e he D2 h1 h2 => ?_) h.nd⟩
  · rcases List.mem_cons.1 hd with rfl | hd
    · exact ⟨D, rfl, hB, Nat.lt_succ_self D, hD⟩
    · obtain ⟨D2, h1, h2, h3, h4⟩ := h.all d hd
      exact ⟨D2, h1, h2, by omega, h4⟩
  · obtain ⟨D3, h3, _, h4, _⟩ := h.all e he
    rw [h3] at h2
    have e1 : D = D2 := by simpa using h1
    have e2 : D3 = D2 := by simpa using h2
    omega
end
/-- A function leaves through all its marks. -/
theorem leaves_marks {F : Fence} {n : Nat} {P : Program} {fn : Func} {tmps : Array Value} {R : Ending → World → Prop} {B U : Nat} {S : World → Prop}
    (hS : ∀ W D, B ≤ D → W.heap[D]? = some (.deferred (some [])) → S W → S (W.putObj D (.deferred none))) (hR : ∀ W, S W → LeavesInM F n P fn tmps R [] .returning W) :
    ∀ (ds : List Deferred) (W : World), Marks B U ds W → S W → LeavesInM F n P fn tmps R ds .returning W := by
  intro ds
  induction ds with
  | nil => exact fun W _ h => hR W h
  | cons d ds ih =>
    intro W hm hs
    obtain ⟨D, hd, hB, hU, hD⟩ := hm.all d (by simp)
    have hnd := List.pairwise_cons.1 hm.nd
    refine ⟨by simp, .inl ⟨D, W.putObj D (.deferred none), by rw [hd], run_takeDeferred hD, ih _ ⟨fun e he => ?_, hnd.2⟩ (hS W D hB hD hs)⟩⟩
    obtain ⟨D2, h1, h2, h3, h4⟩ := hm.all e (by simp [he])
    have hne : D2 ≠ D := by
      intro e2
      exact hnd.1 e he D hd (by rw [h1, e2])
    exact ⟨D2, h1, h2, h3, (World.putObj_heap_other hne).trans h4⟩

theorem wrapPow10 (p : Nat) (h : p ≤ 10) : wrap64 (2 ^ p) = ((2 ^ p : Nat) : Int) ∧ IntKind.i64.wrap (2 ^ p) = ((2 ^ p : Nat) : Int) := by
  have : ∀ k : Fin 11, wrap64 (2 ^ k.val) = ((2 ^ k.val : Nat) : Int) ∧ IntKind.i64.wrap (2 ^ k.val) = ((2 ^ k.val : Nat) : Int) := by decide +kernel
  exact this ⟨p, by omega⟩
theorem prN_le {n : Nat} (h : n ≤ 5) : Tmpm.prN n ≤ 10 := by
  have : ∀ m : Fin 6, Tmpm.prN m.val ≤ 10 := by decide +kernel
  exact this ⟨n, by omega⟩

/-- What both 'CountKinds' answer. -/
def ckR (n : Int) : Int := if decide (1 ≤ n) && decide (n ≤ 5) then ((Kd.tab.getD n.toNat 0 : Nat) : Int) else -1
theorem ckR_no {n : Int} (h : ¬ (1 ≤ n ∧ n ≤ 5)) : ckR n = -1 := by
  unfold ckR
  rw [if_neg (by simp only [Bool.and_eq_true, decide_eq_true_eq]; omega)]
theorem ckR_yes {n : Nat} (h1 : 1 ≤ n) (h5 : n ≤ 5) : ckR n = ((Kd.tab.getD n 0 : Nat) : Int) := by
  unfold ckR
  rw [if_pos (by simp; omega)]; rfl

theorem map_heapC {w : World} {P : Program} {k : TypeId} {R : Value → Option (DataW Value × List MemPlace)} {b n : Nat} {D : DataW Value} (h : w.ownsMap P k R b n D) : ∃ es cl, w.heap[b]? = some (.map es cl) := by
  obtain ⟨es, cl, hb, _⟩ := h
  exact ⟨es, cl, hb⟩
/-- What the map, its box and the marks are. -/
structure Ck (w : World) (n bm N U : Nat) (L : List (List Nat)) (ds : List Deferred) (W : World) : Prop where
  mp : ∃ D, W.ownsMap Try.prog 76 RB bm N D ∧ Vr n D L
  bx : Boxed W (bm + 1) 78 (.map (some bm))
  bl : Below w.heap.size w W
  ms : Marks w.heap.size U ds W
section
variable {w W W2 : World} {n bm N U : Nat} {L : List (List Nat)} {ds : List Deferred}
theorem Ck.below (h : Ck w n bm N U L ds W) (hb : Below W.heap.size W W2) : Ck w n bm N U L ds W2 := by
  obtain ⟨D, h1, h2⟩ := h.mp
  exact ⟨⟨D, h1.kept (grown_of_below hb) (by simp), h2⟩, (hb.block _ (Boxed.lt h.bx)).trans h.bx, h.bl.trans (hb.mono h.bl.size), h.ms.below hb⟩
theorem Ck.turn (h : Ck w n bm N U L ds W) {B : Nat} (hb : bm + 1 < B) (hw : w.heap.size ≤ B) (hU : U ≤ B) {row : Option Nat} (hg : W.grownBy W2 row) (hr : ∀ r, row = some r → B ≤ r) : Ck w n bm N U L ds W2 := by
  obtain ⟨D, h1, h2⟩ := h.mp
  refine ⟨⟨D, h1.kept hg (fun e => by have := hr bm e.symm; omega), h2⟩, Boxed.kept h.bx hg (fun e => by have := hr _ e.symm; omega), h.bl.grown hg h.bl.size (fun k e => by have := hr k e; omega), h.ms.beyond hg (fun r e => by have := hr r e; omega)⟩
theorem Ck.stored (h : Ck w n bm N U L ds W) (hN : N < maxLen) {t : List Nat} (ht : Kt n t) (hbm : w.heap.size ≤ bm) :
    ∃ W2, (Instr.mapUpdate 78 (.map (some bm)) (.agg (resV (n : Int) (t.map Int.ofNat))) (.bool true)).run Try.prog W = .ok () W2 ∧ Ck w n bm (N + 1) U (L ++ [t]) ds W2 ∧ W.grownBy W2 (some bm) ∧ (∃ es cl, W.heap[bm]? = some (.map es cl)) := by
  obtain ⟨D, h1, h2⟩ := h.mp
  obtain ⟨W2, D2, hrun, ho, hv, hg⟩ := store_res h1 h2 hN ht
  obtain ⟨es, cl, hm⟩ := map_heapC h1
  refine ⟨W2, hrun, ⟨⟨D2, ho, hv⟩, Boxed.kept h.bx hg (by simp), h.bl.grown hg h.bl.size (fun k e => by cases e; exact hbm), h.ms.grown hg (fun r e h => by cases e; rw [hm] at h; cases h)⟩, hg, es, cl, hm⟩
theorem Ck.look (h : Ck w n bm N U L ds W) {t : List Nat} (ht : Kt n t) : (Instr.lookup 78 (.map (some bm)) (.agg (resV (n : Int) (t.map Int.ofNat))) false).run Try.prog W = .ok (.bool (Kd.inN t L)) W := by
  obtain ⟨D, h1, h2⟩ := h.mp
  exact look_res h1 h2 ht
end

theorem KeepR.grown2 {R : Nat → Obj → Prop} {A C : World} {row : Option Nat} (hg : A.grownBy C row) (hr : ∀ r, row = some r → ∃ o : Obj, A.heap[r]? = some o ∧ o.isCells = false) : KeepR R A C :=
  ⟨hg.size, fun k o hk hc _ => (hg.block k (Array.getElem?_eq_some_iff.1 hk).1 (fun e => by obtain ⟨o2, h2, h3⟩ := hr k e.symm; rw [hk] at h2; cases h2; rw [hc] at h3; cases h3)).trans hk⟩
theorem tourP_kt {n c : Nat} (h5 : n ≤ 5) : Kt n (tourP n c) := ⟨by omega, by unfold tourP; rw [outP_len]; simp, outP_lt n (by omega) _ (fun y hy => by rw [(List.mem_replicate.1 hy).2]; decide)⟩
theorem rN_kt {n : Nat} {t o : List Nat} (h8 : n ≤ 8) (ht : t.length = n) (ho : Rn.isO n o = true) : Kt n (Kd.rN t o) := by
  refine ⟨h8, ?_, ?_⟩
  · unfold Kd.rN; rw [renF_len, List.length_map, ht]
  · unfold Kd.rN
    have hl : (t.map Int.ofNat).length = n := by rw [List.length_map, ht]
    refine renF_lt (by omega) ?_ _
    rw [hl]; exact Rn.isO_perm ho

set_option maxRecDepth 100000 in
set_option maxHeartbeats 4000000 in
theorem implCountKinds (n : Int) (w : World) :
    Calls Try.prog 37 #[.int .i64 n] w fun e w' => e = .returned (.int .i64 (ckR n)) ∧ Below w.heap.size w w' := by
  cases hz : isz n
  · have HE : Hid (ckR n = -1) := ckR_no (by intro h; simp [isz] at hz; omega)
    have HS := Lib.hid hz
    clear hz
    go_enter Try.func37, Try.ntmps37
    go_wp2_with fail
    refine (isSize_any n _).mono ?_
    rintro e w' ⟨rfl, rfl⟩
    rw [HS.out]
    go_wp2
    go_ret
    exact ⟨by rw [HE.out]; rfl, Below.refl _ _⟩
  have HS := Lib.hid hz
  have hz2 : 1 ≤ n ∧ n ≤ 8 := by simpa [isz] using hz
  obtain ⟨m, rfl⟩ : ∃ m : Nat, n = m := ⟨n.toNat, by omega⟩
  by_cases h5 : (m : Int) ≤ 5
  case neg =>
    have HE : Hid (ckR m = -1) := ckR_no (by intro h; omega)
    have h5' : (5 : Int) < (m : Int) := by omega
    clear hz hz2 h5
    go_enter Try.func37, Try.ntmps37
    go_wp2_with fail
    refine (isSize_any _ _).mono ?_
    rintro e w' ⟨rfl, rfl⟩
    rw [HS.out]
    go_wp2
    go_ret
    exact ⟨by rw [HE.out]; rfl, Below.refl _ _⟩
  have hm5 : m ≤ 5 := by omega
  have hm1 : 1 ≤ m := by omega
  have h5' : ¬ (5 : Int) < (m : Int) := by omega
  obtain ⟨P, hP⟩ : ∃ P, P = 2 ^ Tmpm.prN m := ⟨_, rfl⟩
  have hP10 : P ≤ 1024 := by
    rw [hP]
    have : ∀ k : Fin 6, 2 ^ Tmpm.prN k.val ≤ 1024 := by decide +kernel
    exact this ⟨m, by omega⟩
  have HE : Hid (ckR m = ((Kd.S m P).1 : Int)) := by show _ = _; rw [ckR_yes hm1 hm5, hP, Kd.S_all hm1 hm5]
  have hw := (wrapPow10 _ (prN_le hm5)).1
  rw [← hP] at hw
  have HOKC : Hid (∀ c, c < P → Ok (m : Int) ((tourP m c).map Int.ofNat)) := fun c hc => tourP_ok hm1 hm5 (by rw [← hP]; exact hc)
  have HPR : Hid (∀ W, Calls Try.prog 98 #[.int .i64 m] W fun e w' => e = .returned (.int .i64 (Tmpm.prN m)) ∧ W = w') := fun W => pairsOf_any m W (by omega)
  obtain ⟨pn, hpn⟩ : ∃ pn, pn = Tmpm.prN m := ⟨_, rfl⟩
  have hpn10 : pn ≤ 10 := by rw [hpn]; exact prN_le hm5
  rw [← hpn] at HPR hw
  have hw2 : IntKind.i64.wrap (2 ^ pn) = (P : Int) := hw ▸ (by have := (wrapPow10 pn hpn10); rw [this.1, this.2])
  have HT : Hid (∀ c W, c < P → Calls Try.prog 99 #[.int .i64 (c : Int), .int .i64 (m : Int)] W fun e w' => (∃ g, e = .returned (.agg #[.int .i64 (m : Int), .slice (some ⟨g, 0, none⟩) m m]) ∧ IntRow w' (some ⟨g, 0, none⟩) ((tourP m c).map Int.ofNat)) ∧ Below W.heap.size W w') := fun c W hc => tourOf_any m c W (by omega) (by omega)
  obtain ⟨W1, hW1⟩ : ∃ W1, W1 = (w.alloc (.map #[] 0)).alloc (.cells #[.map (some w.heap.size)] 78) := ⟨_, rfl⟩
  have HST : Hid (Ck w m w.heap.size 0 W1.heap.size [] [] W1) := by
    have b1 : Below w.heap.size w W1 := by rw [hW1]; exact ((Below.refl _ w).alloc (Nat.le_refl _) _).alloc (by simp) _
    refine ⟨⟨.map [], ?_, Vr.empty m⟩, ?_, b1, Marks.nil _ _ _⟩
    · rw [hW1]; exact (World.ownsMap_made w Try.prog 76 RB).alloc _
    · rw [hW1, show w.heap.size + 1 = (w.alloc (.map #[] 0)).heap.size by simp]; exact Boxed.new _ _ _
  have HW1 := Lib.hid hW1
  have hmm := @run_makeMap Try.prog
  have h5d : decide ((5 : Int) < (m : Int)) = false := decide_eq_false h5'
  clear hz hz2 hP hpn h5 hW1
  refine (callsIn_wide (n := 8)).1 ?_
  refine callsIn_of_wp_marks Try.func37 rfl trivial ?_ rfl
  simp only [Try.ntmps37, List.size_toArray, List.length_cons, List.length_nil, Nat.reduceAdd, Nat.reduceSub, Array.replicate_succ, Array.replicate_zero, List.push_toArray, List.append_toArray, List.nil_append, List.cons_append]
  gi_wp2_with fail
  refine ⟨trivial, ?_⟩
  refine (callsIn_wide.2 (isSize_any _ _)).mono ?_
  rintro e w1 ⟨rfl, hw1⟩
  subst hw1
  rw [HS.out]
  gi_wp2_with fail
  refine ⟨trivial, ?_⟩
  rw [← HW1.out]
  refine (callsIn_wide.2 (HPR.out W1)).mono ?_
  rintro e w2 ⟨rfl, hw3⟩
  subst hw3
  gi_wp2
  clear hmm
  refine wpIn_loop (fun a2 W => ∃ (c q N U : Nat) (ds : List Deferred) (v5 v6 v7 v20 v21 v22 v23 v24 v25 v26 v27 v28 v29 v30 v31 v32 v33 v34 v35 v36 v37 v38 : Value), c ≤ P ∧ Hid (q = (Kd.S m c).1) ∧ N ≤ 720 * c ∧ Ck w m w.heap.size N U (Kd.S m c).2 ds W ∧ U ≤ W.heap.size ∧ a2 = { tmps := #[.int .i64 (m : Int), undef, .int .i64 0, .int .i64 (q : Int), .pointer (some ⟨w.heap.size + 1, 0, none⟩), v5, v6, v7, .int .i64 (m : Int), .bool true, .bool false, .bool false, .int .i64 (m : Int), .bool false, .bool false, .map (some w.heap.size), .int .i64 (m : Int), .int .i64 (pn : Int), .int .i64 (P : Int), .int .i64 (c : Int), v20, v21, v22, v23, v24, v25, v26, v27, v28, v29, v30, v31, v32, v33, v34, v35, v36, v37, v38], defers := ds }) (fun a2 _ => P - (intOf (a2.tmps.getD 19 undef)).toNat) ⟨0, 0, 0, W1.heap.size, [], undef, undef, undef, undef, undef, undef, undef, undef, undef, undef, undef, undef, undef, undef, undef, undef, undef, undef, undef, undef, undef, undef, Nat.zero_le _, rfl, Nat.le_refl _, HST.out, Nat.le_refl _, rfl⟩ ?_
  rintro a2 W ⟨c, q, N, U, ds, v5, v6, v7, v20, v21, v22, v23, v24, v25, v26, v27, v28, v29, v30, v31, v32, v33, v34, v35, v36, v37, v38, hc, hq, hN, hck, hU, rfl⟩
  clear HST
  by_cases hlt : c < P
  · have hcb : (c : Int) < (P : Int) := by omega
    obtain ⟨L, hL⟩ : ∃ L, L = (Kd.S m c).2 := ⟨_, rfl⟩
    obtain ⟨t, ht⟩ : ∃ t, t = tourP m c := ⟨_, rfl⟩
    have hkt : Kt m t := by rw [ht]; exact tourP_kt hm5
    have hqc : q ≤ c := by rw [hq.out]; exact Kd.S_le m c
    have HOKt := HOKC.out c hlt
    have HTc := Lib.hid (HT.out c W hlt)
    have hsn := Kd.S_snoc m c
    rw [← ht] at HOKt HTc hsn
    rw [← hL] at hck hsn
    have hml : m = (t.map Int.ofNat).length := by rw [List.length_map, hkt.2.1]
    have HML := Lib.hid hml
    have HKT := Lib.hid hkt
    have HOK := Lib.hid HOKt
    have HSN := Lib.hid hsn
    have HCK := Lib.hid hck
    have bmlt : w.heap.size + 1 < W.heap.size := Boxed.lt hck.bx
    have hHL := Lib.hid hL
    clear ht hkt HOKt hsn hml hck hL
    gi_wp2_with fail
    refine ⟨trivial, ?_⟩
    refine (callsIn_wide.2 HTc.out).mono ?_
    rintro e w5 ⟨⟨g, rfl, hr5⟩, hb5⟩
    obtain ⟨W6, hW6⟩ : ∃ W6, W6 = w5.alloc (.cells #[.int .i64 (m : Int), .slice (some ⟨g, 0, none⟩) m m] 27) := ⟨_, rfl⟩
    have b6 : Below w5.heap.size w5 W6 := by rw [hW6]; exact (Below.refl _ _).alloc (Nat.le_refl _) _
    have x6 : Box W6 w5.heap.size 27 (.int .i64 (m : Int)) (.slice (some ⟨g, 0, none⟩) m m) := by rw [hW6]; exact Box.new _ _ _ _
    have R6 := Lib.hid (hr5.below b6 (Nat.le_refl _))
    have CK6 := Lib.hid ((HCK.out.below hb5).below b6)
    have hz5 := hb5.size
    have hz6 := b6.size
    have HW6 := Lib.hid hW6
    have X6 := Lib.hid x6
    have HU6 : Hid (U ≤ W6.heap.size) := by show _ ≤ _; omega
    have HB6 : Hid (w.heap.size + 1 < W6.heap.size) := by show _ < _; omega
    have c0 := x6.c0
    have c1 := x6.c1
    have d0 := CK6.out.bx.cell
    rw [HW6.out] at c0 c1 d0
    obtain ⟨V1, hV1⟩ : ∃ V1, V1 = resV (m : Int) (t.map Int.ofNat) := ⟨_, rfl⟩
    have HV1 := Lib.hid hV1
    have hmx : Try.prog.follows .mixedOrders = true := by kernel_rfl
    have HA : Hid (Calls Try.prog 96 #[.agg #[.int .i64 (m : Int), .slice (some ⟨g, 0, none⟩) m m]] W6.drew fun e w' => e = .returned (.agg V1) ∧ Below W6.heap.size W6 w') := by
      have bd : Below W6.heap.size W6 W6.drew := (Below.refl _ W6).drew
      rw [hV1]
      exact (results_at HML.out.symm (by omega) W6.drew (R6.out.below bd (Nat.le_refl _))).mono fun e w' ⟨he, hb⟩ => ⟨he, bd.trans hb⟩
    clear hW6 hr5 hb5 b6 x6 hV1 hz5 hz6 HTc HCK
    cases hin : Kd.inN t L
    · have HIN := Lib.hid hin
      clear hin
      gi_wp2
      rw [← HW6.out]
      rw [← HW6.out] at c0 c1 d0
      refine Code.wpIn_mono (Q := fun e a' w' => ∃ w7, Below W6.heap.size W6 w7 ∧ e = .normal ∧ a' = { tmps := #[.int .i64 (m : Int), undef, .int .i64 0, .int .i64 (q : Int), .pointer (some ⟨w.heap.size + 1, 0, none⟩), .int .i64 (c : Int), .pointer (some ⟨w5.heap.size, 0, none⟩), v7, .int .i64 (m : Int), .bool true, .bool false, .bool false, .int .i64 (m : Int), .bool false, .bool false, .map (some w.heap.size), .int .i64 (m : Int), .int .i64 (pn : Int), .int .i64 (P : Int), .int .i64 (c : Int), .bool true, .int .i64 (c : Int), .int .i64 (c : Int), .int .i64 (m : Int), .agg #[.int .i64 (m : Int), .slice (some ⟨g, 0, none⟩) m m], .map (some w.heap.size), .agg #[.int .i64 (m : Int), .slice (some ⟨g, 0, none⟩) m m], .agg V1, .bool false, v29, v30, v31, v32, v33, v34, v35, v36, v37, v38], defers := ds } ∧ w' = w7) ?_ ?reg
      case reg =>
        gi_region_with_o (refine ⟨trivial, ?_⟩; refine (callsIn_wide.2 HA.out).mono ?_; rintro e w7 ⟨rfl, hb7⟩; have CK7 := Lib.hid (CK6.out.below hb7); have B7 := Lib.hid hb7; have e0 := CK7.out.bx.cell; have e1 := (X6.out.below hb7 X6.out.lt).c0; have e2 := (X6.out.below hb7 X6.out.lt).c1; have hlk := CK7.out.look HKT.out; rw [← HV1.out, HIN.out] at hlk; clear hb7)
        all_goals exact ⟨w7, B7.out, rfl, rfl, rfl⟩
      rintro e a' w' ⟨w7, hb7, rfl, rfl, rfl⟩
      clear c0 c1 d0 HA HV1
      have CK7 := Lib.hid (CK6.out.below hb7)
      have X7 := Lib.hid (X6.out.below hb7 X6.out.lt)
      have R7 := Lib.hid (R6.out.below hb7 (Nat.le_refl _))
      have HU7 : Hid (U ≤ w'.heap.size) := Nat.le_trans HU6.out hb7.size
      have HB7 : Hid (w.heap.size + 1 < w'.heap.size) := Nat.lt_of_lt_of_le HB6.out hb7.size
      obtain ⟨W8, hW8⟩ : ∃ W8, W8 = w'.alloc (.cells #[.int .i64 (m : Int), .slice (some ⟨g, 0, none⟩) m m] 27) := ⟨_, rfl⟩
      have b8 : Below w'.heap.size w' W8 := by rw [hW8]; exact (Below.refl _ _).alloc (Nat.le_refl _) _
      have X8 : Hid (Box W8 w'.heap.size 27 (.int .i64 (m : Int)) (.slice (some ⟨g, 0, none⟩) m m)) := by show Box _ _ _ _ _; rw [hW8]; exact Box.new _ _ _ _
      have CK8 := Lib.hid (CK7.out.below b8)
      have R8 := Lib.hid (R7.out.below b8 (Nat.le_refl _))
      have HU8 : Hid (U ≤ W8.heap.size) := Nat.le_trans HU7.out b8.size
      have HB8 : Hid (w.heap.size + 1 < W8.heap.size) := Nat.lt_of_lt_of_le HB7.out b8.size
      have hmb : m ≤ 6 := by omega
      have hq0 : q ≤ 1024 := by omega
      have HN : Hid (N ≤ 720 * c) := hN
      have HC : Hid (c ≤ 1024) := by show _ ≤ _; omega
      have HW8 := Lib.hid hW8
      have c0 := X7.out.c0
      have c1 := X7.out.c1
      clear hW8 b8 hb7
      gi_wp2_with fail
      refine ⟨trivial, ?_⟩
      refine (callsIn_wide.2 (renamings_any (m : Int) (some ⟨g, 0, none⟩) m m w')).mono ?_
      rintro e w8 ⟨rfl, hw8⟩
      rw [← HW8.out] at hw8
      have hw9 := hw8.symm
      clear hw8
      subst hw9
      clear c0 c1
      gi_wp2
      refine rangeMH (F := Fence.wide) rfl (by omega) (gf := 137) (lb := #[.pointer (some ⟨w'.heap.size, 0, none⟩)]) rfl trivial (enters_of Try.func137 (by kernel_rfl) rfl)
        (renam_stops w'.heap.size (W8.heap.size + 2) m (fun _ _ _ => True) (some ⟨g, 0, none⟩) m (t.map Int.ofNat) HML.out HOK.out hmb W8 X8.out R8.out (fun _ _ => trivial) (fun _ _ _ _ => trivial) (fun _ _ _ _ _ => trivial))
        (fun h k => h.trans k) (fun M W l o o2 h hc => KeepR.put W l o o2 h hc) (fun M pre x W l o o2 _ ho hc h => h.put l o o2 ho hc) (Below.refl _ _) (fun _ => rfl)
        (fun M pre W' => Ck w m w.heap.size (N + pre.length) U (L ++ pre.map fun x => Kd.rN t x.1) ds W')
        (fun M c _ W' => False)
        (fun M s A B row hs hg hr => hs.turn (B := W8.heap.size) HB8.out (by have := HB8.out; omega) HU8.out hg (fun r e => (hr r e).1))
        (fun M c s A B row hs hg hr => hs)
        (fun M V hb h1 h2 => by have := CK8.out.below hb; simpa using this)
        (fun x a2 W => ∃ p, Box W p 27 (.int .i64 (m : Int)) (.slice (some ⟨x.2.1, 0, none⟩) m x.2.2) ∧ a2 = { tmps := #[.int .i64 (m : Int), undef, .int .i64 0, .int .i64 ((q : Int) + 1), .pointer (some ⟨w.heap.size + 1, 0, none⟩), .int .i64 (c : Int), .pointer (some ⟨w5.heap.size, 0, none⟩), .pointer (some ⟨p, 0, none⟩), .int .i64 (m : Int), .bool true, .bool false, .bool false, .int .i64 (m : Int), .bool false, .bool false, .map (some w.heap.size), .int .i64 (m : Int), .int .i64 (pn : Int), .int .i64 (P : Int), .int .i64 (c : Int), .bool true, .int .i64 (c : Int), .int .i64 (c : Int), .int .i64 (m : Int), .agg #[.int .i64 (m : Int), .slice (some ⟨g, 0, none⟩) m m], .map (some w.heap.size), .agg #[.int .i64 (m : Int), .slice (some ⟨g, 0, none⟩) m m], .agg V1, .bool false, .int .i64 (q : Int), .int .i64 ((q : Int) + 1), .agg #[.int .i64 (m : Int), .slice (some ⟨g, 0, none⟩) m m], .func (.func 137) #[] #[.pointer (some ⟨w'.heap.size, 0, none⟩)], .agg #[.int .i64 (m : Int), .slice (some ⟨x.2.1, 0, none⟩) m x.2.2], v34, v35, v36, v37, v38], defers := [] })
        (fun x a2 s A B row hs hg hr => by obtain ⟨p, h1, h3⟩ := hs; exact ⟨p, h1.grown hg (fun e => by
          obtain ⟨_, o, ho, hc⟩ := hr p e
          have hh : A.heap[p]? = some (.cells #[_, _] 27 (0, 0)) := h1
          rw [hh] at ho; cases ho; cases hc), h3⟩) ?assign ?body ?done ?stop
      case assign =>
        intro lg M pre x W K hI hy hK
        unfold encTn
        have hb : Below W.heap.size W (W.alloc (.cells #[.int .i64 (m : Int), .slice (some ⟨x.2.1, 0, none⟩) m x.2.2] 27)) := (Below.refl _ _).alloc (Nat.le_refl _) _
        have HH := Lib.hid (hK { tmps := #[.int .i64 (m : Int), undef, .int .i64 0, .int .i64 ((q : Int) + 1), .pointer (some ⟨w.heap.size + 1, 0, none⟩), .int .i64 (c : Int), .pointer (some ⟨w5.heap.size, 0, none⟩), .pointer (some ⟨W.heap.size, 0, none⟩), .int .i64 (m : Int), .bool true, .bool false, .bool false, .int .i64 (m : Int), .bool false, .bool false, .map (some w.heap.size), .int .i64 (m : Int), .int .i64 (pn : Int), .int .i64 (P : Int), .int .i64 (c : Int), .bool true, .int .i64 (c : Int), .int .i64 (c : Int), .int .i64 (m : Int), .agg #[.int .i64 (m : Int), .slice (some ⟨g, 0, none⟩) m m], .map (some w.heap.size), .agg #[.int .i64 (m : Int), .slice (some ⟨g, 0, none⟩) m m], .agg V1, .bool false, .int .i64 (q : Int), .int .i64 ((q : Int) + 1), .agg #[.int .i64 (m : Int), .slice (some ⟨g, 0, none⟩) m m], .func (.func 137) #[] #[.pointer (some ⟨w'.heap.size, 0, none⟩)], .agg #[.int .i64 (m : Int), .slice (some ⟨x.2.1, 0, none⟩) m x.2.2], v34, v35, v36, v37, v38], defers := [] } (W.alloc (.cells #[.int .i64 (m : Int), .slice (some ⟨x.2.1, 0, none⟩) m x.2.2] 27))
          (kf_below hb) (KeepR.below hb) (hI.below hb) ⟨hy.next, own_below hy.own hb, hy.after, hy.low⟩ ⟨W.heap.size, Box.new _ _ _ _, rfl⟩)
        clear hK hb hy hI
        gi_wp2
        exact HH.out
      case body =>
        rintro lg M pre ⟨o, gg, cc⟩ a2 W hI hy ⟨p, hp, rfl⟩
        have hso : Rn.isO m o = true := by
          obtain ⟨rest, hr⟩ := hy.next
          exact Rn.allO_is hmb (by rw [hr]; simp)
        have hpl : pre.length ≤ 720 := by
          obtain ⟨rest, hr⟩ := hy.next
          have h2 := congrArg List.length hr
          rw [Rn.allO_len hmb] at h2
          have h3 := Rn.fct_le hmb
          simp only [List.length_append, List.length_cons, List.length_map] at h2
          omega
        have HKR := Lib.hid (rN_kt (n := m) (by omega) HKT.out.2.1 hso)
        have hrl : (rnL (t.map Int.ofNat) o).length = m := (rnL_len _ o).trans HML.out.symm
        have hr1 : IntRow W (some ⟨gg, 0, none⟩) (rnL (t.map Int.ofNat) o) := own_intR hrl hy.own
        have bd : Below W.heap.size W W.drew := (Below.refl _ W).drew
        obtain ⟨V2, hV2⟩ : ∃ V2, V2 = resV (m : Int) (rnL (t.map Int.ofNat) o) := ⟨_, rfl⟩
        have HA : Hid (Calls Try.prog 96 #[.agg #[.int .i64 (m : Int), .slice (some ⟨gg, 0, none⟩) m cc]] W.drew fun e w' => e = .returned (.agg V2) ∧ Below W.heap.size W w') := by
          rw [hV2]
          exact (results_at hrl (by omega) W.drew (hr1.below bd (Nat.le_refl _))).mono fun e w' ⟨he, hb⟩ => ⟨he, bd.trans hb⟩
        rw [Kd.rN_eq] at hV2
        have HV2 := Lib.hid hV2
        have HNM : Hid (N + pre.length < maxLen) := by show _ < _; have h1 := HN.out; have h2 := HC.out; unfold maxLen; omega
        have HI := Lib.hid hI
        have c0 := hp.c0
        have c1 := hp.c1
        have d0 := hI.bx.cell
        have XP := Lib.hid hp
        clear hI hy hp hso hpl hrl hr1 bd hV2
        gi_wp2
        gi_region_with_o (refine ⟨trivial, ?_⟩; refine (CallsIn.inRound lg (callsIn_wide.2 HA.out)).mono ?_; rintro e wa ⟨rfl, hba⟩; have BA := Lib.hid hba; have CKA := Lib.hid (HI.out.below hba); have e0 := CKA.out.bx.cell; have e1 := (XP.out.below hba XP.out.lt).c0; have e2 := (XP.out.below hba XP.out.lt).c1; obtain ⟨wE, hup, hCE, hgE, hmE⟩ := CKA.out.stored HNM.out HKR.out (Nat.le_refl _); rw [← HV2.out] at hup; have HCE := Lib.hid hCE; have HGE := Lib.hid hgE; have HME := Lib.hid hmE; clear hba hCE hgE hmE)
        all_goals
          clear c0 c1 d0 e0 e1 e2 hup
          gi_wp2
          refine ⟨(kf_below BA.out).trans (KeepsFrom.of_grownBy HGE.out (fun j e => by cases e; have := HB8.out; omega)), (KeepR.below BA.out).trans (KeepR.grown2 HGE.out ?_), ?_⟩
          · intro r e
            cases e
            obtain ⟨es, cl, hm⟩ := HME.out
            exact ⟨_, hm, rfl⟩
          · have h := HCE.out
            show Ck _ _ _ (N + (pre ++ [((o, gg, cc) : Tn)]).length) _ (L ++ (pre ++ [((o, gg, cc) : Tn)]).map fun x => Kd.rN t x.1) _ _
            rw [List.length_append, List.map_append, ← List.append_assoc]
            exact h
      case done =>
        rintro D M ys W' hD hS hI hK
        have hys : ys.length ≤ 720 := by
          have h2 := congrArg List.length hS
          rw [Rn.allO_len hmb, List.length_map] at h2
          have h3 := Rn.fct_le hmb
          omega
        have hSn : Kd.S m (c + 1) = (q + 1, L ++ ys.map fun x => Kd.rN t x.1) := by
          rw [HSN.out, HIN.out, ← hS, List.map_map, ← hq.out]; rfl
        have hU8 := HU8.out
        have HDL := (Array.getElem?_eq_some_iff.1 hK).1
        have HI2 : Hid (Ck w m w.heap.size (N + ys.length) (D + 1) (L ++ ys.map fun x => Kd.rN t x.1) ({ target := .collected D, args := #[] } :: ds) W') := ⟨hI.mp, hI.bx, hI.bl, hI.ms.cons (by have := HB8.out; omega) (by omega) hK⟩
        have HSn := Lib.hid hSn
        have HY := Lib.hid hys
        have HDL2 := Lib.hid HDL
        clear hI hK hS hys hSn HDL hU8
        gi_wp2
        refine ⟨⟨c + 1, q + 1, N + ys.length, D + 1, { target := .collected D, args := #[] } :: ds, _, _, _, _, _, _, _, _, _, _, _, _, _, _, _, _, _, _, _, _, _, _, hlt, ?_, ?_, ?_, ?_, rfl⟩, ?_⟩
        · show _ = _; rw [HSn.out]
        · have h1 := HN.out; have h2 := HY.out; omega
        · rw [HSn.out]; exact HI2.out
        · exact HDL2.out
        · simp [intOf]; omega
      case stop =>
        rintro D M c pre W' _ _ h _
        exact h.elim
    · have HIN := Lib.hid hin
      clear hin
      gi_wp2
      rw [← HW6.out]
      rw [← HW6.out] at c0 c1 d0
      gi_region_with_o (refine ⟨trivial, ?_⟩; refine (callsIn_wide.2 HA.out).mono ?_; rintro e w7 ⟨rfl, hb7⟩; have CK7 := Lib.hid (CK6.out.below hb7); have B7 := Lib.hid hb7; have e0 := CK7.out.bx.cell; have e1 := (X6.out.below hb7 X6.out.lt).c0; have e2 := (X6.out.below hb7 X6.out.lt).c1; have hlk := CK7.out.look HKT.out; rw [← HV1.out, HIN.out] at hlk; clear hb7)
      all_goals
        have HS1 : Hid (Kd.S m (c + 1) = Kd.S m c) := by show _ = _; rw [HSN.out, HIN.out]; rfl
        clear c0 c1 d0 e0 e1 e2 hlk
        gi_wp2
        refine ⟨⟨c + 1, q, N, U, ds, _, _, _, _, _, _, _, _, _, _, _, _, _, _, _, _, _, _, _, _, _, _, hlt, ?_, by omega, ?_, ?_, rfl⟩, ?_⟩
        · show _ = _; rw [HS1.out]; exact hq.out
        · rw [HS1.out, ← hHL.out]; exact CK7.out
        · exact Nat.le_trans HU6.out B7.out.size
        · simp [intOf]; omega
  · obtain rfl : c = P := by omega
    have HCK := Lib.hid hck
    have HQ := Lib.hid hq
    clear hck hq
    gi_wp2
    refine leaves_marks (B := w.heap.size) (U := U) (S := fun W3 => Below w.heap.size w W3) ?_ ?_ ds W HCK.out.ms HCK.out.bl
    · rintro W3 D hB hD h1
      exact h1.grown (grownBy_putObj' W3 D _) h1.size (fun j e => by cases e; exact hB)
    · intro W3 h1
      exact ⟨_, results_tmp rfl _ _ _, by rw [HE.out, ← HQ.out.out]; rfl, h1⟩
end Go.Proofs.Yteiadhfjpohmdaa
