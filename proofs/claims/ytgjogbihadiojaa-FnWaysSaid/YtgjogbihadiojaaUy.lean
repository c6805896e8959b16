/-
  'FnWays': every tour has a way through all players, and their number is odd: true for every list of bytes from which the law draws its inputs. No conditions.
-/
import Derived.Test.YtgjogbihadiojaaUx
import Derived.Deep.RegionHeld3

import Derived.Deep.RegionLaw
import Derived.Deep.AppendLies
namespace Go.Proofs.Ytgjogbihadiojaa
open Go.ChangeShapes Go.WideShapes Go.ChangeAt Go.RowKit
set_option linter.unusedVariables false

/-- What the law holds of the tour and of its two ways. -/
structure Ka (w W : World) (cd : Option Addr) (len m : Nat) (l : List Int) (pt : Nat) (at' : Option Addr) (ct : Nat) : Prop where
  hb : Below w.heap.size w W
  ro : Row w.heap.size W cd len
  bx : Box W pt 25 (.int .i64 (m : Int)) (.slice at' m ct)
  rd : IntRow W at' l
theorem Ka.kept {w W W' : World} {cd : Option Addr} {len m : Nat} {l : List Int} {pt : Nat} {at' : Option Addr} {ct : Nat} (h : Ka w W cd len m l pt at' ct) (hb : Below W.heap.size W W') : Ka w W' cd len m l pt at' ct :=
  ⟨h.hb.trans (hb.mono h.hb.size), h.ro.below (hb.mono h.hb.size), h.bx.below hb h.bx.lt, h.rd.below hb (Nat.le_refl _)⟩
structure Kb (w W : World) (cd : Option Addr) (len m : Nat) (l : List Int) (pt : Nat) (at' : Option Addr) (ct gp gf : Nat) (PL FL : List Int) : Prop where
  k : Ka w W cd len m l pt at' ct
  p : IntRow W (some ⟨gp, 0, none⟩) PL
  f : IntRow W (some ⟨gf, 0, none⟩) FL
theorem Kb.kept {w W W' : World} {cd : Option Addr} {len m : Nat} {l : List Int} {pt : Nat} {at' : Option Addr} {ct gp gf : Nat} {PL FL : List Int} (h : Kb w W cd len m l pt at' ct gp gf PL FL) (hb : Below W.heap.size W W') : Kb w W' cd len m l pt at' ct gp gf PL FL :=
  ⟨h.k.kept hb, h.p.below hb (Nat.le_refl _), h.f.below hb (Nat.le_refl _)⟩
/-- A variable that holds a tour. -/
structure Tw (W : World) (p m : Nat) (l : List Int) (a : Option Addr) (c : Nat) : Prop where
  bx : Box W p 25 (.int .i64 (m : Int)) (.slice a m c)
  rd : IntRow W a l
theorem Tw.kept {W W' : World} {p m c : Nat} {l : List Int} {a : Option Addr} (h : Tw W p m l a c) (hb : Below W.heap.size W W') : Tw W' p m l a c := ⟨h.bx.below hb h.bx.lt, h.rd.below hb (Nat.le_refl _)⟩
theorem Tw.new {w W : World} {m c : Nat} {l : List Int} {a : Option Addr} (hr : IntRow w a l) (hW : W = w.alloc (.cells #[.int .i64 (m : Int), .slice a m c] 25)) : Tw W w.heap.size m l a c := by
  subst hW; exact ⟨Box.new _ _ _ _, hr.below (Below.one _ _) (Nat.le_refl _)⟩
theorem new_below {w W : World} {o : Obj} (hW : W = w.alloc o) : Below w.heap.size w W := by subst hW; exact Below.one _ _
structure Kc (w W : World) (cd : Option Addr) (len m : Nat) (l ns : List Int) (pt : Nat) (at' : Option Addr) (ct gp gf : Nat) (PL FL : List Int) (pu : Nat) (au : Option Addr) (cu pr : Nat) (ar : Option Addr) (cr : Nat) : Prop where
  b : Kb w W cd len m l pt at' ct gp gf PL FL
  u : Tw W pu m (turnL l) au cu
  r : Tw W pr m (renL l ns) ar cr
theorem Kc.kept {w W W' : World} {cd : Option Addr} {len m : Nat} {l ns : List Int} {pt : Nat} {at' : Option Addr} {ct gp gf : Nat} {PL FL : List Int} {pu : Nat} {au : Option Addr} {cu pr : Nat} {ar : Option Addr} {cr : Nat} (h : Kc w W cd len m l ns pt at' ct gp gf PL FL pu au cu pr ar cr) (hb : Below W.heap.size W W') : Kc w W' cd len m l ns pt at' ct gp gf PL FL pu au cu pr ar cr :=
  ⟨h.b.kept hb, h.u.kept hb, h.r.kept hb⟩
/-- What lies before the renamed tour is made. -/
structure Kd (w W : World) (cd : Option Addr) (len m : Nat) (l : List Int) (pt : Nat) (at' : Option Addr) (ct gp gf : Nat) (PL FL : List Int) (pu : Nat) (au : Option Addr) (cu : Nat) : Prop where
  b : Kb w W cd len m l pt at' ct gp gf PL FL
  u : Tw W pu m (turnL l) au cu
theorem Kd.kept {w W W' : World} {cd : Option Addr} {len m : Nat} {l : List Int} {pt : Nat} {at' : Option Addr} {ct gp gf : Nat} {PL FL : List Int} {pu : Nat} {au : Option Addr} {cu : Nat} (h : Kd w W cd len m l pt at' ct gp gf PL FL pu au cu) (hb : Below W.heap.size W W') : Kd w W' cd len m l pt at' ct gp gf PL FL pu au cu := ⟨h.b.kept hb, h.u.kept hb⟩
theorem below_m {w W W' : World} (h : Below w.heap.size w W) (h' : Below W.heap.size W W') : Below w.heap.size w W' := h.trans (h'.mono h.size)
theorem IntRow.setOther {W : World} {a : Option Addr} {L : List Int} (h : IntRow W a L) (p o : Nat) (v : Value) (hne : ∀ k, blk a = some k → k ≠ p) : IntRow (W.setCell ⟨p, o, none⟩ v) a L := by
  rcases h with h | ⟨b, off, rfl, hb, hc⟩
  · exact .inl h
  · have h1 : b ≠ p := hne b rfl
    refine .inr ⟨b, off, rfl, by simpa [World.setCell] using hb, fun j hj => ?_⟩
    rw [World.cell?_of_block (a := ⟨b, off + j, none⟩) (heap_setCell_other W ⟨p, o, none⟩ b v h1)]
    exact hc j hj
theorem ren_own (m : Nat) (a : Option Addr) (l : List Int) (cap : Nat) (an : Option Addr) (ns : List Int) (cn : Nat) (w : World) (h : Vt m l) (hn : Names m ns) (hrow : IntRow w a l) (hrn : IntRow w an ns) :
    Calls Try.prog 21 #[.agg #[.int .i64 m, .slice a m cap], .slice an m cn] w fun e w' => ∃ a0 c0, e = .returned (.tuple #[.agg #[.int .i64 m, .slice a0 m c0], .bool true]) ∧ IntRow w' a0 (renL l ns) ∧ (∀ k, blk a0 = some k → w.heap.size ≤ k) ∧ Below w.heap.size w w' := by
  obtain ⟨hok, rfl⟩ := h
  have hp := hn.perm
  have hc := implRename (l.length : Int) a l cap an ns cn w hrow (Vt.max ⟨hok, rfl⟩) hrn (by rw [hn.1]; exact Vt.max ⟨hok, rfl⟩)
  rw [hn.1] at hc
  refine hc.mono ?_
  rintro e w' ⟨⟨a0, c0, rfl, ho⟩, hb⟩
  obtain ⟨_, h2, h3, _⟩ := renamed hok hp
  refine ⟨a0, c0, ?_, own_int ho, fun k hk => (own_blk ho hk).1, hb⟩
  rw [h3, h2, renB_L hok hp]
theorem box_done {w W5 w7 : World} {cd : Option Addr} {len m : Nat} {l ns : List Int} {pt : Nat} {at' : Option Addr} {ct gp gf : Nat} {PL FL : List Int} {pu : Nat} {au : Option Addr} {cu : Nat} {ar : Option Addr} {cr q : Nat} (hk : Kd w W5 cd len m l pt at' ct gp gf PL FL pu au cu) (hb : Below W5.heap.size W5 w7) (hq : W5.heap.size ≤ q) (hx : Box w7 q 25 (.int .i64 0) (.slice none 0 0)) (hr : IntRow w7 ar (renL l ns)) (hne : ∀ k, blk ar = some k → k ≠ q) :
    Kc w ((w7.setCell ⟨q, 0, none⟩ (.int .i64 (m : Int))).setCell ⟨q, 1, none⟩ (.slice ar m cr)) cd len m l ns pt at' ct gp gf PL FL pu au cu q ar cr := by
  have hb2 : Below W5.heap.size W5 ((w7.setCell ⟨q, 0, none⟩ (.int .i64 (m : Int))).setCell ⟨q, 1, none⟩ (.slice ar m cr)) := (hb.setCell (p := ⟨q, 0, none⟩) hq _).setCell (p := ⟨q, 1, none⟩) hq _
  exact ⟨(hk.kept hb2).b, (hk.kept hb2).u, (hx.set0 _).set1 _, (hr.setOther q 0 _ hne).setOther q 1 _ hne⟩
theorem onceW {P : Nat → Nat → Nat → Nat → Option Addr → World → Prop} {S : Nat → Nat → Nat → Option Addr → World → Prop} {Goal : Prop} (main : (∀ gn cn cr pr ar W, S cr pr gn ar W → P gn cn cr pr ar W) → Goal) (rest : ∀ gn cn cr pr ar W, S cr pr gn ar W → P gn cn cr pr ar W) : Goal := main rest

abbrev SX (w12 : World) (i pt : Nat) (at' : Option Addr) (ct pu : Nat) (au : Option Addr) (cu pr : Nat) (ar : Option Addr) (cr gp : Nat) (p0 : Int) (W' : World) : Prop :=
  W'.cell? ⟨pt, 0, none⟩ = some (.int .i64 (i : Int)) ∧ W'.cell? ⟨pt, 1, none⟩ = some (.slice at' i ct) ∧ W'.cell? ⟨pu, 0, none⟩ = some (.int .i64 (i : Int)) ∧ W'.cell? ⟨pu, 1, none⟩ = some (.slice au i cu) ∧ W'.cell? ⟨pr, 0, none⟩ = some (.int .i64 (i : Int)) ∧ W'.cell? ⟨pr, 1, none⟩ = some (.slice ar i cr) ∧ W'.cell? ⟨gp, 0, none⟩ = some (.int .i64 p0) ∧ Hid (Below w12.heap.size w12 W')
theorem SX.of {w W W' : World} {cd : Option Addr} {len m : Nat} {l ns : List Int} {pt : Nat} {at' : Option Addr} {ct gp gf : Nat} {PL FL : List Int} {pu : Nat} {au : Option Addr} {cu pr : Nat} {ar : Option Addr} {cr : Nat} {p0 : Int} (hk : Kc w W cd len m l ns pt at' ct gp gf PL FL pu au cu pr ar cr) (hl : PL.length = m) (hm : 1 ≤ m) (h0 : p0 = PL.getD 0 0) (hb : Below W.heap.size W W') : SX W m pt at' ct pu au cu pr ar cr gp p0 W' := by
  have h := hk.kept hb
  obtain ⟨b, o, e, _, hc⟩ := h.b.p.at (k := 0) (by omega)
  cases e
  rw [Nat.add_zero, ← h0] at hc
  exact ⟨h.b.k.bx.c0, h.b.k.bx.c1, h.u.bx.c0, h.u.bx.c1, h.r.bx.c0, h.r.bx.c1, hc, hb⟩
theorem slice_headU (g m c h : Nat) (hc : h ≤ c) : ∀ W : World, (Instr.sliceAt 23 (.slice (some ⟨g, 0, none⟩) m c) none (some (.int .i64 (h : Int))) none).run Try.prog W = .ok (.slice (some ⟨g, 0, none⟩) h c) W := by
  intro W
  simp [go_sem, Try.underlying23, Try.sizeOf3]
  intro h2; omega
theorem newsU {W : World} {B : Nat} {v : Value} (h : W.heap[B]? = some (.cells #[v] 3 (0, 0))) : ∀ j u, ([v] : List Value)[j]? = some u → W.cell? ((⟨B, 0, none⟩ : Addr).add j) = some u := World.news_of_block (cs := #[v]) h
theorem addrU (g j : Nat) : (⟨g, 0, none⟩ : Addr).add j = ⟨g, j, none⟩ := by unfold Addr.add; split <;> simp_all
theorem srcU {W : World} {g : Nat} {L : List Int} (h : IntRow W (some ⟨g, 0, none⟩) L) : ∀ j v, (L.map iv)[j]? = some v → W.cell? ((⟨g, 0, none⟩ : Addr).add j) = some v := by
  intro j v hj
  rw [List.getElem?_map] at hj
  rcases Nat.lt_or_ge j L.length with h1 | h1
  · obtain ⟨b, o, e, _, hc⟩ := h.at h1
    cases e
    rw [addrU]
    rw [Nat.zero_add] at hc
    rw [List.getElem?_eq_getElem h1] at hj
    simp only [Option.map_some, Option.some.injEq] at hj
    rw [hc, ← hj, List.getD_eq_getElem?_getD, List.getElem?_eq_getElem h1]; rfl
  · rw [List.getElem?_eq_none h1] at hj; cases hj
theorem step_append_w {P : Program} (w : World) {ops : Array Oper} {o : Oper} {a : Act} {K : Act → World → Prop} {Q : Exit → Act → World → Prop} {E : Prop} (hw : Region.wanted o (yielded ops a.tmps) = true) (s x : Operand) (t : TypeId)
    (ho : o.op = .call { callee := .builtin .append, args := #[s, x], argTypes := #[t, t] })
    (base : Nat) (e : TypeId) (i : TypeInfo) (z : Value) (size bytes : Nat) (ht : P.underlying t = some (.slice e)) (hi : P.info? e = some i) (hz : i.zero = some z)
    (hsize : i.size = size) (hby : i.bytes = bytes) (hzs : z.cells.size = size) (hsz : 0 < size)
    (v : Value) (n : Nat) (xs : List Value) (hs : a.eval s = v) (hown : w.ownsRow base e size v n xs)
    (ad : Addr) (m c : Nat) (news : List Value) (hx : a.eval x = .slice (some ad) m c) (hl : news.length = m * size) (hnews : ∀ j u, news[j]? = some u → w.cell? (ad.add j) = some u) (h1 : ∀ u ∈ news, u.oneCell' = true)
    (hm : 0 < m) (h63 : n + m ≤ maxLen) (hbytes : (n + m) * bytes ≤ 140737488355328) (hbase : base ≤ w.heap.size) (H : Nat) (hH : w.heap.size = H) (N : Nat) (hN : n + m = N)
    (h : ∀ g cap w', w'.ownsRow base e size (.slice (some ⟨g, 0, none⟩) N cap) N (xs ++ news) → w.grownBy w' v.ownBlock → (v.ownBlock = some g ∨ g = H) → g < w'.heap.size → K (a.put o.dst (.slice (some ⟨g, 0, none⟩) N cap)) w') :
    if Region.wanted o (yielded ops a.tmps) = true then Oper.wp P o a w K Q else E := by
  subst hN
  rw [if_pos hw]
  exact wp_append_lies w s x t ho base e i z size bytes ht hi hz hsize hby hzs hsz v n xs hs hown ad m c news hx hl hnews h1 hm h63 hbytes hbase H hH h

set_option maxRecDepth 100000 in
set_option maxHeartbeats 8000000 in
theorem walkFnWays (a : Option Addr) (len cap : Nat) (w : World) (hl : len ≤ maxLen) (hrow : Row w.heap.size w a len) :
    Calls Try.prog 3 #[.slice a len cap] w fun e w' => e = .returned (.bool true) ∧ Below w.heap.size w w' := by
  by_cases hbig : (1048576 : Int) < (len : Int)
  · unfold maxLen at hl
    clear hrow
    go_enter Try.func3, Try.ntmps3
    go_wp2
    go_ret
    exact ⟨rfl, Below.refl _ _⟩
  · have hl20 : len ≤ 1048576 := by omega
    have HROW := Lib.hid hrow
    unfold maxLen at hl
    clear hrow
    go_enter Try.func3, Try.ntmps3
    go_wp2_with fail
    refine (makeTour_any w.heap.size 0 7 w a len cap (by omega) (by omega) (by omega) hl20 (Nat.le_refl _) HROW.out).mono ?_
    rintro e w1 ⟨l, gt, ct, hok, h7, rfl, ho, hb1⟩
    obtain ⟨m, hm⟩ : ∃ m, m = l.length := ⟨_, rfl⟩
    have V : Hid (Vt m l) := ⟨hok, hm.symm⟩
    have hrd := own_int ho
    rw [← hm] at h7 ⊢
    have hm1 : 1 ≤ m := V.out.le.1
    obtain ⟨W1, hW1⟩ : ∃ W1, W1 = w1.alloc (.cells #[.int .i64 m, .slice (some ⟨gt, 0, none⟩) m ct] 25) := ⟨_, rfl⟩
    obtain ⟨pt, hpt⟩ : ∃ pt, pt = w1.heap.size := ⟨_, rfl⟩
    obtain ⟨at', hat⟩ : ∃ at', at' = some (⟨gt, 0, none⟩ : Addr) := ⟨_, rfl⟩
    rw [← hat] at hrd hW1
    have X1 : Hid (Ka w W1 a len m l pt at' ct) := by
      have hbn : Below w1.heap.size w1 W1 := by rw [hW1]; exact Below.one _ _
      have hb2 : Below w.heap.size w W1 := hb1.trans (hbn.mono hb1.size)
      refine ⟨hb2, HROW.out.below hb2, ?_, hrd.below hbn (Nat.le_refl _)⟩
      rw [hW1, hpt]; exact Box.new _ _ _ _
    have HW1 := Lib.hid hW1
    have HPT := Lib.hid hpt
    have HAT := Lib.hid hat
    obtain ⟨PL, hPL⟩ : ∃ PL, PL = (wP m l).map Int.ofNat := ⟨_, rfl⟩
    obtain ⟨FL, hFL⟩ : ∃ FL, FL = (wF m l).map Int.ofNat := ⟨_, rfl⟩
    have hPl : PL.length = m := by rw [hPL, List.length_map]; exact Hw.fwL_len _ _
    have hFl : FL.length = m := by rw [hFL, List.length_map]; exact (V.out.full_is V.out.ffull).2.1
    obtain ⟨H, hH⟩ : ∃ H, H = hNum l := ⟨_, rfl⟩
    have hodd : H % 2 = 1 := by rw [hH]; exact V.out.odd
    obtain ⟨Hi, hHi⟩ : ∃ Hi : Int, Hi = (H : Int) := ⟨_, rfl⟩
    have hHm : Hi % 2 = 1 := by omega
    have hHt : Hi.tmod 2 = 1 := by rw [Int.tmod_eq_emod_of_nonneg (by omega)]; exact hHm
    have hHle : H ≤ 16777216 := by
      rw [hH, ← V.out.sw]
      have := sw_le m l m
      omega
    obtain ⟨F0, hF0⟩ : ∃ F0 : Int, F0 = FL.getD 0 0 := ⟨_, rfl⟩
    have HF0 : Hid (∀ i, i < m → 0 < cw m l i → F0 ≤ (i : Int)) := fun i hi hc => by
      have h1 := V.out.first_le hi hc
      have h2 : FL.getD 0 0 = (((wF m l).getD 0 0 : Nat) : Int) := by
        rw [hFL, List.getD_eq_getElem?_getD, List.getD_eq_getElem?_getD, List.getElem?_map]
        cases (wF m l)[0]? <;> rfl
      rw [hF0, h2]; omega
    have CF : Hid (∀ W, IntRow W at' l → Calls Try.prog 16 #[.agg #[.int .i64 (m : Int), .slice at' m ct]] W fun e W' => (∃ g c, e = .returned (.slice (some ⟨g, 0, none⟩) m c) ∧ m ≤ c ∧ IntRow W' (some ⟨g, 0, none⟩) PL) ∧ Below W.heap.size W W') := fun W hr => by rw [hPL]; exact w_full at' ct W V.out hr
    have CG : Hid (∀ W, IntRow W at' l → Calls Try.prog 17 #[.agg #[.int .i64 (m : Int), .slice at' m ct]] W fun e W' => (∃ g c, e = .returned (.slice (some ⟨g, 0, none⟩) m c) ∧ IntRow W' (some ⟨g, 0, none⟩) FL) ∧ Below W.heap.size W W') := fun W hr => by rw [hFL]; exact w_first at' ct W V.out hr
    have CW : Hid (∀ W, IntRow W at' l → Calls Try.prog 18 #[.agg #[.int .i64 (m : Int), .slice at' m ct]] W fun e W' => e = .returned (.int .i64 Hi) ∧ Below W.heap.size W W') := fun W hr => by rw [hHi, hH]; exact w_count at' ct W V.out hr
    have CWU : Hid (∀ W b c, IntRow W b (turnL l) → Calls Try.prog 18 #[.agg #[.int .i64 (m : Int), .slice b m c]] W fun e W' => e = .returned (.int .i64 Hi) ∧ Below W.heap.size W W') := fun W b c hr => by
      have := w_count b c W V.out.turn hr
      rw [V.out.turned, ← hH, ← hHi] at this
      exact this
    have CWR : Hid (∀ ns, Names m ns → ∀ W b c, IntRow W b (renL l ns) → Calls Try.prog 18 #[.agg #[.int .i64 (m : Int), .slice b m c]] W fun e W' => e = .returned (.int .i64 Hi) ∧ Below W.heap.size W W') := fun ns hn W b c hr => by
      have := w_count b c W (V.out.ren hn) hr
      rw [V.out.renamed hn, ← hH, ← hHi] at this
      exact this
    obtain ⟨C, hC⟩ : ∃ C, C = cNum l := ⟨_, rfl⟩
    obtain ⟨Ci, hCi⟩ : ∃ Ci : Int, Ci = (C : Int) := ⟨_, rfl⟩
    have hC0 : 0 ≤ Ci := by omega
    have hC0d : decide (0 ≤ Ci) = true := decide_eq_true hC0
    have CYT : Hid (∀ W, IntRow W at' l → Calls Try.prog 25 #[.agg #[.int .i64 (m : Int), .slice at' m ct]] W fun e W' => e = .returned (.int .i64 Ci) ∧ Below W.heap.size W W') := fun W hr => by rw [hCi, hC]; exact w_cycles at' ct W V.out hr
    have CYU : Hid (∀ W b c, IntRow W b (turnL l) → Calls Try.prog 25 #[.agg #[.int .i64 (m : Int), .slice b m c]] W fun e W' => e = .returned (.int .i64 Ci) ∧ Below W.heap.size W W') := fun W b c hr => by
      have := w_cycles b c W V.out.turn hr
      rw [V.out.cturned, ← hC, ← hCi] at this
      exact this
    have CYR : Hid (∀ ns, Names m ns → ∀ W b c, IntRow W b (renL l ns) → Calls Try.prog 25 #[.agg #[.int .i64 (m : Int), .slice b m c]] W fun e W' => e = .returned (.int .i64 Ci) ∧ Below W.heap.size W W') := fun ns hn W b c hr => by
      have := w_cycles b c W (V.out.ren hn) hr
      rw [V.out.crenamed hn, ← hC, ← hCi] at this
      exact this
    have CS : Hid (3 ≤ m → ∀ W, IntRow W at' l → Calls Try.prog 26 #[.agg #[.int .i64 (m : Int), .slice at' m ct]] W fun e W' => e = .returned (.bool (decide (0 < Ci))) ∧ Below W.heap.size W W') := fun h3 W hr => by
      have := w_strong at' ct W V.out hr h3
      rw [show decide (0 < cNum l) = decide (0 < Ci) by rw [decide_eq_decide]; omega] at this
      exact this
    have WP : Hid (∀ W c g, IntRow W at' l → IntRow W (some ⟨g, 0, none⟩) PL → Calls Try.prog 23 #[.agg #[.int .i64 (m : Int), .slice at' m ct], .slice (some ⟨g, 0, none⟩) m c] W fun e W' => e = .returned (.bool true) ∧ Below W.heap.size W W') := fun W c g hr hp => by
      have := w_isway at' ct _ PL c m W V.out hr hp hPl (by omega)
      rw [hPL, V.out.isway V.out.pfull] at this
      exact this
    have WF : Hid (∀ W c g, IntRow W at' l → IntRow W (some ⟨g, 0, none⟩) FL → Calls Try.prog 23 #[.agg #[.int .i64 (m : Int), .slice at' m ct], .slice (some ⟨g, 0, none⟩) m c] W fun e W' => e = .returned (.bool true) ∧ Below W.heap.size W W') := fun W c g hr hp => by
      have := w_isway at' ct _ FL c m W V.out hr hp hFl (by omega)
      rw [hFL, V.out.isway V.out.ffull] at this
      exact this
    have WH : Hid (∀ W c g h, h ≤ m → IntRow W at' l → IntRow W (some ⟨g, 0, none⟩) PL → Calls Try.prog 23 #[.agg #[.int .i64 (m : Int), .slice at' m ct], .slice (some ⟨g, 0, none⟩) h c] W fun e W' => e = .returned (.bool true) ∧ Below W.heap.size W W') := fun W c g h hh hr hp => by
      have hq : IntRow W (some ⟨g, 0, none⟩) (PL.take h) := by
        rcases hp with hp | ⟨b, off, e, hb, hc⟩
        · exact .inl (by rw [hp]; simp)
        · refine .inr ⟨b, off, e, hb, fun j hj => ?_⟩
          rw [List.length_take] at hj
          rw [hc j (by omega), List.getD_eq_getElem?_getD, List.getD_eq_getElem?_getD, List.getElem?_take, if_pos (by omega)]
      have := w_isway at' ct _ (PL.take h) c h W V.out hr hq (by rw [List.length_take]; omega) (by omega)
      rw [hPL, V.out.ispart V.out.pfull] at this
      exact this
    obtain ⟨p0, hp0⟩ : ∃ p0 : Int, p0 = PL.getD 0 0 := ⟨_, rfl⟩
    have WN : Hid (∀ W b c, IntRow W b (PL ++ [p0]) → IntRow W at' l → Calls Try.prog 23 #[.agg #[.int .i64 (m : Int), .slice at' m ct], .slice b (m + 1) c] W fun e W' => e = .returned (.bool false) ∧ Below W.heap.size W W') := fun W b c hn hr => by
      have := w_isway at' ct b (PL ++ [p0]) c (m + 1) W V.out hr hn (by simp [hPl]) (by omega)
      rw [show PL ++ [p0] = (wP m l).map Int.ofNat ++ [(((wP m l).getD 0 0 : Nat) : Int)] by
        rw [hp0, hPL]
        congr 2
        rw [List.getD_eq_getElem?_getD, List.getD_eq_getElem?_getD, List.getElem?_map]
        cases (wP m l)[0]? <;> rfl, V.out.notway V.out.pfull] at this
      exact this
    have BF : Hid (∀ W cp cf gp gf, IntRow W (some ⟨gp, 0, none⟩) PL → IntRow W (some ⟨gf, 0, none⟩) FL → Calls Try.prog 24 #[.slice (some ⟨gp, 0, none⟩) m cp, .slice (some ⟨gf, 0, none⟩) m cf] W fun e W' => e = .returned (.bool false) ∧ W' = W) := fun W cp cf gp gf hp hf => by
      have e1 : (wP m l).length = m := Hw.fwL_len _ _
      have e2 : (wF m l).length = m := (V.out.full_is V.out.ffull).2.1
      rw [hPL] at hp
      rw [hFL] at hf
      have := lawBefore_any (some ⟨gp, 0, none⟩) (some ⟨gf, 0, none⟩) cp cf (wP m l) (wF m l) W (by omega) (by omega) hp hf
      rw [e1, e2, V.out.nobef] at this
      exact this
    have HSW : Hid (((sw m l m : Nat) : Int) = Hi) := by show _ = _; rw [hHi, hH, V.out.sw]
    have HPL := Lib.hid hPl
    have HFL := Lib.hid hFl
    have HFF := Lib.hid hF0
    have HP0 := Lib.hid hp0
    clear hok hm ho hrd hb1 hW1 hpt hat hPL hFL hPl hFl hH hodd hHi hHle hF0 hC hCi hp0
    go_wp2_with fail
    rw [← HPT.out, ← HAT.out, ← HW1.out]
    refine (CF.out W1 X1.out.rd).mono ?_
    rintro e w2 ⟨⟨gp, cp, rfl, hcp, hp⟩, hb2⟩
    have X2 := Lib.hid (X1.out.kept hb2)
    have P2 := Lib.hid hp
    have c0 := X2.out.bx.c0
    have c1 := X2.out.bx.c1
    clear hb2 X1 HW1 hp
    go_wp2_with fail
    refine (CG.out w2 X2.out.rd).mono ?_
    rintro e w3 ⟨⟨gf, cf, rfl, hf⟩, hb3⟩
    have X3 : Hid (Kb w w3 a len m l pt at' ct gp gf PL FL) := ⟨X2.out.kept hb3, P2.out.below hb3 (Nat.le_refl _), hf⟩
    clear c0 c1 hb3 hf X2 P2
    have c0 := X3.out.k.bx.c0
    have c1 := X3.out.k.bx.c1
    go_wp2_with fail
    refine (CW.out w3 X3.out.k.rd).mono ?_
    rintro e w4 ⟨rfl, hb4⟩
    have X4 := Lib.hid (X3.out.kept hb4)
    clear c0 c1 hb4 X3
    go_wp2
    go_loopw [8, 9] (fun tt ai wr => ∃ i s : Nat, i ≤ m ∧ tt = .int .i64 (s : Int) ∧ ai = .int .i64 (i : Int) ∧ s ≤ i * 2097152 ∧ Hid (s = sw m l i) ∧ Hid (Kb w wr a len m l pt at' ct gp gf PL FL)) (fun _ ai _ => m - (intOf ai).toNat)
    case atStart => exact ⟨0, 0, Nat.zero_le _, rfl, rfl, Nat.le_refl _, rfl, X4.out⟩
    case round =>
      clear X4
      obtain ⟨i, s, hi, rfl, rfl, hsb, hs, Xr⟩ := hrel
      have c0 := Xr.out.k.bx.c0
      have c1 := Xr.out.k.bx.c1
      by_cases hlt : i < m
      · have hib : (i : Int) < (m : Int) := by omega
        go_wp2_with fail
        refine (w_from at' ct i _ V.out Xr.out.k.rd hlt).mono ?_
        rintro e w5 ⟨rfl, hb5⟩
        have X5 := Lib.hid (Xr.out.kept hb5)
        have hx8 : cw m l i ≤ 2097152 := Hw.ways_len _ _ _
        have hF := HF0.out i hlt
        obtain ⟨x, hx⟩ : ∃ x, x = cw m l i := ⟨_, rfl⟩
        have hs2 : Hid (s + x = sw m l (i + 1)) := by show _ = _; rw [hs.out, hx]; rfl
        rw [← hx] at hx8 hF ⊢
        have hsb2 : s + x ≤ (i + 1) * 2097152 := by omega
        have hxn : ¬ (x : Int) < 0 := by omega
        have hxnd : decide ((x : Int) < 0) = false := decide_eq_false hxn
        have h0m : (0 : Int) < (m : Int) := by omega
        obtain ⟨bf, of, hbf, hbl, hcf⟩ := X5.out.f.at (k := 0) (by rw [HFL.out]; omega)
        simp only [Option.some.injEq, Addr.mk.injEq, and_true] at hbf
        obtain ⟨rfl, rfl⟩ := hbf
        rw [← HFF.out, Nat.zero_add] at hcf
        clear c0 c1 hb5 Xr hs hx
        by_cases hx0 : x = 0
        · subst hx0
          go_wp2
          go_roundw
          case rel => exact ⟨i + 1, s + 0, by omega, by first | rfl | go_num, by go_num, hsb2, hs2, X5.out⟩
          case measure => simp [intOf]; omega
        · have hxp : (0 : Int) < (x : Int) := by omega
          have hFi : ¬ (i : Int) < F0 := by have := hF (by omega); omega
          clear hF
          go_wp2
          go_roundw
          case rel => exact ⟨i + 1, s + x, by omega, by go_num, by go_num, hsb2, hs2, X5.out⟩
          case measure => simp [intOf]; omega
      · obtain rfl : i = m := by omega
        have hsH : ((s : Nat) : Int) = Hi := by rw [hs.out]; exact HSW.out
        go_wp2_with fail
        refine (turn_ok i at' l ct _ V.out Xr.out.k.rd).mono ?_
        rintro e w5 ⟨⟨au, cu, rfl, hru⟩, hb5⟩
        obtain ⟨W5, hW5⟩ : ∃ W5, W5 = w5.alloc (.cells #[.int .i64 (i : Int), .slice au i cu] 25) := ⟨_, rfl⟩
        obtain ⟨pu, hpu⟩ : ∃ pu, pu = w5.heap.size := ⟨_, rfl⟩
        have U5 : Hid (Tw W5 pu i (turnL l) au cu) := by rw [hpu]; exact Tw.new hru hW5
        have X5 := Lib.hid ((Xr.out.kept hb5).kept (new_below hW5))
        have HW5 := Lib.hid hW5
        have HPU := Lib.hid hpu
        clear c0 c1 hb5 Xr hru hW5 hpu hs hsb
        have E5 : Hid (Kd w W5 a len i l pt at' ct gp gf PL FL pu au cu) := ⟨X5.out, U5.out⟩
        have c0 := X5.out.k.bx.c0
        have c1 := X5.out.k.bx.c1
        obtain ⟨Z0, hZ0⟩ : ∃ Z0 : Obj, Z0 = .cells #[.int .i64 0, .slice none 0 0] 25 := ⟨_, rfl⟩
        have HB0 : Hid (Below W5.heap.size W5 W5.drew) := (Below.refl _ W5).drew
        have HB1 : Hid (Below W5.heap.size W5 (W5.alloc (.cells #[.int .i64 0, .slice none 0 0] 25)).drew) := (Below.one W5 _).drew
        have HX1 : Hid (Box (W5.alloc (.cells #[.int .i64 0, .slice none 0 0] 25)).drew W5.heap.size 25 (.int .i64 0) (.slice none 0 0)) := Box.new W5 _ _ _
        have f0 := ((E5.out.kept HB1.out).b.k.bx).c0
        have f1 := ((E5.out.kept HB1.out).b.k.bx).c1
        have HMO : Hid (∀ W, Below W5.heap.size W5 W → Calls Try.prog 22 #[.slice a len cap, .int .i64 20, .int .i64 (i : Int)] W fun e W' => ∃ (ns : List Int) (gn cn : Nat), Names i ns ∧ e = .returned (.slice (some ⟨gn, 0, none⟩) i cn) ∧ IntRow W' (some ⟨gn, 0, none⟩) ns ∧ Below W.heap.size W W') := by
          intro W hW
          refine (makeOrder_any W.heap.size 20 i W a len cap (by omega) hm1 (by omega) hl20 (Nat.le_refl _) ((E5.out.kept hW).b.k.ro.mono (E5.out.kept hW).b.k.hb.size)).mono ?_
          rintro e W' ⟨ns, gn, cn, hnm, rfl, hon, hbq⟩
          exact ⟨ns, gn, cn, hnm, rfl, IntRow.of_ownN hon hnm.1, hbq⟩
        have HRN : Hid (∀ ns gn cn W, Names i ns → Below W5.heap.size W5 W → IntRow W (some ⟨gn, 0, none⟩) ns → Calls Try.prog 21 #[.agg #[.int .i64 (i : Int), .slice at' i ct], .slice (some ⟨gn, 0, none⟩) i cn] W fun e W' => ∃ (ar : Option Addr) (cr : Nat), e = .returned (.tuple #[.agg #[.int .i64 (i : Int), .slice ar i cr], .bool true]) ∧ IntRow W' ar (renL l ns) ∧ (∀ k, blk ar = some k → W.heap.size ≤ k) ∧ Below W.heap.size W W') := by
          intro ns gn cn W hn hW hrn
          exact ren_own i at' l ct _ ns cn W V.out hn (E5.out.kept hW).b.k.rd hrn
        clear hZ0
        go_wp2
        rw [← HPU.out, ← HW5.out]
        apply onceW (S := fun cr pr gn ar W => Hid (∃ ns, Names i ns ∧ Kc w W a len i l ns pt at' ct gp gf PL FL pu au cu pr ar cr))
        case main =>
          intro REST
          go_region_with (first
            | (go_at_call 22; refine (HMO.out _ (by with_reducible first | exact HB0.out | exact HB1.out)).mono ?_; rintro e w6 ⟨ns, gn, cn, hnm, rfl, hon, hb6⟩; have BB6 : Hid (Below W5.heap.size W5 w6) := below_m (by with_reducible first | exact HB0.out | exact HB1.out) hb6; (first | (have bx6 := Lib.hid (HX1.out.below hb6 HX1.out.lt)) | (skip)); have BX6 : Hid (Below W5.heap.size W5 (w6.alloc (.cells #[.int .i64 0, .slice none 0 0] 25))) := below_m BB6.out (Below.one _ _); have N6 := Lib.hid hon; have NX6 := Lib.hid (hon.below (Below.one w6 (.cells #[.int .i64 0, .slice none 0 0] 25)) (Nat.le_refl _)); have NM := Lib.hid hnm; have e0 := ((E5.out.kept BB6.out).b.k.bx).c0; have e1 := ((E5.out.kept BB6.out).b.k.bx).c1; have g0 := ((E5.out.kept BX6.out).b.k.bx).c0; have g1 := ((E5.out.kept BX6.out).b.k.bx).c1; clear hon hnm hb6)
            | (go_at_call 21; refine (HRN.out ns gn cn _ NM.out (by with_reducible first | exact BB6.out | exact BX6.out) (by with_reducible first | exact N6.out | exact NX6.out)).mono ?_; rintro e w7 ⟨ar, cr, rfl, hrr, hrk, hb7⟩; have BB7 : Hid (Below W5.heap.size W5 w7) := below_m (by with_reducible first | exact BB6.out | exact BX6.out) hb7; have hz7 := hb7.size; (first | (have bx7 := Lib.hid (bx6.out.below hb7 bx6.out.lt); have q7 := bx6.out.lt; have k0 := bx7.out.c0; have k1 := bx7.out.c1; have k2 := bx7.out.f0; have k3 := bx7.out.f1) | (have bx7 := Lib.hid ((Box.new w6 25 (.int .i64 0) (.slice none 0 0)).below hb7 (by simp)); have k0 := bx7.out.c0; have k1 := bx7.out.c1; have k2 := bx7.out.f0; have k3 := bx7.out.f1) | (skip)); have R7 := Lib.hid hrr; have RK := Lib.hid hrk; clear hrr hrk hb7))
          all_goals first
            | (obtain ⟨W7, hW7⟩ : ∃ W7, W7 = w7.alloc (.cells #[.int .i64 (i : Int), .slice ar i cr] 25) := ⟨_, rfl⟩
               obtain ⟨pr, hpr⟩ : ∃ pr, pr = w7.heap.size := ⟨_, rfl⟩
               have Z : Hid (∃ ns, Names i ns ∧ Kc w W7 a len i l ns pt at' ct gp gf PL FL pu au cu pr ar cr) := ⟨ns, NM.out, ((E5.out.kept BB7.out).kept (new_below hW7)).b, ((E5.out.kept BB7.out).kept (new_below hW7)).u, by rw [hpr]; exact Tw.new R7.out hW7⟩
               rw [← hW7, ← hpr]
               exact REST gn cn cr pr ar W7 Z)
            | (obtain ⟨pr, hpr⟩ : ∃ pr, pr = W5.heap.size := ⟨_, rfl⟩
               obtain ⟨W7, hW7⟩ : ∃ W7, W7 = (w7.setCell ⟨pr, 0, none⟩ (.int .i64 (i : Int))).setCell ⟨pr, 1, none⟩ (.slice ar i cr) := ⟨_, rfl⟩
               have Z : Hid (∃ ns, Names i ns ∧ Kc w W7 a len i l ns pt at' ct gp gf PL FL pu au cu pr ar cr) := ⟨ns, NM.out, by rw [hW7]; exact box_done E5.out BB7.out (by omega) (by rw [hpr]; exact bx7.out) R7.out (fun k hk => by have := RK.out k hk; omega)⟩
               rw [← hpr, ← hW7]
               exact REST gn cn cr pr ar W7 Z)
            | (obtain ⟨pr, hpr⟩ : ∃ pr, pr = w6.heap.size := ⟨_, rfl⟩
               obtain ⟨W7, hW7⟩ : ∃ W7, W7 = (w7.setCell ⟨pr, 0, none⟩ (.int .i64 (i : Int))).setCell ⟨pr, 1, none⟩ (.slice ar i cr) := ⟨_, rfl⟩
               have hs6 : (w6.alloc (.cells #[.int .i64 0, .slice none 0 0] 25)).heap.size = w6.heap.size + 1 := by simp
               have hs5 := BB6.out.size
               have Z : Hid (∃ ns, Names i ns ∧ Kc w W7 a len i l ns pt at' ct gp gf PL FL pu au cu pr ar cr) := ⟨ns, NM.out, by rw [hW7]; exact box_done E5.out BB7.out (by omega) (by rw [hpr]; exact bx7.out) R7.out (fun k hk => by have := RK.out k hk; omega)⟩
               rw [← hpr, ← hW7]
               exact REST gn cn cr pr ar W7 Z)
        case rest =>
          intro gn cn cr pr ar W7 Z
          obtain ⟨ns, hns, Z7⟩ := Z.out
          have NS := Lib.hid hns
          have Z7 := Lib.hid Z7
          clear X5 U5 E5 Z hns HW5 HPU HMO HRN HX1 HB0 HB1 c0 c1 f0 f1
          have c0 := Z7.out.b.k.bx.c0
          have c1 := Z7.out.b.k.bx.c1
          go_wp2_with fail
          refine (WP.out W7 cp gp Z7.out.b.k.rd Z7.out.b.p).mono ?_
          rintro e w8 ⟨rfl, hb8⟩
          have Z8 := Lib.hid (Z7.out.kept hb8)
          clear c0 c1 hb8 Z7
          have c0 := Z8.out.b.k.bx.c0
          have c1 := Z8.out.b.k.bx.c1
          go_wp2_with fail
          refine (WF.out w8 cf gf Z8.out.b.k.rd Z8.out.b.f).mono ?_
          rintro e w9 ⟨rfl, hb9⟩
          have Z9 := Lib.hid (Z8.out.kept hb9)
          clear c0 c1 hb9 Z8
          go_wp2_with fail
          refine (BF.out w9 cp cf gp gf Z9.out.b.p Z9.out.b.f).mono ?_
          rintro e w' ⟨rfl, rfl⟩
          have d0 := Z9.out.u.bx.c0
          have d1 := Z9.out.u.bx.c1
          go_wp2_with fail
          refine (CWU.out _ au cu Z9.out.u.rd).mono ?_
          rintro e w10 ⟨rfl, hb10⟩
          have Z10 := Lib.hid (Z9.out.kept hb10)
          clear d0 d1 hb10 Z9
          have d0 := Z10.out.r.bx.c0
          have d1 := Z10.out.r.bx.c1
          go_wp2_with fail
          refine (CWR.out ns NS.out _ ar cr Z10.out.r.rd).mono ?_
          rintro e w11 ⟨rfl, hb11⟩
          have Z11 := Lib.hid (Z10.out.kept hb11)
          clear d0 d1 hb11 Z10
          have c0 := Z11.out.b.k.bx.c0
          have c1 := Z11.out.b.k.bx.c1
          go_wp2_with fail
          refine (CYT.out w11 Z11.out.b.k.rd).mono ?_
          rintro e w12 ⟨rfl, hb12⟩
          have Z12 := Lib.hid (Z11.out.kept hb12)
          clear c0 c1 hb12 Z11
          go_wp2
          clear HF0 CF CG CW CWU CWR CYT WP WF BF HSW HFL HFF hsH hHm hHt
          obtain ⟨h, hh, hq⟩ : ∃ h : Nat, h ≤ i ∧ (i : Int).tdiv 2 = (h : Int) := ⟨i / 2, by omega, by rw [Int.tdiv_eq_ediv_of_nonneg (by omega)]; omega⟩
          have hhc : h ≤ cp := by omega
          have hhc1 : (h : Int) ≤ (cp : Int) := by omega
          have hwr : IntKind.i64.wrap (h : Int) = (h : Int) := IntWalk.i64_in _ (by omega)
          have hi0p : 0 < i := hm1
          have hhc0 : (0 : Int) ≤ (h : Int) := by omega
          have hhc2 : ¬ cp < h := by omega
          have hhc3 : ¬ (cp : Int) < (h : Int) := by omega
          have HX : Hid (∀ W, Below w12.heap.size w12 W → SX w12 i pt at' ct pu au cu pr ar cr gp p0 W) := fun W hb => SX.of Z12.out HPL.out hm1 HP0.out hb
          have DC : Hid (∀ W b c, ((b = au ∧ c = cu) ∨ (b = ar ∧ c = cr)) → SX w12 i pt at' ct pu au cu pr ar cr gp p0 W → Calls Try.prog 25 #[.agg #[.int .i64 (i : Int), .slice b i c]] W fun e W' => e = .returned (.int .i64 Ci) ∧ SX w12 i pt at' ct pu au cu pr ar cr gp p0 W') := by
            intro W b c hbc hS
            have hB := hS.2.2.2.2.2.2.2.out
            rcases hbc with ⟨e1, e2⟩ | ⟨e1, e2⟩
            · rw [e1, e2]; refine (CYU.out W au cu (Z12.out.kept hB).u.rd).mono ?_; rintro e W' ⟨rfl, hb⟩; exact ⟨rfl, HX.out _ (below_m hB hb)⟩
            · rw [e1, e2]; refine (CYR.out ns NS.out W ar cr (Z12.out.kept hB).r.rd).mono ?_; rintro e W' ⟨rfl, hb⟩; exact ⟨rfl, HX.out _ (below_m hB hb)⟩
          have DS : Hid (∀ W, 3 ≤ i → SX w12 i pt at' ct pu au cu pr ar cr gp p0 W → Calls Try.prog 26 #[.agg #[.int .i64 (i : Int), .slice at' i ct]] W fun e W' => e = .returned (.bool (decide (0 < Ci))) ∧ SX w12 i pt at' ct pu au cu pr ar cr gp p0 W') := by
            intro W h3 hS
            have hB := hS.2.2.2.2.2.2.2.out
            refine (CS.out h3 W (Z12.out.kept hB).b.k.rd).mono ?_; rintro e W' ⟨rfl, hb⟩; exact ⟨rfl, HX.out _ (below_m hB hb)⟩
          have DH : Hid (∀ W, SX w12 i pt at' ct pu au cu pr ar cr gp p0 W → Calls Try.prog 23 #[.agg #[.int .i64 (i : Int), .slice at' i ct], .slice (some ⟨gp, 0, none⟩) h cp] W fun e W' => e = .returned (.bool true) ∧ SX w12 i pt at' ct pu au cu pr ar cr gp p0 W') := by
            intro W hS
            have hB := hS.2.2.2.2.2.2.2.out
            refine (WH.out W cp gp h hh (Z12.out.kept hB).b.k.rd (Z12.out.kept hB).b.p).mono ?_; rintro e W' ⟨rfl, hb⟩; exact ⟨rfl, HX.out _ (below_m hB hb)⟩
          have DN : Hid (∀ W b c, IntRow W b (PL ++ [p0]) → SX w12 i pt at' ct pu au cu pr ar cr gp p0 W → Calls Try.prog 23 #[.agg #[.int .i64 (i : Int), .slice at' i ct], .slice b (i + 1) c] W fun e W' => e = .returned (.bool false) ∧ SX w12 i pt at' ct pu au cu pr ar cr gp p0 W') := by
            intro W b c hn hS
            have hB := hS.2.2.2.2.2.2.2.out
            refine (WN.out W b c hn (Z12.out.kept hB).b.k.rd).mono ?_; rintro e W' ⟨rfl, hb⟩; exact ⟨rfl, HX.out _ (below_m hB hb)⟩
          have HEND : Hid (∀ W, SX w12 i pt at' ct pu au cu pr ar cr gp p0 W → Below w.heap.size w W) := fun W hS => below_m Z12.out.b.k.hb hS.2.2.2.2.2.2.2.out
          have HPP : Hid (∀ W, SX w12 i pt at' ct pu au cu pr ar cr gp p0 W → IntRow W (some ⟨gp, 0, none⟩) PL) := fun W hS => (Z12.out.kept hS.2.2.2.2.2.2.2.out).b.p
          have HB0 : Hid (Below w12.heap.size w12 w12.drew) := (Below.refl _ w12).drew
          have HLP : Hid ((PL.map iv).length = i * 1) := by show _ = _; rw [List.length_map, HPL.out]; omega
          have H1 : Hid (∀ v ∈ PL.map iv, v.oneCell' = true) := by intro v hv; obtain ⟨x, _, rfl⟩ := List.mem_map.1 hv; rfl
          obtain ⟨i0, hi0, hz0, hz1, hz2⟩ := info_parts infoInt
          clear CYU CYR CS WH WN Z12
          by_cases h3 : (i : Int) < 3
          · have h3d : decide ((i : Int) < 3) = true := decide_eq_true h3
            refine wp_region_noPanic ?_
            refine wp_region_held_drew (S := (fun W' => W'.cell? ⟨pt, 0, none⟩ = some (.int .i64 (i : Int)) ∧ W'.cell? ⟨pt, 1, none⟩ = some (.slice at' i ct) ∧ W'.cell? ⟨pu, 0, none⟩ = some (.int .i64 (i : Int)) ∧ W'.cell? ⟨pu, 1, none⟩ = some (.slice au i cu) ∧ W'.cell? ⟨pr, 0, none⟩ = some (.int .i64 (i : Int)) ∧ W'.cell? ⟨pr, 1, none⟩ = some (.slice ar i cr) ∧ W'.cell? ⟨gp, 0, none⟩ = some (.int .i64 p0) ∧ Hid (Below w12.heap.size w12 W'))) (by kernel_rfl) (HX.out _ HB0.out) (fun hHeld => ?_)
            refine wpAnyH_take (i := 0) (oi := { dst := some 122, op := Op.move (Operand.tmp 15), type := 3, pos := "laws.go:317", after := #[], guard := none }) (v := ?v1) rfl (by kernel_rfl) (by kernel_rfl) (by kernel_rfl) (fun _ _ _ h => h) (Or.inl ⟨by rfl, ?hy1⟩) (by with_reducible assumption) ?rest1
            case hy1 => (intro wz hSw; (try dsimp only at hSw); go_simp; try with_reducible rfl)
            try simp only [Act.put, List.setIfInBounds_toArray, List.set_cons_zero, List.set_cons_succ]
            refine wpAnyH_take (i := 1) (oi := { dst := some 123, op := Op.binOp BinOp.geq 3 (Operand.tmp 122) (Operand.const (Value.int IntKind.i64 0)) 3, type := 4, pos := "laws.go:317", after := #[{ on := 0, ground := Ground.data }], guard := none }) (v := ?v2) rfl (by kernel_rfl) (by kernel_rfl) (by kernel_rfl) (fun _ _ _ h => h) (Or.inl ⟨by rfl, ?hy2⟩) (by with_reducible assumption) ?rest2
            case hy2 => (intro wz hSw; (try dsimp only at hSw); go_simp; try with_reducible rfl)
            try simp only [Act.put, List.setIfInBounds_toArray, List.set_cons_zero, List.set_cons_succ]
            refine wpAnyH_take (i := 2) (oi := { dst := some 124, op := Op.move (Operand.tmp 123), type := 4, pos := "laws.go:317", after := #[{ on := 1, ground := Ground.data }], guard := none }) (v := ?v3) rfl (by kernel_rfl) (by kernel_rfl) (by kernel_rfl) (fun _ _ _ h => h) (Or.inl ⟨by rfl, ?hy3⟩) (by with_reducible assumption) ?rest3
            case hy3 => (intro wz hSw; (try dsimp only at hSw); go_simp; try with_reducible rfl)
            try simp only [Act.put, List.setIfInBounds_toArray, List.set_cons_zero, List.set_cons_succ]
            refine wpAnyH_take (i := 3) (oi := { dst := some 125, op := Op.move (Operand.tmp 15), type := 3, pos := "laws.go:317", after := #[{ on := 2, ground := Ground.guard }], guard := some (2, true) }) (v := ?v4) rfl (by kernel_rfl) (by kernel_rfl) (by kernel_rfl) (fun _ _ _ h => h) (Or.inl ⟨by rfl, ?hy4⟩) (by with_reducible assumption) ?rest4
            case hy4 => (intro wz hSw; (try dsimp only at hSw); go_simp; try with_reducible rfl)
            try simp only [Act.put, List.setIfInBounds_toArray, List.set_cons_zero, List.set_cons_succ]
            refine wpAnyH_take (i := 4) (oi := { dst := some 126, op := Op.load 25 (Operand.tmp 11), type := 25, pos := "laws.go:317", after := #[{ on := 2, ground := Ground.guard }], guard := some (2, true) }) (v := ?v5) rfl (by kernel_rfl) (by kernel_rfl) (by kernel_rfl) (fun _ _ _ h => h) (Or.inl ⟨by rfl, ?hy5⟩) (by with_reducible assumption) ?rest5
            case hy5 => (intro wz hSw; (try dsimp only at hSw); go_simp; try with_reducible rfl)
            try simp only [Act.put, List.setIfInBounds_toArray, List.set_cons_zero, List.set_cons_succ]
            refine wpAnyH_ready (rs := [5]) (by kernel_rfl) (by simp) ?_
            refine (AllReadyH.cons (o := { dst := some 127, op := Op.call { callee := Callee.value (Operand.func 25), args := #[Operand.tmp 126], argTypes := #[25] }, type := 3, pos := "laws.go:317", after := #[{ on := 4, ground := Ground.data }, { on := 2, ground := Ground.chain }, { on := 2, ground := Ground.guard }], guard := some (2, true) }) rfl (fun K hK => ?_) AllReadyH.nil)
            go_simp
            go_at_call 25
            refine (DC.out _ _ _ (by first | exact .inl ⟨rfl, rfl⟩ | exact .inr ⟨rfl, rfl⟩) (by with_reducible assumption)).mono ?_
            rintro e wq ⟨rfl, hS⟩
            first
            | (refine hK.out _ _ hS (fun hHeld => ?_))
            | (go_wp2_with fail; refine hK.out _ _ hS (fun hHeld => ?_))
            clear hK K
            try simp only [Act.put, List.setIfInBounds_toArray, List.set_cons_zero, List.set_cons_succ]
            refine wpAnyH_take (i := 6) (oi := { dst := some 128, op := Op.binOp BinOp.eql 3 (Operand.tmp 125) (Operand.tmp 127) 3, type := 4, pos := "laws.go:317", after := #[{ on := 3, ground := Ground.data }, { on := 5, ground := Ground.data }, { on := 2, ground := Ground.guard }], guard := some (2, true) }) (v := ?v6) rfl (by kernel_rfl) (by kernel_rfl) (by kernel_rfl) (fun _ _ _ h => h) (Or.inl ⟨by rfl, ?hy6⟩) (by with_reducible assumption) ?rest6
            case hy6 => (intro wz hSw; (try dsimp only at hSw); go_simp; try with_reducible rfl)
            try simp only [Act.put, List.setIfInBounds_toArray, List.set_cons_zero, List.set_cons_succ]
            refine wpAnyH_take (i := 7) (oi := { dst := some 129, op := Op.pick (Operand.tmp 124) (Operand.tmp 128) (Operand.const (Value.bool false)), type := 4, pos := "laws.go:317", after := #[{ on := 2, ground := Ground.data }, { on := 6, ground := Ground.data }], guard := none }) (v := ?v7) rfl (by kernel_rfl) (by kernel_rfl) (by kernel_rfl) (fun _ _ _ h => h) (Or.inl ⟨by rfl, ?hy7⟩) (by with_reducible assumption) ?rest7
            case hy7 => (intro wz hSw; (try dsimp only at hSw); go_simp; try with_reducible rfl)
            try simp only [Act.put, List.setIfInBounds_toArray, List.set_cons_zero, List.set_cons_succ]
            refine wpAnyH_take (i := 8) (oi := { dst := some 130, op := Op.move (Operand.tmp 129), type := 4, pos := "laws.go:317", after := #[{ on := 7, ground := Ground.data }, { on := 5, ground := Ground.chain }], guard := none }) (v := ?v8) rfl (by kernel_rfl) (by kernel_rfl) (by kernel_rfl) (fun _ _ _ h => h) (Or.inl ⟨by rfl, ?hy8⟩) (by with_reducible assumption) ?rest8
            case hy8 => (intro wz hSw; (try dsimp only at hSw); go_simp; try with_reducible rfl)
            try simp only [Act.put, List.setIfInBounds_toArray, List.set_cons_zero, List.set_cons_succ]
            refine wpAnyH_take (i := 9) (oi := { dst := some 131, op := Op.move (Operand.tmp 15), type := 3, pos := "laws.go:317", after := #[{ on := 8, ground := Ground.guard }], guard := some (8, true) }) (v := ?v9) rfl (by kernel_rfl) (by kernel_rfl) (by kernel_rfl) (fun _ _ _ h => h) (Or.inl ⟨by rfl, ?hy9⟩) (by with_reducible assumption) ?rest9
            case hy9 => (intro wz hSw; (try dsimp only at hSw); go_simp; try with_reducible rfl)
            try simp only [Act.put, List.setIfInBounds_toArray, List.set_cons_zero, List.set_cons_succ]
            refine wpAnyH_take (i := 10) (oi := { dst := some 132, op := Op.load 25 (Operand.tmp 13), type := 25, pos := "laws.go:317", after := #[{ on := 8, ground := Ground.guard }], guard := some (8, true) }) (v := ?v10) rfl (by kernel_rfl) (by kernel_rfl) (by kernel_rfl) (fun _ _ _ h => h) (Or.inl ⟨by rfl, ?hy10⟩) (by with_reducible assumption) ?rest10
            case hy10 => (intro wz hSw; (try dsimp only at hSw); go_simp; try with_reducible rfl)
            try simp only [Act.put, List.setIfInBounds_toArray, List.set_cons_zero, List.set_cons_succ]
            refine wpAnyH_ready (rs := [11]) (by kernel_rfl) (by simp) ?_
            refine (AllReadyH.cons (o := { dst := some 133, op := Op.call { callee := Callee.value (Operand.func 25), args := #[Operand.tmp 132], argTypes := #[25] }, type := 3, pos := "laws.go:317", after := #[{ on := 10, ground := Ground.data }, { on := 8, ground := Ground.chain }, { on := 8, ground := Ground.guard }], guard := some (8, true) }) rfl (fun K hK => ?_) AllReadyH.nil)
            go_simp
            go_at_call 25
            refine (DC.out _ _ _ (by first | exact .inl ⟨rfl, rfl⟩ | exact .inr ⟨rfl, rfl⟩) (by with_reducible assumption)).mono ?_
            rintro e wq ⟨rfl, hS⟩
            first
            | (refine hK.out _ _ hS (fun hHeld => ?_))
            | (go_wp2_with fail; refine hK.out _ _ hS (fun hHeld => ?_))
            clear hK K
            try simp only [Act.put, List.setIfInBounds_toArray, List.set_cons_zero, List.set_cons_succ]
            refine wpAnyH_take (i := 12) (oi := { dst := some 134, op := Op.binOp BinOp.eql 3 (Operand.tmp 131) (Operand.tmp 133) 3, type := 4, pos := "laws.go:317", after := #[{ on := 9, ground := Ground.data }, { on := 11, ground := Ground.data }, { on := 8, ground := Ground.guard }], guard := some (8, true) }) (v := ?v11) rfl (by kernel_rfl) (by kernel_rfl) (by kernel_rfl) (fun _ _ _ h => h) (Or.inl ⟨by rfl, ?hy11⟩) (by with_reducible assumption) ?rest11
            case hy11 => (intro wz hSw; (try dsimp only at hSw); go_simp; try with_reducible rfl)
            try simp only [Act.put, List.setIfInBounds_toArray, List.set_cons_zero, List.set_cons_succ]
            refine wpAnyH_take (i := 13) (oi := { dst := some 135, op := Op.pick (Operand.tmp 130) (Operand.tmp 134) (Operand.const (Value.bool false)), type := 4, pos := "laws.go:317", after := #[{ on := 8, ground := Ground.data }, { on := 12, ground := Ground.data }], guard := none }) (v := ?v12) rfl (by kernel_rfl) (by kernel_rfl) (by kernel_rfl) (fun _ _ _ h => h) (Or.inl ⟨by rfl, ?hy12⟩) (by with_reducible assumption) ?rest12
            case hy12 => (intro wz hSw; (try dsimp only at hSw); go_simp; try with_reducible rfl)
            try simp only [Act.put, List.setIfInBounds_toArray, List.set_cons_zero, List.set_cons_succ]
            refine wpAnyH_take (i := 14) (oi := { dst := some 136, op := Op.move (Operand.tmp 135), type := 4, pos := "laws.go:317", after := #[{ on := 13, ground := Ground.data }, { on := 11, ground := Ground.chain }], guard := none }) (v := ?v13) rfl (by kernel_rfl) (by kernel_rfl) (by kernel_rfl) (fun _ _ _ h => h) (Or.inl ⟨by rfl, ?hy13⟩) (by with_reducible assumption) ?rest13
            case hy13 => (intro wz hSw; (try dsimp only at hSw); go_simp; try with_reducible rfl)
            try simp only [Act.put, List.setIfInBounds_toArray, List.set_cons_zero, List.set_cons_succ]
            refine wpAnyH_take (i := 15) (oi := { dst := some 137, op := Op.move (Operand.tmp 4), type := 3, pos := "laws.go:317", after := #[{ on := 14, ground := Ground.guard }], guard := some (14, true) }) (v := ?v14) rfl (by kernel_rfl) (by kernel_rfl) (by kernel_rfl) (fun _ _ _ h => h) (Or.inl ⟨by rfl, ?hy14⟩) (by with_reducible assumption) ?rest14
            case hy14 => (intro wz hSw; (try dsimp only at hSw); go_simp; try with_reducible rfl)
            try simp only [Act.put, List.setIfInBounds_toArray, List.set_cons_zero, List.set_cons_succ]
            refine wpAnyH_take (i := 16) (oi := { dst := some 138, op := Op.binOp BinOp.lss 3 (Operand.tmp 137) (Operand.const (Value.int IntKind.i64 3)) 3, type := 4, pos := "laws.go:317", after := #[{ on := 15, ground := Ground.data }, { on := 14, ground := Ground.guard }], guard := some (14, true) }) (v := ?v15) rfl (by kernel_rfl) (by kernel_rfl) (by kernel_rfl) (fun _ _ _ h => h) (Or.inl ⟨by rfl, ?hy15⟩) (by with_reducible assumption) ?rest15
            case hy15 => (intro wz hSw; (try dsimp only at hSw); go_simp; try with_reducible rfl)
            try simp only [Act.put, List.setIfInBounds_toArray, List.set_cons_zero, List.set_cons_succ]
            refine wpAnyH_take (i := 17) (oi := { dst := some 139, op := Op.move (Operand.tmp 138), type := 4, pos := "laws.go:317", after := #[{ on := 16, ground := Ground.data }, { on := 14, ground := Ground.chain }, { on := 14, ground := Ground.guard }], guard := some (14, true) }) (v := ?v16) rfl (by kernel_rfl) (by kernel_rfl) (by kernel_rfl) (fun _ _ _ h => h) (Or.inl ⟨by rfl, ?hy16⟩) (by with_reducible assumption) ?rest16
            case hy16 => (intro wz hSw; (try dsimp only at hSw); go_simp; try with_reducible rfl)
            try simp only [Act.put, List.setIfInBounds_toArray, List.set_cons_zero, List.set_cons_succ]
            refine wpAnyH_take (i := 18) (oi := { dst := some 140, op := Op.move (Operand.tmp 15), type := 3, pos := "laws.go:317", after := #[{ on := 17, ground := Ground.guard }], guard := some (17, false) }) (v := undef) rfl (by kernel_rfl) (by kernel_rfl) (by kernel_rfl) (fun _ _ _ h => h) (Or.inr ⟨by rfl, rfl⟩) (by with_reducible assumption) ?_
            try simp only [Act.put, List.setIfInBounds_toArray, List.set_cons_zero, List.set_cons_succ]
            refine wpAnyH_take (i := 19) (oi := { dst := some 141, op := Op.binOp BinOp.gtr 3 (Operand.tmp 140) (Operand.const (Value.int IntKind.i64 0)) 3, type := 4, pos := "laws.go:317", after := #[{ on := 18, ground := Ground.data }, { on := 17, ground := Ground.guard }], guard := some (17, false) }) (v := undef) rfl (by kernel_rfl) (by kernel_rfl) (by kernel_rfl) (fun _ _ _ h => h) (Or.inr ⟨by rfl, rfl⟩) (by with_reducible assumption) ?_
            try simp only [Act.put, List.setIfInBounds_toArray, List.set_cons_zero, List.set_cons_succ]
            refine wpAnyH_take (i := 20) (oi := { dst := some 142, op := Op.load 25 (Operand.tmp 3), type := 25, pos := "laws.go:317", after := #[{ on := 17, ground := Ground.guard }], guard := some (17, false) }) (v := undef) rfl (by kernel_rfl) (by kernel_rfl) (by kernel_rfl) (fun _ _ _ h => h) (Or.inr ⟨by rfl, rfl⟩) (by with_reducible assumption) ?_
            try simp only [Act.put, List.setIfInBounds_toArray, List.set_cons_zero, List.set_cons_succ]
            refine wpAnyH_ready (rs := [21]) (by kernel_rfl) (by simp) ?_
            refine (AllReadyH.cons (o := { dst := some 143, op := Op.call { callee := Callee.value (Operand.func 26), args := #[Operand.tmp 142], argTypes := #[25] }, type := 4, pos := "laws.go:317", after := #[{ on := 20, ground := Ground.data }, { on := 17, ground := Ground.chain }, { on := 17, ground := Ground.guard }], guard := some (17, false) }) rfl (fun K hK => ?_) AllReadyH.nil)
            go_simp
            refine hK.out _ _ (by with_reducible assumption) (fun hHeld => ?_)
            clear hK K
            try simp only [Act.put, List.setIfInBounds_toArray, List.set_cons_zero, List.set_cons_succ]
            refine wpAnyH_take (i := 22) (oi := { dst := some 144, op := Op.binOp BinOp.eql 4 (Operand.tmp 141) (Operand.tmp 143) 4, type := 4, pos := "laws.go:317", after := #[{ on := 19, ground := Ground.data }, { on := 21, ground := Ground.data }, { on := 17, ground := Ground.guard }], guard := some (17, false) }) (v := undef) rfl (by kernel_rfl) (by kernel_rfl) (by kernel_rfl) (fun _ _ _ h => h) (Or.inr ⟨by rfl, rfl⟩) (by with_reducible assumption) ?_
            try simp only [Act.put, List.setIfInBounds_toArray, List.set_cons_zero, List.set_cons_succ]
            refine wpAnyH_take (i := 23) (oi := { dst := some 145, op := Op.pick (Operand.tmp 139) (Operand.const (Value.bool true)) (Operand.tmp 144), type := 4, pos := "laws.go:317", after := #[{ on := 17, ground := Ground.data }, { on := 22, ground := Ground.data }, { on := 14, ground := Ground.guard }], guard := some (14, true) }) (v := ?v21) rfl (by kernel_rfl) (by kernel_rfl) (by kernel_rfl) (fun _ _ _ h => h) (Or.inl ⟨by rfl, ?hy21⟩) (by with_reducible assumption) ?rest21
            case hy21 => (intro wz hSw; (try dsimp only at hSw); go_simp; try with_reducible rfl)
            try simp only [Act.put, List.setIfInBounds_toArray, List.set_cons_zero, List.set_cons_succ]
            refine wpAnyH_take (i := 24) (oi := { dst := some 146, op := Op.pick (Operand.tmp 136) (Operand.tmp 145) (Operand.const (Value.bool false)), type := 4, pos := "laws.go:317", after := #[{ on := 14, ground := Ground.data }, { on := 23, ground := Ground.data }], guard := none }) (v := ?v22) rfl (by kernel_rfl) (by kernel_rfl) (by kernel_rfl) (fun _ _ _ h => h) (Or.inl ⟨by rfl, ?hy22⟩) (by with_reducible assumption) ?rest22
            case hy22 => (intro wz hSw; (try dsimp only at hSw); go_simp; try with_reducible rfl)
            try simp only [Act.put, List.setIfInBounds_toArray, List.set_cons_zero, List.set_cons_succ]
            refine wpAnyH_take (i := 25) (oi := { dst := some 147, op := Op.move (Operand.tmp 146), type := 4, pos := "laws.go:317", after := #[{ on := 24, ground := Ground.data }, { on := 21, ground := Ground.chain }], guard := none }) (v := ?v23) rfl (by kernel_rfl) (by kernel_rfl) (by kernel_rfl) (fun _ _ _ h => h) (Or.inl ⟨by rfl, ?hy23⟩) (by with_reducible assumption) ?rest23
            case hy23 => (intro wz hSw; (try dsimp only at hSw); go_simp; try with_reducible rfl)
            try simp only [Act.put, List.setIfInBounds_toArray, List.set_cons_zero, List.set_cons_succ]
            refine wpAnyH_take (i := 26) (oi := { dst := some 148, op := Op.load 25 (Operand.tmp 3), type := 25, pos := "laws.go:317", after := #[{ on := 25, ground := Ground.guard }], guard := some (25, true) }) (v := ?v24) rfl (by kernel_rfl) (by kernel_rfl) (by kernel_rfl) (fun _ _ _ h => h) (Or.inl ⟨by rfl, ?hy24⟩) (by with_reducible assumption) ?rest24
            case hy24 => (intro wz hSw; (try dsimp only at hSw); go_simp; try with_reducible rfl)
            try simp only [Act.put, List.setIfInBounds_toArray, List.set_cons_zero, List.set_cons_succ]
            refine wpAnyH_take (i := 27) (oi := { dst := some 149, op := Op.move (Operand.tmp 5), type := 23, pos := "laws.go:317", after := #[{ on := 25, ground := Ground.guard }], guard := some (25, true) }) (v := ?v25) rfl (by kernel_rfl) (by kernel_rfl) (by kernel_rfl) (fun _ _ _ h => h) (Or.inl ⟨by rfl, ?hy25⟩) (by with_reducible assumption) ?rest25
            case hy25 => (intro wz hSw; (try dsimp only at hSw); go_simp; try with_reducible rfl)
            try simp only [Act.put, List.setIfInBounds_toArray, List.set_cons_zero, List.set_cons_succ]
            refine wpAnyH_take (i := 28) (oi := { dst := some 150, op := Op.move (Operand.tmp 4), type := 3, pos := "laws.go:317", after := #[{ on := 25, ground := Ground.guard }], guard := some (25, true) }) (v := ?v26) rfl (by kernel_rfl) (by kernel_rfl) (by kernel_rfl) (fun _ _ _ h => h) (Or.inl ⟨by rfl, ?hy26⟩) (by with_reducible assumption) ?rest26
            case hy26 => (intro wz hSw; (try dsimp only at hSw); go_simp; try with_reducible rfl)
            try simp only [Act.put, List.setIfInBounds_toArray, List.set_cons_zero, List.set_cons_succ]
            refine wpAnyH_take (i := 29) (oi := { dst := some 151, op := Op.binOp BinOp.quo 3 (Operand.tmp 150) (Operand.const (Value.int IntKind.i64 2)) 3, type := 3, pos := "laws.go:317", after := #[{ on := 28, ground := Ground.data }, { on := 25, ground := Ground.guard }], guard := some (25, true) }) (v := ?v27) rfl (by kernel_rfl) (by kernel_rfl) (by kernel_rfl) (fun _ _ _ h => h) (Or.inl ⟨by rfl, ?hy27⟩) (by with_reducible assumption) ?rest27
            case hy27 => (intro wz hSw; (try dsimp only at hSw); go_simp; try with_reducible rfl)
            try simp only [Act.put, List.setIfInBounds_toArray, List.set_cons_zero, List.set_cons_succ]
            refine wpAnyH_take (i := 30) (oi := { dst := some 152, op := Op.slice 23 (Operand.tmp 149) none (some (Operand.tmp 151)) none, type := 23, pos := "laws.go:317", after := #[{ on := 27, ground := Ground.data }, { on := 29, ground := Ground.data }, { on := 25, ground := Ground.guard }], guard := some (25, true) }) (v := ?v28) rfl (by kernel_rfl) (by kernel_rfl) (by kernel_rfl) (fun _ _ _ h => h) (Or.inl ⟨by rfl, ?hy28⟩) (by with_reducible assumption) ?rest28
            case hy28 => (intro wz hSw; (try dsimp only at hSw); go_simp; try with_reducible rfl)
            try simp only [Act.put, List.setIfInBounds_toArray, List.set_cons_zero, List.set_cons_succ]
            refine wpAnyH_ready (rs := [31]) (by kernel_rfl) (by simp) ?_
            refine (AllReadyH.cons (o := { dst := some 153, op := Op.call { callee := Callee.value (Operand.func 23), args := #[Operand.tmp 148, Operand.tmp 152], argTypes := #[25, 23] }, type := 4, pos := "laws.go:317", after := #[{ on := 26, ground := Ground.data }, { on := 30, ground := Ground.data }, { on := 25, ground := Ground.chain }, { on := 25, ground := Ground.guard }], guard := some (25, true) }) rfl (fun K hK => ?_) AllReadyH.nil)
            go_simp
            go_at_call 23
            refine (DH.out _ (by with_reducible assumption)).mono ?_
            rintro e w15 ⟨rfl, hS⟩
            first
            | (refine hK.out _ _ hS (fun hHeld => ?_))
            | (go_wp2_with fail; refine hK.out _ _ hS (fun hHeld => ?_))
            clear hK K
            try simp only [Act.put, List.setIfInBounds_toArray, List.set_cons_zero, List.set_cons_succ]
            have HQ := hS.2.2.2.2.2.2.2
            have HORr := Lib.hid (HPP.out _ hS)
            have bE := Below.one w15 (.cells #[] 3)
            have bX := Below.one w15 (.cells #[.int .i64 p0] 3)
            have bEX : Below w15.heap.size w15 ((w15.alloc (.cells #[] 3)).alloc (.cells #[.int .i64 p0] 3)) := bE.alloc bE.size _
            have bXE : Below w15.heap.size w15 ((w15.alloc (.cells #[.int .i64 p0] 3)).alloc (.cells #[] 3)) := bX.alloc bX.size _
            have zX : (w15.alloc (.cells #[.int .i64 p0] 3)).heap.size = w15.heap.size + 1 := by simp
            have zE : (w15.alloc (.cells #[] 3)).heap.size = w15.heap.size + 1 := by simp
            have OA := Lib.hid (own_empty w15 w15.heap.size w15.heap.size (Nat.le_refl _) rfl)
            have OB := Lib.hid ((own_empty w15 w15.heap.size w15.heap.size (Nat.le_refl _) rfl).alloc (.cells #[.int .i64 p0] 3))
            have OC := Lib.hid (own_empty (w15.alloc (.cells #[.int .i64 p0] 3)) w15.heap.size (w15.heap.size + 1) bX.size zX)
            have RA := Lib.hid (srcU (HORr.out.below bE (Nat.le_refl _)))
            have RB := Lib.hid (srcU (HORr.out.below bEX (Nat.le_refl _)))
            have RC := Lib.hid (srcU (HORr.out.below bXE (Nat.le_refl _)))
            have BA := Lib.hid bE
            have BX := Lib.hid bX
            have BB := Lib.hid bEX
            have BC := Lib.hid bXE
            have NB0 : Hid (((w15.alloc (.cells #[] 3)).alloc (.cells #[.int .i64 p0] 3)).heap[w15.heap.size + 1]? = some (.cells #[.int .i64 p0] 3 (0, 0))) := by
              have := World.alloc_heap_new (w15.alloc (.cells #[] 3)) (.cells #[.int .i64 p0] 3)
              rw [zE] at this; exact this
            have NC0 : Hid (((w15.alloc (.cells #[.int .i64 p0] 3)).alloc (.cells #[] 3)).heap[w15.heap.size]? = some (.cells #[.int .i64 p0] 3 (0, 0))) := by
              have h1 := World.alloc_heap_new w15 (.cells #[.int .i64 p0] 3)
              have h2 : Below (w15.alloc (.cells #[.int .i64 p0] 3)).heap.size (w15.alloc (.cells #[.int .i64 p0] 3)) ((w15.alloc (.cells #[.int .i64 p0] 3)).alloc (.cells #[] 3)) := Below.one _ _
              exact (h2.block w15.heap.size (by rw [zX]; omega)).trans h1
            refine wpAnyH_take (i := 32) (oi := { dst := some 154, op := Op.pick (Operand.tmp 147) (Operand.tmp 153) (Operand.const (Value.bool false)), type := 4, pos := "laws.go:317", after := #[{ on := 25, ground := Ground.data }, { on := 31, ground := Ground.data }], guard := none }) (v := ?v29) rfl (by kernel_rfl) (by kernel_rfl) (by kernel_rfl) (fun _ _ _ h => h) (Or.inl ⟨by rfl, ?hy29⟩) (by with_reducible assumption) ?rest29
            case hy29 => (intro wz hSw; (try dsimp only at hSw); go_simp; try with_reducible rfl)
            try simp only [Act.put, List.setIfInBounds_toArray, List.set_cons_zero, List.set_cons_succ]
            refine wpAnyH_take (i := 33) (oi := { dst := some 155, op := Op.move (Operand.tmp 154), type := 4, pos := "laws.go:317", after := #[{ on := 32, ground := Ground.data }, { on := 31, ground := Ground.chain }], guard := none }) (v := ?v30) rfl (by kernel_rfl) (by kernel_rfl) (by kernel_rfl) (fun _ _ _ h => h) (Or.inl ⟨by rfl, ?hy30⟩) (by with_reducible assumption) ?rest30
            case hy30 => (intro wz hSw; (try dsimp only at hSw); go_simp; try with_reducible rfl)
            try simp only [Act.put, List.setIfInBounds_toArray, List.set_cons_zero, List.set_cons_succ]
            refine wpAnyH_take (i := 34) (oi := { dst := some 156, op := Op.load 25 (Operand.tmp 3), type := 25, pos := "laws.go:317", after := #[{ on := 33, ground := Ground.guard }], guard := some (33, true) }) (v := ?v31) rfl (by kernel_rfl) (by kernel_rfl) (by kernel_rfl) (fun _ _ _ h => h) (Or.inl ⟨by rfl, ?hy31⟩) (by with_reducible assumption) ?rest31
            case hy31 => (intro wz hSw; (try dsimp only at hSw); go_simp; try with_reducible rfl)
            try simp only [Act.put, List.setIfInBounds_toArray, List.set_cons_zero, List.set_cons_succ]
            refine wpAnyH_take (i := 36) (oi := { dst := some 158, op := Op.move (Operand.tmp 5), type := 23, pos := "laws.go:317", after := #[{ on := 33, ground := Ground.guard }], guard := some (33, true) }) (v := ?v32) rfl (by kernel_rfl) (by kernel_rfl) (by kernel_rfl) (fun _ _ _ h => h) (Or.inl ⟨by rfl, ?hy32⟩) (by with_reducible assumption) ?rest32
            case hy32 => (intro wz hSw; (try dsimp only at hSw); go_simp; try with_reducible rfl)
            try simp only [Act.put, List.setIfInBounds_toArray, List.set_cons_zero, List.set_cons_succ]
            refine wpAnyH_take (i := 38) (oi := { dst := some 160, op := Op.move (Operand.tmp 5), type := 23, pos := "laws.go:317", after := #[{ on := 33, ground := Ground.guard }], guard := some (33, true) }) (v := ?v33) rfl (by kernel_rfl) (by kernel_rfl) (by kernel_rfl) (fun _ _ _ h => h) (Or.inl ⟨by rfl, ?hy33⟩) (by with_reducible assumption) ?rest33
            case hy33 => (intro wz hSw; (try dsimp only at hSw); go_simp; try with_reducible rfl)
            try simp only [Act.put, List.setIfInBounds_toArray, List.set_cons_zero, List.set_cons_succ]
            refine wpAnyH_take (i := 39) (oi := { dst := some 161, op := Op.indexAddr 23 (Operand.tmp 160) (Operand.const (Value.int IntKind.i64 0)), type := 0, pos := "laws.go:317", after := #[{ on := 38, ground := Ground.data }, { on := 33, ground := Ground.guard }], guard := some (33, true) }) (v := ?v34) rfl (by kernel_rfl) (by kernel_rfl) (by kernel_rfl) (fun _ _ _ h => h) (Or.inl ⟨by rfl, ?hy34⟩) (by with_reducible assumption) ?rest34
            case hy34 => (intro wz hSw; (try dsimp only at hSw); go_simp; try with_reducible rfl)
            try simp only [Act.put, List.setIfInBounds_toArray, List.set_cons_zero, List.set_cons_succ]
            refine wpAnyH_take (i := 40) (oi := { dst := some 162, op := Op.load 3 (Operand.tmp 161), type := 3, pos := "laws.go:317", after := #[{ on := 39, ground := Ground.data }, { on := 33, ground := Ground.guard }], guard := some (33, true) }) (v := ?v35) rfl (by kernel_rfl) (by kernel_rfl) (by kernel_rfl) (fun _ _ _ h => h) (Or.inl ⟨by rfl, ?hy35⟩) (by with_reducible assumption) ?rest35
            case hy35 => (intro wz hSw; (try dsimp only at hSw); go_simp; try with_reducible rfl)
            try simp only [Act.put, List.setIfInBounds_toArray, List.set_cons_zero, List.set_cons_succ]
            refine wpAnyH_ready (rs := [35, 41]) (by kernel_rfl) (by simp) ?_
            refine (AllReadyH.cons (o := { dst := some 157, op := Op.buildSlice 23 0 #[], type := 23, pos := "laws.go:317", after := #[{ on := 33, ground := Ground.guard }], guard := some (33, true) }) rfl (fun K hK => ?_) (AllReadyH.cons (o := { dst := some 163, op := Op.buildSlice 23 1 #[(0, Operand.tmp 162)], type := 23, pos := "laws.go:317", after := #[{ on := 40, ground := Ground.data }, { on := 33, ground := Ground.guard }], guard := some (33, true) }) rfl (fun K hK => ?_) AllReadyH.nil))
            · go_simp
              refine hK.out _ _ (HX.out _ (below_m HQ.out BA.out)) (fun hHeld => ?_)
              clear hK K
              try simp only [Act.put, List.setIfInBounds_toArray, List.set_cons_zero, List.set_cons_succ]
              refine wpAnyH_ready (rs := [37, 41]) (by kernel_rfl) (by simp) ?_
              refine (AllReadyH.cons (o := { dst := some 159, op := Op.call { callee := Callee.builtin Builtin.append, args := #[Operand.tmp 157, Operand.tmp 158], argTypes := #[23, 23] }, type := 23, pos := "laws.go:317", after := #[{ on := 35, ground := Ground.data }, { on := 36, ground := Ground.data }, { on := 33, ground := Ground.chain }, { on := 33, ground := Ground.guard }], guard := some (33, true) }) rfl (fun K hK => ?_) (AllReadyH.cons (o := { dst := some 163, op := Op.buildSlice 23 1 #[(0, Operand.tmp 162)], type := 23, pos := "laws.go:317", after := #[{ on := 40, ground := Ground.data }, { on := 33, ground := Ground.guard }], guard := some (33, true) }) rfl (fun K hK => ?_) AllReadyH.nil))
              · refine step_append_w _ (by rfl) (.tmp 157) (.tmp 158) 23 rfl w15.heap.size 3 i0 (.int .i64 0) 1 8 Try.underlying23 hi0 hz0 hz1 hz2 rfl (by decide) (.slice (some ⟨w15.heap.size, 0, none⟩) 0 0) 0 [] rfl (by with_reducible exact OA.out) ⟨gp, 0, none⟩ i cp (PL.map iv) rfl HLP.out RA.out H1.out (by omega) (by unfold maxLen; omega) (by omega) (by simp <;> omega) _ rfl i (by omega) ?_
                intro g1 ck w3 hown3 hgrow3 hat3 hlt3
                have O1 := Lib.hid (show w3.ownsRow w15.heap.size 3 1 (.slice (some ⟨g1, 0, none⟩) i ck) i (PL.map iv) from (by simpa using hown3))
                have O1x := Lib.hid (O1.out.alloc (.cells #[.int .i64 p0] 3))
                have B3 := Lib.hid (BA.out.grown hgrow3 (by simp <;> omega) (fun k hk => by simp [Value.ownBlock] at hk; omega))
                have hz3b : w15.heap.size ≤ w3.heap.size := B3.out.size
                have B3x := Lib.hid (B3.out.alloc hz3b (.cells #[.int .i64 p0] 3))
                have NX := Lib.hid (newsU (World.alloc_heap_new w3 (.cells #[.int .i64 p0] 3)))
                clear hown3 hgrow3 hat3
                refine hK.out _ _ (HX.out _ (below_m HQ.out B3.out)) (fun hHeld => ?_)
                clear hK K
                try simp only [Act.put, List.setIfInBounds_toArray, List.set_cons_zero, List.set_cons_succ]
                refine wpAnyH_ready (rs := [41]) (by kernel_rfl) (by simp) ?_
                refine (AllReadyH.cons (o := { dst := some 163, op := Op.buildSlice 23 1 #[(0, Operand.tmp 162)], type := 23, pos := "laws.go:317", after := #[{ on := 40, ground := Ground.data }, { on := 33, ground := Ground.guard }], guard := some (33, true) }) rfl (fun K hK => ?_) AllReadyH.nil)
                go_simp
                refine hK.out _ _ (HX.out _ (below_m HQ.out B3x.out)) (fun hHeld => ?_)
                clear hK K
                try simp only [Act.put, List.setIfInBounds_toArray, List.set_cons_zero, List.set_cons_succ]
                refine wpAnyH_ready (rs := [42]) (by kernel_rfl) (by simp) ?_
                refine (AllReadyH.cons (o := { dst := some 164, op := Op.call { callee := Callee.builtin Builtin.append, args := #[Operand.tmp 159, Operand.tmp 163], argTypes := #[23, 23] }, type := 23, pos := "laws.go:317", after := #[{ on := 37, ground := Ground.data }, { on := 41, ground := Ground.data }, { on := 37, ground := Ground.chain }, { on := 33, ground := Ground.guard }], guard := some (33, true) }) rfl (fun K hK => ?_) AllReadyH.nil)
                refine step_append_w _ (by rfl) (.tmp 159) (.tmp 163) 23 rfl w15.heap.size 3 i0 (.int .i64 0) 1 8 Try.underlying23 hi0 hz0 hz1 hz2 rfl (by decide) (.slice (some ⟨g1, 0, none⟩) i ck) i (PL.map iv) rfl (by with_reducible exact O1x.out) ⟨w3.heap.size, 0, none⟩ 1 1 [.int .i64 p0] rfl rfl NX.out (by intro v hv; simp at hv; subst hv; rfl) (by omega) (by unfold maxLen; omega) (by omega) (by first | omega | (simp <;> omega)) _ rfl (i + 1) rfl ?_
                intro g2 c2 w5 hown5 hgrow5 hat5 hlt5
                have O2 : Hid (IntRow w5 (some ⟨g2, 0, none⟩) (PL ++ [p0])) := IntRow.of_ownN (l := PL ++ [p0]) (B := w15.heap.size) (N := i + 1) (cap := c2) (by rw [List.map_append]; exact hown5) (by rw [List.length_append, HPL.out]; rfl)
                have B5 := Lib.hid (B3x.out.grown hgrow5 (by first | omega | (simp <;> omega)) (fun k hk => (O1.out.lt k hk).1))
                clear hown5 hgrow5 hat5
                refine hK.out _ _ (HX.out _ (below_m HQ.out B5.out)) (fun hHeld => ?_)
                clear hK K
                try simp only [Act.put, List.setIfInBounds_toArray, List.set_cons_zero, List.set_cons_succ]
                refine wpAnyH_ready (rs := [43]) (by kernel_rfl) (by simp) ?_
                refine (AllReadyH.cons (o := { dst := some 165, op := Op.call { callee := Callee.value (Operand.func 23), args := #[Operand.tmp 156, Operand.tmp 164], argTypes := #[25, 23] }, type := 4, pos := "laws.go:317", after := #[{ on := 34, ground := Ground.data }, { on := 42, ground := Ground.data }, { on := 42, ground := Ground.chain }, { on := 33, ground := Ground.guard }], guard := some (33, true) }) rfl (fun K hK => ?_) AllReadyH.nil)
                go_simp
                refine (DN.out _ _ _ O2.out (by with_reducible assumption)).mono ?_
                rintro e wq ⟨rfl, hS⟩
                first
                | (refine hK.out _ _ hS (fun hHeld => ?_))
                | (go_wp2_with fail; refine hK.out _ _ hS (fun hHeld => ?_))
                clear hK K
                try simp only [Act.put, List.setIfInBounds_toArray, List.set_cons_zero, List.set_cons_succ]
                refine wpAnyH_take (i := 44) (oi := { dst := some 166, op := Op.unOp UnOp.not 4 (Operand.tmp 165), type := 4, pos := "laws.go:317", after := #[{ on := 43, ground := Ground.data }, { on := 33, ground := Ground.guard }], guard := some (33, true) }) (v := ?v36) rfl (by kernel_rfl) (by kernel_rfl) (by kernel_rfl) (fun _ _ _ h => h) (Or.inl ⟨by rfl, ?hy36⟩) (by with_reducible assumption) ?rest36
                case hy36 => (intro wz hSw; (try dsimp only at hSw); go_simp; try with_reducible rfl)
                try simp only [Act.put, List.setIfInBounds_toArray, List.set_cons_zero, List.set_cons_succ]
                refine wpAnyH_take (i := 45) (oi := { dst := some 167, op := Op.pick (Operand.tmp 155) (Operand.tmp 166) (Operand.const (Value.bool false)), type := 4, pos := "laws.go:317", after := #[{ on := 33, ground := Ground.data }, { on := 44, ground := Ground.data }], guard := none }) (v := ?v37) rfl (by kernel_rfl) (by kernel_rfl) (by kernel_rfl) (fun _ _ _ h => h) (Or.inl ⟨by rfl, ?hy37⟩) (by with_reducible assumption) ?rest37
                case hy37 => (intro wz hSw; (try dsimp only at hSw); go_simp; try with_reducible rfl)
                try simp only [Act.put, List.setIfInBounds_toArray, List.set_cons_zero, List.set_cons_succ]
                refine wpAnyH_take (i := 46) (oi := { dst := some 2, op := Op.assign (Operand.tmp 167), type := 4, pos := "laws.go:317", after := #[{ on := 45, ground := Ground.data }, { on := 43, ground := Ground.chain }, { on := 0, ground := Ground.phase }, { on := 1, ground := Ground.phase }, { on := 2, ground := Ground.phase }, { on := 3, ground := Ground.phase }, { on := 4, ground := Ground.phase }, { on := 5, ground := Ground.phase }, { on := 6, ground := Ground.phase }, { on := 7, ground := Ground.phase }, { on := 8, ground := Ground.phase }, { on := 9, ground := Ground.phase }, { on := 10, ground := Ground.phase }, { on := 11, ground := Ground.phase }, { on := 12, ground := Ground.phase }, { on := 13, ground := Ground.phase }, { on := 14, ground := Ground.phase }, { on := 15, ground := Ground.phase }, { on := 16, ground := Ground.phase }, { on := 17, ground := Ground.phase }, { on := 18, ground := Ground.phase }, { on := 19, ground := Ground.phase }, { on := 20, ground := Ground.phase }, { on := 21, ground := Ground.phase }, { on := 22, ground := Ground.phase }, { on := 23, ground := Ground.phase }, { on := 24, ground := Ground.phase }, { on := 25, ground := Ground.phase }, { on := 26, ground := Ground.phase }, { on := 27, ground := Ground.phase }, { on := 28, ground := Ground.phase }, { on := 29, ground := Ground.phase }, { on := 30, ground := Ground.phase }, { on := 31, ground := Ground.phase }, { on := 32, ground := Ground.phase }, { on := 33, ground := Ground.phase }, { on := 34, ground := Ground.phase }, { on := 35, ground := Ground.phase }, { on := 36, ground := Ground.phase }, { on := 37, ground := Ground.phase }, { on := 38, ground := Ground.phase }, { on := 39, ground := Ground.phase }, { on := 40, ground := Ground.phase }, { on := 41, ground := Ground.phase }, { on := 42, ground := Ground.phase }, { on := 43, ground := Ground.phase }, { on := 44, ground := Ground.phase }, { on := 45, ground := Ground.phase }], guard := none }) (v := ?v38) rfl (by kernel_rfl) (by kernel_rfl) (by kernel_rfl) (fun _ _ _ h => h) (Or.inl ⟨by rfl, ?hy38⟩) (by with_reducible assumption) ?rest38
                case hy38 => (intro wz hSw; (try dsimp only at hSw); go_simp; try with_reducible rfl)
                try simp only [Act.put, List.setIfInBounds_toArray, List.set_cons_zero, List.set_cons_succ]
                refine wpAnyH_done (by kernel_rfl) ?_ _
                refine NoPanic.normal ?_
                have HF := Lib.hid (HEND.out _ (by with_reducible assumption))
                go_wp2
                go_ret
                exact ⟨rfl, HF.out⟩
              · go_simp
                refine hK.out _ _ (HX.out _ (below_m HQ.out BB.out)) (fun hHeld => ?_)
                clear hK K
                try simp only [Act.put, List.setIfInBounds_toArray, List.set_cons_zero, List.set_cons_succ]
                refine wpAnyH_ready (rs := [37]) (by kernel_rfl) (by simp) ?_
                refine (AllReadyH.cons (o := { dst := some 159, op := Op.call { callee := Callee.builtin Builtin.append, args := #[Operand.tmp 157, Operand.tmp 158], argTypes := #[23, 23] }, type := 23, pos := "laws.go:317", after := #[{ on := 35, ground := Ground.data }, { on := 36, ground := Ground.data }, { on := 33, ground := Ground.chain }, { on := 33, ground := Ground.guard }], guard := some (33, true) }) rfl (fun K hK => ?_) AllReadyH.nil)
                refine step_append_w _ (by rfl) (.tmp 157) (.tmp 158) 23 rfl w15.heap.size 3 i0 (.int .i64 0) 1 8 Try.underlying23 hi0 hz0 hz1 hz2 rfl (by decide) (.slice (some ⟨w15.heap.size, 0, none⟩) 0 0) 0 [] rfl (by with_reducible exact OB.out) ⟨gp, 0, none⟩ i cp (PL.map iv) rfl HLP.out RB.out H1.out (by omega) (by unfold maxLen; omega) (by omega) (by simp <;> omega) _ rfl i (by omega) ?_
                intro g1 ck w3 hown3 hgrow3 hat3 hlt3
                have O1 := Lib.hid (show w3.ownsRow w15.heap.size 3 1 (.slice (some ⟨g1, 0, none⟩) i ck) i (PL.map iv) from (by simpa using hown3))
                have O1x := Lib.hid (O1.out.alloc (.cells #[.int .i64 p0] 3))
                have B3 := Lib.hid (BB.out.grown hgrow3 (by simp <;> omega) (fun k hk => by simp [Value.ownBlock] at hk; omega))
                have hz3b : w15.heap.size ≤ w3.heap.size := B3.out.size
                have B3x := Lib.hid (B3.out.alloc hz3b (.cells #[.int .i64 p0] 3))
                have NX := Lib.hid (newsU (World.alloc_heap_new w3 (.cells #[.int .i64 p0] 3)))
                have NB := Lib.hid (newsU ((hgrow3.block (w15.heap.size + 1) (Array.getElem?_eq_some_iff.1 NB0.out).1 (by simp [Value.ownBlock] <;> omega)).trans NB0.out))
                clear hown3 hgrow3 hat3
                refine hK.out _ _ (HX.out _ (below_m HQ.out B3.out)) (fun hHeld => ?_)
                clear hK K
                try simp only [Act.put, List.setIfInBounds_toArray, List.set_cons_zero, List.set_cons_succ]
                refine wpAnyH_ready (rs := [42]) (by kernel_rfl) (by simp) ?_
                refine (AllReadyH.cons (o := { dst := some 164, op := Op.call { callee := Callee.builtin Builtin.append, args := #[Operand.tmp 159, Operand.tmp 163], argTypes := #[23, 23] }, type := 23, pos := "laws.go:317", after := #[{ on := 37, ground := Ground.data }, { on := 41, ground := Ground.data }, { on := 37, ground := Ground.chain }, { on := 33, ground := Ground.guard }], guard := some (33, true) }) rfl (fun K hK => ?_) AllReadyH.nil)
                refine step_append_w _ (by rfl) (.tmp 159) (.tmp 163) 23 rfl w15.heap.size 3 i0 (.int .i64 0) 1 8 Try.underlying23 hi0 hz0 hz1 hz2 rfl (by decide) (.slice (some ⟨g1, 0, none⟩) i ck) i (PL.map iv) rfl (by with_reducible exact O1.out) ⟨w15.heap.size + 1, 0, none⟩ 1 1 [.int .i64 p0] rfl rfl NB.out (by intro v hv; simp at hv; subst hv; rfl) (by omega) (by unfold maxLen; omega) (by omega) (by first | omega | (simp <;> omega)) _ rfl (i + 1) rfl ?_
                intro g2 c2 w5 hown5 hgrow5 hat5 hlt5
                have O2 : Hid (IntRow w5 (some ⟨g2, 0, none⟩) (PL ++ [p0])) := IntRow.of_ownN (l := PL ++ [p0]) (B := w15.heap.size) (N := i + 1) (cap := c2) (by rw [List.map_append]; exact hown5) (by rw [List.length_append, HPL.out]; rfl)
                have B5 := Lib.hid (B3.out.grown hgrow5 (by first | omega | (simp <;> omega)) (fun k hk => (O1.out.lt k hk).1))
                clear hown5 hgrow5 hat5
                refine hK.out _ _ (HX.out _ (below_m HQ.out B5.out)) (fun hHeld => ?_)
                clear hK K
                try simp only [Act.put, List.setIfInBounds_toArray, List.set_cons_zero, List.set_cons_succ]
                refine wpAnyH_ready (rs := [43]) (by kernel_rfl) (by simp) ?_
                refine (AllReadyH.cons (o := { dst := some 165, op := Op.call { callee := Callee.value (Operand.func 23), args := #[Operand.tmp 156, Operand.tmp 164], argTypes := #[25, 23] }, type := 4, pos := "laws.go:317", after := #[{ on := 34, ground := Ground.data }, { on := 42, ground := Ground.data }, { on := 42, ground := Ground.chain }, { on := 33, ground := Ground.guard }], guard := some (33, true) }) rfl (fun K hK => ?_) AllReadyH.nil)
                go_simp
                refine (DN.out _ _ _ O2.out (by with_reducible assumption)).mono ?_
                rintro e wq ⟨rfl, hS⟩
                first
                | (refine hK.out _ _ hS (fun hHeld => ?_))
                | (go_wp2_with fail; refine hK.out _ _ hS (fun hHeld => ?_))
                clear hK K
                try simp only [Act.put, List.setIfInBounds_toArray, List.set_cons_zero, List.set_cons_succ]
                refine wpAnyH_take (i := 44) (oi := { dst := some 166, op := Op.unOp UnOp.not 4 (Operand.tmp 165), type := 4, pos := "laws.go:317", after := #[{ on := 43, ground := Ground.data }, { on := 33, ground := Ground.guard }], guard := some (33, true) }) (v := ?v39) rfl (by kernel_rfl) (by kernel_rfl) (by kernel_rfl) (fun _ _ _ h => h) (Or.inl ⟨by rfl, ?hy39⟩) (by with_reducible assumption) ?rest39
                case hy39 => (intro wz hSw; (try dsimp only at hSw); go_simp; try with_reducible rfl)
                try simp only [Act.put, List.setIfInBounds_toArray, List.set_cons_zero, List.set_cons_succ]
                refine wpAnyH_take (i := 45) (oi := { dst := some 167, op := Op.pick (Operand.tmp 155) (Operand.tmp 166) (Operand.const (Value.bool false)), type := 4, pos := "laws.go:317", after := #[{ on := 33, ground := Ground.data }, { on := 44, ground := Ground.data }], guard := none }) (v := ?v40) rfl (by kernel_rfl) (by kernel_rfl) (by kernel_rfl) (fun _ _ _ h => h) (Or.inl ⟨by rfl, ?hy40⟩) (by with_reducible assumption) ?rest40
                case hy40 => (intro wz hSw; (try dsimp only at hSw); go_simp; try with_reducible rfl)
                try simp only [Act.put, List.setIfInBounds_toArray, List.set_cons_zero, List.set_cons_succ]
                refine wpAnyH_take (i := 46) (oi := { dst := some 2, op := Op.assign (Operand.tmp 167), type := 4, pos := "laws.go:317", after := #[{ on := 45, ground := Ground.data }, { on := 43, ground := Ground.chain }, { on := 0, ground := Ground.phase }, { on := 1, ground := Ground.phase }, { on := 2, ground := Ground.phase }, { on := 3, ground := Ground.phase }, { on := 4, ground := Ground.phase }, { on := 5, ground := Ground.phase }, { on := 6, ground := Ground.phase }, { on := 7, ground := Ground.phase }, { on := 8, ground := Ground.phase }, { on := 9, ground := Ground.phase }, { on := 10, ground := Ground.phase }, { on := 11, ground := Ground.phase }, { on := 12, ground := Ground.phase }, { on := 13, ground := Ground.phase }, { on := 14, ground := Ground.phase }, { on := 15, ground := Ground.phase }, { on := 16, ground := Ground.phase }, { on := 17, ground := Ground.phase }, { on := 18, ground := Ground.phase }, { on := 19, ground := Ground.phase }, { on := 20, ground := Ground.phase }, { on := 21, ground := Ground.phase }, { on := 22, ground := Ground.phase }, { on := 23, ground := Ground.phase }, { on := 24, ground := Ground.phase }, { on := 25, ground := Ground.phase }, { on := 26, ground := Ground.phase }, { on := 27, ground := Ground.phase }, { on := 28, ground := Ground.phase }, { on := 29, ground := Ground.phase }, { on := 30, ground := Ground.phase }, { on := 31, ground := Ground.phase }, { on := 32, ground := Ground.phase }, { on := 33, ground := Ground.phase }, { on := 34, ground := Ground.phase }, { on := 35, ground := Ground.phase }, { on := 36, ground := Ground.phase }, { on := 37, ground := Ground.phase }, { on := 38, ground := Ground.phase }, { on := 39, ground := Ground.phase }, { on := 40, ground := Ground.phase }, { on := 41, ground := Ground.phase }, { on := 42, ground := Ground.phase }, { on := 43, ground := Ground.phase }, { on := 44, ground := Ground.phase }, { on := 45, ground := Ground.phase }], guard := none }) (v := ?v41) rfl (by kernel_rfl) (by kernel_rfl) (by kernel_rfl) (fun _ _ _ h => h) (Or.inl ⟨by rfl, ?hy41⟩) (by with_reducible assumption) ?rest41
                case hy41 => (intro wz hSw; (try dsimp only at hSw); go_simp; try with_reducible rfl)
                try simp only [Act.put, List.setIfInBounds_toArray, List.set_cons_zero, List.set_cons_succ]
                refine wpAnyH_done (by kernel_rfl) ?_ _
                refine NoPanic.normal ?_
                have HF := Lib.hid (HEND.out _ (by with_reducible assumption))
                go_wp2
                go_ret
                exact ⟨rfl, HF.out⟩
            · go_simp
              refine hK.out _ _ (HX.out _ (below_m HQ.out BX.out)) (fun hHeld => ?_)
              clear hK K
              try simp only [Act.put, List.setIfInBounds_toArray, List.set_cons_zero, List.set_cons_succ]
              refine wpAnyH_ready (rs := [35]) (by kernel_rfl) (by simp) ?_
              refine (AllReadyH.cons (o := { dst := some 157, op := Op.buildSlice 23 0 #[], type := 23, pos := "laws.go:317", after := #[{ on := 33, ground := Ground.guard }], guard := some (33, true) }) rfl (fun K hK => ?_) AllReadyH.nil)
              go_simp
              refine hK.out _ _ (HX.out _ (below_m HQ.out BC.out)) (fun hHeld => ?_)
              clear hK K
              try simp only [Act.put, List.setIfInBounds_toArray, List.set_cons_zero, List.set_cons_succ]
              refine wpAnyH_ready (rs := [37]) (by kernel_rfl) (by simp) ?_
              refine (AllReadyH.cons (o := { dst := some 159, op := Op.call { callee := Callee.builtin Builtin.append, args := #[Operand.tmp 157, Operand.tmp 158], argTypes := #[23, 23] }, type := 23, pos := "laws.go:317", after := #[{ on := 35, ground := Ground.data }, { on := 36, ground := Ground.data }, { on := 33, ground := Ground.chain }, { on := 33, ground := Ground.guard }], guard := some (33, true) }) rfl (fun K hK => ?_) AllReadyH.nil)
              refine step_append_w _ (by rfl) (.tmp 157) (.tmp 158) 23 rfl w15.heap.size 3 i0 (.int .i64 0) 1 8 Try.underlying23 hi0 hz0 hz1 hz2 rfl (by decide) (.slice (some ⟨w15.heap.size + 1, 0, none⟩) 0 0) 0 [] rfl (by with_reducible exact OC.out) ⟨gp, 0, none⟩ i cp (PL.map iv) rfl HLP.out RC.out H1.out (by omega) (by unfold maxLen; omega) (by omega) (by simp <;> omega) _ rfl i (by omega) ?_
              intro g1 ck w3 hown3 hgrow3 hat3 hlt3
              have O1 := Lib.hid (show w3.ownsRow w15.heap.size 3 1 (.slice (some ⟨g1, 0, none⟩) i ck) i (PL.map iv) from (by simpa using hown3))
              have O1x := Lib.hid (O1.out.alloc (.cells #[.int .i64 p0] 3))
              have B3 := Lib.hid (BC.out.grown hgrow3 (by simp <;> omega) (fun k hk => by simp [Value.ownBlock] at hk; omega))
              have hz3b : w15.heap.size ≤ w3.heap.size := B3.out.size
              have B3x := Lib.hid (B3.out.alloc hz3b (.cells #[.int .i64 p0] 3))
              have NX := Lib.hid (newsU (World.alloc_heap_new w3 (.cells #[.int .i64 p0] 3)))
              have NC := Lib.hid (newsU ((hgrow3.block w15.heap.size (Array.getElem?_eq_some_iff.1 NC0.out).1 (by simp [Value.ownBlock] <;> omega)).trans NC0.out))
              clear hown3 hgrow3 hat3
              refine hK.out _ _ (HX.out _ (below_m HQ.out B3.out)) (fun hHeld => ?_)
              clear hK K
              try simp only [Act.put, List.setIfInBounds_toArray, List.set_cons_zero, List.set_cons_succ]
              refine wpAnyH_ready (rs := [42]) (by kernel_rfl) (by simp) ?_
              refine (AllReadyH.cons (o := { dst := some 164, op := Op.call { callee := Callee.builtin Builtin.append, args := #[Operand.tmp 159, Operand.tmp 163], argTypes := #[23, 23] }, type := 23, pos := "laws.go:317", after := #[{ on := 37, ground := Ground.data }, { on := 41, ground := Ground.data }, { on := 37, ground := Ground.chain }, { on := 33, ground := Ground.guard }], guard := some (33, true) }) rfl (fun K hK => ?_) AllReadyH.nil)
              refine step_append_w _ (by rfl) (.tmp 159) (.tmp 163) 23 rfl w15.heap.size 3 i0 (.int .i64 0) 1 8 Try.underlying23 hi0 hz0 hz1 hz2 rfl (by decide) (.slice (some ⟨g1, 0, none⟩) i ck) i (PL.map iv) rfl (by with_reducible exact O1.out) ⟨w15.heap.size, 0, none⟩ 1 1 [.int .i64 p0] rfl rfl NC.out (by intro v hv; simp at hv; subst hv; rfl) (by omega) (by unfold maxLen; omega) (by omega) (by first | omega | (simp <;> omega)) _ rfl (i + 1) rfl ?_
              intro g2 c2 w5 hown5 hgrow5 hat5 hlt5
              have O2 : Hid (IntRow w5 (some ⟨g2, 0, none⟩) (PL ++ [p0])) := IntRow.of_ownN (l := PL ++ [p0]) (B := w15.heap.size) (N := i + 1) (cap := c2) (by rw [List.map_append]; exact hown5) (by rw [List.length_append, HPL.out]; rfl)
              have B5 := Lib.hid (B3.out.grown hgrow5 (by first | omega | (simp <;> omega)) (fun k hk => (O1.out.lt k hk).1))
              clear hown5 hgrow5 hat5
              refine hK.out _ _ (HX.out _ (below_m HQ.out B5.out)) (fun hHeld => ?_)
              clear hK K
              try simp only [Act.put, List.setIfInBounds_toArray, List.set_cons_zero, List.set_cons_succ]
              refine wpAnyH_ready (rs := [43]) (by kernel_rfl) (by simp) ?_
              refine (AllReadyH.cons (o := { dst := some 165, op := Op.call { callee := Callee.value (Operand.func 23), args := #[Operand.tmp 156, Operand.tmp 164], argTypes := #[25, 23] }, type := 4, pos := "laws.go:317", after := #[{ on := 34, ground := Ground.data }, { on := 42, ground := Ground.data }, { on := 42, ground := Ground.chain }, { on := 33, ground := Ground.guard }], guard := some (33, true) }) rfl (fun K hK => ?_) AllReadyH.nil)
              go_simp
              refine (DN.out _ _ _ O2.out (by with_reducible assumption)).mono ?_
              rintro e wq ⟨rfl, hS⟩
              first
              | (refine hK.out _ _ hS (fun hHeld => ?_))
              | (go_wp2_with fail; refine hK.out _ _ hS (fun hHeld => ?_))
              clear hK K
              try simp only [Act.put, List.setIfInBounds_toArray, List.set_cons_zero, List.set_cons_succ]
              refine wpAnyH_take (i := 44) (oi := { dst := some 166, op := Op.unOp UnOp.not 4 (Operand.tmp 165), type := 4, pos := "laws.go:317", after := #[{ on := 43, ground := Ground.data }, { on := 33, ground := Ground.guard }], guard := some (33, true) }) (v := ?v42) rfl (by kernel_rfl) (by kernel_rfl) (by kernel_rfl) (fun _ _ _ h => h) (Or.inl ⟨by rfl, ?hy42⟩) (by with_reducible assumption) ?rest42
              case hy42 => (intro wz hSw; (try dsimp only at hSw); go_simp; try with_reducible rfl)
              try simp only [Act.put, List.setIfInBounds_toArray, List.set_cons_zero, List.set_cons_succ]
              refine wpAnyH_take (i := 45) (oi := { dst := some 167, op := Op.pick (Operand.tmp 155) (Operand.tmp 166) (Operand.const (Value.bool false)), type := 4, pos := "laws.go:317", after := #[{ on := 33, ground := Ground.data }, { on := 44, ground := Ground.data }], guard := none }) (v := ?v43) rfl (by kernel_rfl) (by kernel_rfl) (by kernel_rfl) (fun _ _ _ h => h) (Or.inl ⟨by rfl, ?hy43⟩) (by with_reducible assumption) ?rest43
              case hy43 => (intro wz hSw; (try dsimp only at hSw); go_simp; try with_reducible rfl)
              try simp only [Act.put, List.setIfInBounds_toArray, List.set_cons_zero, List.set_cons_succ]
              refine wpAnyH_take (i := 46) (oi := { dst := some 2, op := Op.assign (Operand.tmp 167), type := 4, pos := "laws.go:317", after := #[{ on := 45, ground := Ground.data }, { on := 43, ground := Ground.chain }, { on := 0, ground := Ground.phase }, { on := 1, ground := Ground.phase }, { on := 2, ground := Ground.phase }, { on := 3, ground := Ground.phase }, { on := 4, ground := Ground.phase }, { on := 5, ground := Ground.phase }, { on := 6, ground := Ground.phase }, { on := 7, ground := Ground.phase }, { on := 8, ground := Ground.phase }, { on := 9, ground := Ground.phase }, { on := 10, ground := Ground.phase }, { on := 11, ground := Ground.phase }, { on := 12, ground := Ground.phase }, { on := 13, ground := Ground.phase }, { on := 14, ground := Ground.phase }, { on := 15, ground := Ground.phase }, { on := 16, ground := Ground.phase }, { on := 17, ground := Ground.phase }, { on := 18, ground := Ground.phase }, { on := 19, ground := Ground.phase }, { on := 20, ground := Ground.phase }, { on := 21, ground := Ground.phase }, { on := 22, ground := Ground.phase }, { on := 23, ground := Ground.phase }, { on := 24, ground := Ground.phase }, { on := 25, ground := Ground.phase }, { on := 26, ground := Ground.phase }, { on := 27, ground := Ground.phase }, { on := 28, ground := Ground.phase }, { on := 29, ground := Ground.phase }, { on := 30, ground := Ground.phase }, { on := 31, ground := Ground.phase }, { on := 32, ground := Ground.phase }, { on := 33, ground := Ground.phase }, { on := 34, ground := Ground.phase }, { on := 35, ground := Ground.phase }, { on := 36, ground := Ground.phase }, { on := 37, ground := Ground.phase }, { on := 38, ground := Ground.phase }, { on := 39, ground := Ground.phase }, { on := 40, ground := Ground.phase }, { on := 41, ground := Ground.phase }, { on := 42, ground := Ground.phase }, { on := 43, ground := Ground.phase }, { on := 44, ground := Ground.phase }, { on := 45, ground := Ground.phase }], guard := none }) (v := ?v44) rfl (by kernel_rfl) (by kernel_rfl) (by kernel_rfl) (fun _ _ _ h => h) (Or.inl ⟨by rfl, ?hy44⟩) (by with_reducible assumption) ?rest44
              case hy44 => (intro wz hSw; (try dsimp only at hSw); go_simp; try with_reducible rfl)
              try simp only [Act.put, List.setIfInBounds_toArray, List.set_cons_zero, List.set_cons_succ]
              refine wpAnyH_done (by kernel_rfl) ?_ _
              refine NoPanic.normal ?_
              have HF := Lib.hid (HEND.out _ (by with_reducible assumption))
              go_wp2
              go_ret
              exact ⟨rfl, HF.out⟩
          · have h3d : decide ((i : Int) < 3) = false := decide_eq_false h3
            refine wp_region_noPanic ?_
            refine wp_region_held_drew (S := (fun W' => W'.cell? ⟨pt, 0, none⟩ = some (.int .i64 (i : Int)) ∧ W'.cell? ⟨pt, 1, none⟩ = some (.slice at' i ct) ∧ W'.cell? ⟨pu, 0, none⟩ = some (.int .i64 (i : Int)) ∧ W'.cell? ⟨pu, 1, none⟩ = some (.slice au i cu) ∧ W'.cell? ⟨pr, 0, none⟩ = some (.int .i64 (i : Int)) ∧ W'.cell? ⟨pr, 1, none⟩ = some (.slice ar i cr) ∧ W'.cell? ⟨gp, 0, none⟩ = some (.int .i64 p0) ∧ Hid (Below w12.heap.size w12 W'))) (by kernel_rfl) (HX.out _ HB0.out) (fun hHeld => ?_)
            refine wpAnyH_take (i := 0) (oi := { dst := some 122, op := Op.move (Operand.tmp 15), type := 3, pos := "laws.go:317", after := #[], guard := none }) (v := ?v1b) rfl (by kernel_rfl) (by kernel_rfl) (by kernel_rfl) (fun _ _ _ h => h) (Or.inl ⟨by rfl, ?hy1b⟩) (by with_reducible assumption) ?rest1b
            case hy1b => (intro wz hSw; (try dsimp only at hSw); go_simp; try with_reducible rfl)
            try simp only [Act.put, List.setIfInBounds_toArray, List.set_cons_zero, List.set_cons_succ]
            refine wpAnyH_take (i := 1) (oi := { dst := some 123, op := Op.binOp BinOp.geq 3 (Operand.tmp 122) (Operand.const (Value.int IntKind.i64 0)) 3, type := 4, pos := "laws.go:317", after := #[{ on := 0, ground := Ground.data }], guard := none }) (v := ?v2b) rfl (by kernel_rfl) (by kernel_rfl) (by kernel_rfl) (fun _ _ _ h => h) (Or.inl ⟨by rfl, ?hy2b⟩) (by with_reducible assumption) ?rest2b
            case hy2b => (intro wz hSw; (try dsimp only at hSw); go_simp; try with_reducible rfl)
            try simp only [Act.put, List.setIfInBounds_toArray, List.set_cons_zero, List.set_cons_succ]
            refine wpAnyH_take (i := 2) (oi := { dst := some 124, op := Op.move (Operand.tmp 123), type := 4, pos := "laws.go:317", after := #[{ on := 1, ground := Ground.data }], guard := none }) (v := ?v3b) rfl (by kernel_rfl) (by kernel_rfl) (by kernel_rfl) (fun _ _ _ h => h) (Or.inl ⟨by rfl, ?hy3b⟩) (by with_reducible assumption) ?rest3b
            case hy3b => (intro wz hSw; (try dsimp only at hSw); go_simp; try with_reducible rfl)
            try simp only [Act.put, List.setIfInBounds_toArray, List.set_cons_zero, List.set_cons_succ]
            refine wpAnyH_take (i := 3) (oi := { dst := some 125, op := Op.move (Operand.tmp 15), type := 3, pos := "laws.go:317", after := #[{ on := 2, ground := Ground.guard }], guard := some (2, true) }) (v := ?v4b) rfl (by kernel_rfl) (by kernel_rfl) (by kernel_rfl) (fun _ _ _ h => h) (Or.inl ⟨by rfl, ?hy4b⟩) (by with_reducible assumption) ?rest4b
            case hy4b => (intro wz hSw; (try dsimp only at hSw); go_simp; try with_reducible rfl)
            try simp only [Act.put, List.setIfInBounds_toArray, List.set_cons_zero, List.set_cons_succ]
            refine wpAnyH_take (i := 4) (oi := { dst := some 126, op := Op.load 25 (Operand.tmp 11), type := 25, pos := "laws.go:317", after := #[{ on := 2, ground := Ground.guard }], guard := some (2, true) }) (v := ?v5b) rfl (by kernel_rfl) (by kernel_rfl) (by kernel_rfl) (fun _ _ _ h => h) (Or.inl ⟨by rfl, ?hy5b⟩) (by with_reducible assumption) ?rest5b
            case hy5b => (intro wz hSw; (try dsimp only at hSw); go_simp; try with_reducible rfl)
            try simp only [Act.put, List.setIfInBounds_toArray, List.set_cons_zero, List.set_cons_succ]
            refine wpAnyH_ready (rs := [5]) (by kernel_rfl) (by simp) ?_
            refine (AllReadyH.cons (o := { dst := some 127, op := Op.call { callee := Callee.value (Operand.func 25), args := #[Operand.tmp 126], argTypes := #[25] }, type := 3, pos := "laws.go:317", after := #[{ on := 4, ground := Ground.data }, { on := 2, ground := Ground.chain }, { on := 2, ground := Ground.guard }], guard := some (2, true) }) rfl (fun K hK => ?_) AllReadyH.nil)
            go_simp
            go_at_call 25
            refine (DC.out _ _ _ (by first | exact .inl ⟨rfl, rfl⟩ | exact .inr ⟨rfl, rfl⟩) (by with_reducible assumption)).mono ?_
            rintro e wq ⟨rfl, hS⟩
            first
            | (refine hK.out _ _ hS (fun hHeld => ?_))
            | (go_wp2_with fail; refine hK.out _ _ hS (fun hHeld => ?_))
            clear hK K
            try simp only [Act.put, List.setIfInBounds_toArray, List.set_cons_zero, List.set_cons_succ]
            refine wpAnyH_take (i := 6) (oi := { dst := some 128, op := Op.binOp BinOp.eql 3 (Operand.tmp 125) (Operand.tmp 127) 3, type := 4, pos := "laws.go:317", after := #[{ on := 3, ground := Ground.data }, { on := 5, ground := Ground.data }, { on := 2, ground := Ground.guard }], guard := some (2, true) }) (v := ?v6b) rfl (by kernel_rfl) (by kernel_rfl) (by kernel_rfl) (fun _ _ _ h => h) (Or.inl ⟨by rfl, ?hy6b⟩) (by with_reducible assumption) ?rest6b
            case hy6b => (intro wz hSw; (try dsimp only at hSw); go_simp; try with_reducible rfl)
            try simp only [Act.put, List.setIfInBounds_toArray, List.set_cons_zero, List.set_cons_succ]
            refine wpAnyH_take (i := 7) (oi := { dst := some 129, op := Op.pick (Operand.tmp 124) (Operand.tmp 128) (Operand.const (Value.bool false)), type := 4, pos := "laws.go:317", after := #[{ on := 2, ground := Ground.data }, { on := 6, ground := Ground.data }], guard := none }) (v := ?v7b) rfl (by kernel_rfl) (by kernel_rfl) (by kernel_rfl) (fun _ _ _ h => h) (Or.inl ⟨by rfl, ?hy7b⟩) (by with_reducible assumption) ?rest7b
            case hy7b => (intro wz hSw; (try dsimp only at hSw); go_simp; try with_reducible rfl)
            try simp only [Act.put, List.setIfInBounds_toArray, List.set_cons_zero, List.set_cons_succ]
            refine wpAnyH_take (i := 8) (oi := { dst := some 130, op := Op.move (Operand.tmp 129), type := 4, pos := "laws.go:317", after := #[{ on := 7, ground := Ground.data }, { on := 5, ground := Ground.chain }], guard := none }) (v := ?v8b) rfl (by kernel_rfl) (by kernel_rfl) (by kernel_rfl) (fun _ _ _ h => h) (Or.inl ⟨by rfl, ?hy8b⟩) (by with_reducible assumption) ?rest8b
            case hy8b => (intro wz hSw; (try dsimp only at hSw); go_simp; try with_reducible rfl)
            try simp only [Act.put, List.setIfInBounds_toArray, List.set_cons_zero, List.set_cons_succ]
            refine wpAnyH_take (i := 9) (oi := { dst := some 131, op := Op.move (Operand.tmp 15), type := 3, pos := "laws.go:317", after := #[{ on := 8, ground := Ground.guard }], guard := some (8, true) }) (v := ?v9b) rfl (by kernel_rfl) (by kernel_rfl) (by kernel_rfl) (fun _ _ _ h => h) (Or.inl ⟨by rfl, ?hy9b⟩) (by with_reducible assumption) ?rest9b
            case hy9b => (intro wz hSw; (try dsimp only at hSw); go_simp; try with_reducible rfl)
            try simp only [Act.put, List.setIfInBounds_toArray, List.set_cons_zero, List.set_cons_succ]
            refine wpAnyH_take (i := 10) (oi := { dst := some 132, op := Op.load 25 (Operand.tmp 13), type := 25, pos := "laws.go:317", after := #[{ on := 8, ground := Ground.guard }], guard := some (8, true) }) (v := ?v10b) rfl (by kernel_rfl) (by kernel_rfl) (by kernel_rfl) (fun _ _ _ h => h) (Or.inl ⟨by rfl, ?hy10b⟩) (by with_reducible assumption) ?rest10b
            case hy10b => (intro wz hSw; (try dsimp only at hSw); go_simp; try with_reducible rfl)
            try simp only [Act.put, List.setIfInBounds_toArray, List.set_cons_zero, List.set_cons_succ]
            refine wpAnyH_ready (rs := [11]) (by kernel_rfl) (by simp) ?_
            refine (AllReadyH.cons (o := { dst := some 133, op := Op.call { callee := Callee.value (Operand.func 25), args := #[Operand.tmp 132], argTypes := #[25] }, type := 3, pos := "laws.go:317", after := #[{ on := 10, ground := Ground.data }, { on := 8, ground := Ground.chain }, { on := 8, ground := Ground.guard }], guard := some (8, true) }) rfl (fun K hK => ?_) AllReadyH.nil)
            go_simp
            go_at_call 25
            refine (DC.out _ _ _ (by first | exact .inl ⟨rfl, rfl⟩ | exact .inr ⟨rfl, rfl⟩) (by with_reducible assumption)).mono ?_
            rintro e wq ⟨rfl, hS⟩
            first
            | (refine hK.out _ _ hS (fun hHeld => ?_))
            | (go_wp2_with fail; refine hK.out _ _ hS (fun hHeld => ?_))
            clear hK K
            try simp only [Act.put, List.setIfInBounds_toArray, List.set_cons_zero, List.set_cons_succ]
            refine wpAnyH_take (i := 12) (oi := { dst := some 134, op := Op.binOp BinOp.eql 3 (Operand.tmp 131) (Operand.tmp 133) 3, type := 4, pos := "laws.go:317", after := #[{ on := 9, ground := Ground.data }, { on := 11, ground := Ground.data }, { on := 8, ground := Ground.guard }], guard := some (8, true) }) (v := ?v11b) rfl (by kernel_rfl) (by kernel_rfl) (by kernel_rfl) (fun _ _ _ h => h) (Or.inl ⟨by rfl, ?hy11b⟩) (by with_reducible assumption) ?rest11b
            case hy11b => (intro wz hSw; (try dsimp only at hSw); go_simp; try with_reducible rfl)
            try simp only [Act.put, List.setIfInBounds_toArray, List.set_cons_zero, List.set_cons_succ]
            refine wpAnyH_take (i := 13) (oi := { dst := some 135, op := Op.pick (Operand.tmp 130) (Operand.tmp 134) (Operand.const (Value.bool false)), type := 4, pos := "laws.go:317", after := #[{ on := 8, ground := Ground.data }, { on := 12, ground := Ground.data }], guard := none }) (v := ?v12b) rfl (by kernel_rfl) (by kernel_rfl) (by kernel_rfl) (fun _ _ _ h => h) (Or.inl ⟨by rfl, ?hy12b⟩) (by with_reducible assumption) ?rest12b
            case hy12b => (intro wz hSw; (try dsimp only at hSw); go_simp; try with_reducible rfl)
            try simp only [Act.put, List.setIfInBounds_toArray, List.set_cons_zero, List.set_cons_succ]
            refine wpAnyH_take (i := 14) (oi := { dst := some 136, op := Op.move (Operand.tmp 135), type := 4, pos := "laws.go:317", after := #[{ on := 13, ground := Ground.data }, { on := 11, ground := Ground.chain }], guard := none }) (v := ?v13b) rfl (by kernel_rfl) (by kernel_rfl) (by kernel_rfl) (fun _ _ _ h => h) (Or.inl ⟨by rfl, ?hy13b⟩) (by with_reducible assumption) ?rest13b
            case hy13b => (intro wz hSw; (try dsimp only at hSw); go_simp; try with_reducible rfl)
            try simp only [Act.put, List.setIfInBounds_toArray, List.set_cons_zero, List.set_cons_succ]
            refine wpAnyH_take (i := 15) (oi := { dst := some 137, op := Op.move (Operand.tmp 4), type := 3, pos := "laws.go:317", after := #[{ on := 14, ground := Ground.guard }], guard := some (14, true) }) (v := ?v14b) rfl (by kernel_rfl) (by kernel_rfl) (by kernel_rfl) (fun _ _ _ h => h) (Or.inl ⟨by rfl, ?hy14b⟩) (by with_reducible assumption) ?rest14b
            case hy14b => (intro wz hSw; (try dsimp only at hSw); go_simp; try with_reducible rfl)
            try simp only [Act.put, List.setIfInBounds_toArray, List.set_cons_zero, List.set_cons_succ]
            refine wpAnyH_take (i := 16) (oi := { dst := some 138, op := Op.binOp BinOp.lss 3 (Operand.tmp 137) (Operand.const (Value.int IntKind.i64 3)) 3, type := 4, pos := "laws.go:317", after := #[{ on := 15, ground := Ground.data }, { on := 14, ground := Ground.guard }], guard := some (14, true) }) (v := ?v15b) rfl (by kernel_rfl) (by kernel_rfl) (by kernel_rfl) (fun _ _ _ h => h) (Or.inl ⟨by rfl, ?hy15b⟩) (by with_reducible assumption) ?rest15b
            case hy15b => (intro wz hSw; (try dsimp only at hSw); go_simp; try with_reducible rfl)
            try simp only [Act.put, List.setIfInBounds_toArray, List.set_cons_zero, List.set_cons_succ]
            refine wpAnyH_take (i := 17) (oi := { dst := some 139, op := Op.move (Operand.tmp 138), type := 4, pos := "laws.go:317", after := #[{ on := 16, ground := Ground.data }, { on := 14, ground := Ground.chain }, { on := 14, ground := Ground.guard }], guard := some (14, true) }) (v := ?v16b) rfl (by kernel_rfl) (by kernel_rfl) (by kernel_rfl) (fun _ _ _ h => h) (Or.inl ⟨by rfl, ?hy16b⟩) (by with_reducible assumption) ?rest16b
            case hy16b => (intro wz hSw; (try dsimp only at hSw); go_simp; try with_reducible rfl)
            try simp only [Act.put, List.setIfInBounds_toArray, List.set_cons_zero, List.set_cons_succ]
            refine wpAnyH_take (i := 18) (oi := { dst := some 140, op := Op.move (Operand.tmp 15), type := 3, pos := "laws.go:317", after := #[{ on := 17, ground := Ground.guard }], guard := some (17, false) }) (v := ?v17b) rfl (by kernel_rfl) (by kernel_rfl) (by kernel_rfl) (fun _ _ _ h => h) (Or.inl ⟨by rfl, ?hy17b⟩) (by with_reducible assumption) ?rest17b
            case hy17b => (intro wz hSw; (try dsimp only at hSw); go_simp; try with_reducible rfl)
            try simp only [Act.put, List.setIfInBounds_toArray, List.set_cons_zero, List.set_cons_succ]
            refine wpAnyH_take (i := 19) (oi := { dst := some 141, op := Op.binOp BinOp.gtr 3 (Operand.tmp 140) (Operand.const (Value.int IntKind.i64 0)) 3, type := 4, pos := "laws.go:317", after := #[{ on := 18, ground := Ground.data }, { on := 17, ground := Ground.guard }], guard := some (17, false) }) (v := ?v18b) rfl (by kernel_rfl) (by kernel_rfl) (by kernel_rfl) (fun _ _ _ h => h) (Or.inl ⟨by rfl, ?hy18b⟩) (by with_reducible assumption) ?rest18b
            case hy18b => (intro wz hSw; (try dsimp only at hSw); go_simp; try with_reducible rfl)
            try simp only [Act.put, List.setIfInBounds_toArray, List.set_cons_zero, List.set_cons_succ]
            refine wpAnyH_take (i := 20) (oi := { dst := some 142, op := Op.load 25 (Operand.tmp 3), type := 25, pos := "laws.go:317", after := #[{ on := 17, ground := Ground.guard }], guard := some (17, false) }) (v := ?v19b) rfl (by kernel_rfl) (by kernel_rfl) (by kernel_rfl) (fun _ _ _ h => h) (Or.inl ⟨by rfl, ?hy19b⟩) (by with_reducible assumption) ?rest19b
            case hy19b => (intro wz hSw; (try dsimp only at hSw); go_simp; try with_reducible rfl)
            try simp only [Act.put, List.setIfInBounds_toArray, List.set_cons_zero, List.set_cons_succ]
            refine wpAnyH_ready (rs := [21]) (by kernel_rfl) (by simp) ?_
            refine (AllReadyH.cons (o := { dst := some 143, op := Op.call { callee := Callee.value (Operand.func 26), args := #[Operand.tmp 142], argTypes := #[25] }, type := 4, pos := "laws.go:317", after := #[{ on := 20, ground := Ground.data }, { on := 17, ground := Ground.chain }, { on := 17, ground := Ground.guard }], guard := some (17, false) }) rfl (fun K hK => ?_) AllReadyH.nil)
            go_simp
            go_at_call 26
            refine (DS.out _ (by omega) (by with_reducible assumption)).mono ?_
            rintro e wq ⟨rfl, hS⟩
            first
            | (refine hK.out _ _ hS (fun hHeld => ?_))
            | (go_wp2_with fail; refine hK.out _ _ hS (fun hHeld => ?_))
            clear hK K
            try simp only [Act.put, List.setIfInBounds_toArray, List.set_cons_zero, List.set_cons_succ]
            refine wpAnyH_take (i := 22) (oi := { dst := some 144, op := Op.binOp BinOp.eql 4 (Operand.tmp 141) (Operand.tmp 143) 4, type := 4, pos := "laws.go:317", after := #[{ on := 19, ground := Ground.data }, { on := 21, ground := Ground.data }, { on := 17, ground := Ground.guard }], guard := some (17, false) }) (v := ?v20b) rfl (by kernel_rfl) (by kernel_rfl) (by kernel_rfl) (fun _ _ _ h => h) (Or.inl ⟨by rfl, ?hy20b⟩) (by with_reducible assumption) ?rest20b
            case hy20b => (intro wz hSw; (try dsimp only at hSw); go_simp; try with_reducible rfl)
            try simp only [Act.put, List.setIfInBounds_toArray, List.set_cons_zero, List.set_cons_succ]
            refine wpAnyH_take (i := 23) (oi := { dst := some 145, op := Op.pick (Operand.tmp 139) (Operand.const (Value.bool true)) (Operand.tmp 144), type := 4, pos := "laws.go:317", after := #[{ on := 17, ground := Ground.data }, { on := 22, ground := Ground.data }, { on := 14, ground := Ground.guard }], guard := some (14, true) }) (v := ?v21b) rfl (by kernel_rfl) (by kernel_rfl) (by kernel_rfl) (fun _ _ _ h => h) (Or.inl ⟨by rfl, ?hy21b⟩) (by with_reducible assumption) ?rest21b
            case hy21b => (intro wz hSw; (try dsimp only at hSw); go_simp; try with_reducible rfl)
            try simp only [Act.put, List.setIfInBounds_toArray, List.set_cons_zero, List.set_cons_succ]
            refine wpAnyH_take (i := 24) (oi := { dst := some 146, op := Op.pick (Operand.tmp 136) (Operand.tmp 145) (Operand.const (Value.bool false)), type := 4, pos := "laws.go:317", after := #[{ on := 14, ground := Ground.data }, { on := 23, ground := Ground.data }], guard := none }) (v := ?v22b) rfl (by kernel_rfl) (by kernel_rfl) (by kernel_rfl) (fun _ _ _ h => h) (Or.inl ⟨by rfl, ?hy22b⟩) (by with_reducible assumption) ?rest22b
            case hy22b => (intro wz hSw; (try dsimp only at hSw); go_simp; try with_reducible rfl)
            try simp only [Act.put, List.setIfInBounds_toArray, List.set_cons_zero, List.set_cons_succ]
            refine wpAnyH_take (i := 25) (oi := { dst := some 147, op := Op.move (Operand.tmp 146), type := 4, pos := "laws.go:317", after := #[{ on := 24, ground := Ground.data }, { on := 21, ground := Ground.chain }], guard := none }) (v := ?v23b) rfl (by kernel_rfl) (by kernel_rfl) (by kernel_rfl) (fun _ _ _ h => h) (Or.inl ⟨by rfl, ?hy23b⟩) (by with_reducible assumption) ?rest23b
            case hy23b => (intro wz hSw; (try dsimp only at hSw); go_simp; try with_reducible rfl)
            try simp only [Act.put, List.setIfInBounds_toArray, List.set_cons_zero, List.set_cons_succ]
            refine wpAnyH_take (i := 26) (oi := { dst := some 148, op := Op.load 25 (Operand.tmp 3), type := 25, pos := "laws.go:317", after := #[{ on := 25, ground := Ground.guard }], guard := some (25, true) }) (v := ?v24b) rfl (by kernel_rfl) (by kernel_rfl) (by kernel_rfl) (fun _ _ _ h => h) (Or.inl ⟨by rfl, ?hy24b⟩) (by with_reducible assumption) ?rest24b
            case hy24b => (intro wz hSw; (try dsimp only at hSw); go_simp; try with_reducible rfl)
            try simp only [Act.put, List.setIfInBounds_toArray, List.set_cons_zero, List.set_cons_succ]
            refine wpAnyH_take (i := 27) (oi := { dst := some 149, op := Op.move (Operand.tmp 5), type := 23, pos := "laws.go:317", after := #[{ on := 25, ground := Ground.guard }], guard := some (25, true) }) (v := ?v25b) rfl (by kernel_rfl) (by kernel_rfl) (by kernel_rfl) (fun _ _ _ h => h) (Or.inl ⟨by rfl, ?hy25b⟩) (by with_reducible assumption) ?rest25b
            case hy25b => (intro wz hSw; (try dsimp only at hSw); go_simp; try with_reducible rfl)
            try simp only [Act.put, List.setIfInBounds_toArray, List.set_cons_zero, List.set_cons_succ]
            refine wpAnyH_take (i := 28) (oi := { dst := some 150, op := Op.move (Operand.tmp 4), type := 3, pos := "laws.go:317", after := #[{ on := 25, ground := Ground.guard }], guard := some (25, true) }) (v := ?v26b) rfl (by kernel_rfl) (by kernel_rfl) (by kernel_rfl) (fun _ _ _ h => h) (Or.inl ⟨by rfl, ?hy26b⟩) (by with_reducible assumption) ?rest26b
            case hy26b => (intro wz hSw; (try dsimp only at hSw); go_simp; try with_reducible rfl)
            try simp only [Act.put, List.setIfInBounds_toArray, List.set_cons_zero, List.set_cons_succ]
            refine wpAnyH_take (i := 29) (oi := { dst := some 151, op := Op.binOp BinOp.quo 3 (Operand.tmp 150) (Operand.const (Value.int IntKind.i64 2)) 3, type := 3, pos := "laws.go:317", after := #[{ on := 28, ground := Ground.data }, { on := 25, ground := Ground.guard }], guard := some (25, true) }) (v := ?v27b) rfl (by kernel_rfl) (by kernel_rfl) (by kernel_rfl) (fun _ _ _ h => h) (Or.inl ⟨by rfl, ?hy27b⟩) (by with_reducible assumption) ?rest27b
            case hy27b => (intro wz hSw; (try dsimp only at hSw); go_simp; try with_reducible rfl)
            try simp only [Act.put, List.setIfInBounds_toArray, List.set_cons_zero, List.set_cons_succ]
            refine wpAnyH_take (i := 30) (oi := { dst := some 152, op := Op.slice 23 (Operand.tmp 149) none (some (Operand.tmp 151)) none, type := 23, pos := "laws.go:317", after := #[{ on := 27, ground := Ground.data }, { on := 29, ground := Ground.data }, { on := 25, ground := Ground.guard }], guard := some (25, true) }) (v := ?v28b) rfl (by kernel_rfl) (by kernel_rfl) (by kernel_rfl) (fun _ _ _ h => h) (Or.inl ⟨by rfl, ?hy28b⟩) (by with_reducible assumption) ?rest28b
            case hy28b => (intro wz hSw; (try dsimp only at hSw); go_simp; try with_reducible rfl)
            try simp only [Act.put, List.setIfInBounds_toArray, List.set_cons_zero, List.set_cons_succ]
            refine wpAnyH_ready (rs := [31]) (by kernel_rfl) (by simp) ?_
            refine (AllReadyH.cons (o := { dst := some 153, op := Op.call { callee := Callee.value (Operand.func 23), args := #[Operand.tmp 148, Operand.tmp 152], argTypes := #[25, 23] }, type := 4, pos := "laws.go:317", after := #[{ on := 26, ground := Ground.data }, { on := 30, ground := Ground.data }, { on := 25, ground := Ground.chain }, { on := 25, ground := Ground.guard }], guard := some (25, true) }) rfl (fun K hK => ?_) AllReadyH.nil)
            go_simp
            go_at_call 23
            refine (DH.out _ (by with_reducible assumption)).mono ?_
            rintro e w15 ⟨rfl, hS⟩
            first
            | (refine hK.out _ _ hS (fun hHeld => ?_))
            | (go_wp2_with fail; refine hK.out _ _ hS (fun hHeld => ?_))
            clear hK K
            try simp only [Act.put, List.setIfInBounds_toArray, List.set_cons_zero, List.set_cons_succ]
            have HQ := hS.2.2.2.2.2.2.2
            have HORr := Lib.hid (HPP.out _ hS)
            have bE := Below.one w15 (.cells #[] 3)
            have bX := Below.one w15 (.cells #[.int .i64 p0] 3)
            have bEX : Below w15.heap.size w15 ((w15.alloc (.cells #[] 3)).alloc (.cells #[.int .i64 p0] 3)) := bE.alloc bE.size _
            have bXE : Below w15.heap.size w15 ((w15.alloc (.cells #[.int .i64 p0] 3)).alloc (.cells #[] 3)) := bX.alloc bX.size _
            have zX : (w15.alloc (.cells #[.int .i64 p0] 3)).heap.size = w15.heap.size + 1 := by simp
            have zE : (w15.alloc (.cells #[] 3)).heap.size = w15.heap.size + 1 := by simp
            have OA := Lib.hid (own_empty w15 w15.heap.size w15.heap.size (Nat.le_refl _) rfl)
            have OB := Lib.hid ((own_empty w15 w15.heap.size w15.heap.size (Nat.le_refl _) rfl).alloc (.cells #[.int .i64 p0] 3))
            have OC := Lib.hid (own_empty (w15.alloc (.cells #[.int .i64 p0] 3)) w15.heap.size (w15.heap.size + 1) bX.size zX)
            have RA := Lib.hid (srcU (HORr.out.below bE (Nat.le_refl _)))
            have RB := Lib.hid (srcU (HORr.out.below bEX (Nat.le_refl _)))
            have RC := Lib.hid (srcU (HORr.out.below bXE (Nat.le_refl _)))
            have BA := Lib.hid bE
            have BX := Lib.hid bX
            have BB := Lib.hid bEX
            have BC := Lib.hid bXE
            have NB0 : Hid (((w15.alloc (.cells #[] 3)).alloc (.cells #[.int .i64 p0] 3)).heap[w15.heap.size + 1]? = some (.cells #[.int .i64 p0] 3 (0, 0))) := by
              have := World.alloc_heap_new (w15.alloc (.cells #[] 3)) (.cells #[.int .i64 p0] 3)
              rw [zE] at this; exact this
            have NC0 : Hid (((w15.alloc (.cells #[.int .i64 p0] 3)).alloc (.cells #[] 3)).heap[w15.heap.size]? = some (.cells #[.int .i64 p0] 3 (0, 0))) := by
              have h1 := World.alloc_heap_new w15 (.cells #[.int .i64 p0] 3)
              have h2 : Below (w15.alloc (.cells #[.int .i64 p0] 3)).heap.size (w15.alloc (.cells #[.int .i64 p0] 3)) ((w15.alloc (.cells #[.int .i64 p0] 3)).alloc (.cells #[] 3)) := Below.one _ _
              exact (h2.block w15.heap.size (by rw [zX]; omega)).trans h1
            refine wpAnyH_take (i := 32) (oi := { dst := some 154, op := Op.pick (Operand.tmp 147) (Operand.tmp 153) (Operand.const (Value.bool false)), type := 4, pos := "laws.go:317", after := #[{ on := 25, ground := Ground.data }, { on := 31, ground := Ground.data }], guard := none }) (v := ?v29b) rfl (by kernel_rfl) (by kernel_rfl) (by kernel_rfl) (fun _ _ _ h => h) (Or.inl ⟨by rfl, ?hy29b⟩) (by with_reducible assumption) ?rest29b
            case hy29b => (intro wz hSw; (try dsimp only at hSw); go_simp; try with_reducible rfl)
            try simp only [Act.put, List.setIfInBounds_toArray, List.set_cons_zero, List.set_cons_succ]
            refine wpAnyH_take (i := 33) (oi := { dst := some 155, op := Op.move (Operand.tmp 154), type := 4, pos := "laws.go:317", after := #[{ on := 32, ground := Ground.data }, { on := 31, ground := Ground.chain }], guard := none }) (v := ?v30b) rfl (by kernel_rfl) (by kernel_rfl) (by kernel_rfl) (fun _ _ _ h => h) (Or.inl ⟨by rfl, ?hy30b⟩) (by with_reducible assumption) ?rest30b
            case hy30b => (intro wz hSw; (try dsimp only at hSw); go_simp; try with_reducible rfl)
            try simp only [Act.put, List.setIfInBounds_toArray, List.set_cons_zero, List.set_cons_succ]
            refine wpAnyH_take (i := 34) (oi := { dst := some 156, op := Op.load 25 (Operand.tmp 3), type := 25, pos := "laws.go:317", after := #[{ on := 33, ground := Ground.guard }], guard := some (33, true) }) (v := ?v31b) rfl (by kernel_rfl) (by kernel_rfl) (by kernel_rfl) (fun _ _ _ h => h) (Or.inl ⟨by rfl, ?hy31b⟩) (by with_reducible assumption) ?rest31b
            case hy31b => (intro wz hSw; (try dsimp only at hSw); go_simp; try with_reducible rfl)
            try simp only [Act.put, List.setIfInBounds_toArray, List.set_cons_zero, List.set_cons_succ]
            refine wpAnyH_take (i := 36) (oi := { dst := some 158, op := Op.move (Operand.tmp 5), type := 23, pos := "laws.go:317", after := #[{ on := 33, ground := Ground.guard }], guard := some (33, true) }) (v := ?v32b) rfl (by kernel_rfl) (by kernel_rfl) (by kernel_rfl) (fun _ _ _ h => h) (Or.inl ⟨by rfl, ?hy32b⟩) (by with_reducible assumption) ?rest32b
            case hy32b => (intro wz hSw; (try dsimp only at hSw); go_simp; try with_reducible rfl)
            try simp only [Act.put, List.setIfInBounds_toArray, List.set_cons_zero, List.set_cons_succ]
            refine wpAnyH_take (i := 38) (oi := { dst := some 160, op := Op.move (Operand.tmp 5), type := 23, pos := "laws.go:317", after := #[{ on := 33, ground := Ground.guard }], guard := some (33, true) }) (v := ?v33b) rfl (by kernel_rfl) (by kernel_rfl) (by kernel_rfl) (fun _ _ _ h => h) (Or.inl ⟨by rfl, ?hy33b⟩) (by with_reducible assumption) ?rest33b
            case hy33b => (intro wz hSw; (try dsimp only at hSw); go_simp; try with_reducible rfl)
            try simp only [Act.put, List.setIfInBounds_toArray, List.set_cons_zero, List.set_cons_succ]
            refine wpAnyH_take (i := 39) (oi := { dst := some 161, op := Op.indexAddr 23 (Operand.tmp 160) (Operand.const (Value.int IntKind.i64 0)), type := 0, pos := "laws.go:317", after := #[{ on := 38, ground := Ground.data }, { on := 33, ground := Ground.guard }], guard := some (33, true) }) (v := ?v34b) rfl (by kernel_rfl) (by kernel_rfl) (by kernel_rfl) (fun _ _ _ h => h) (Or.inl ⟨by rfl, ?hy34b⟩) (by with_reducible assumption) ?rest34b
            case hy34b => (intro wz hSw; (try dsimp only at hSw); go_simp; try with_reducible rfl)
            try simp only [Act.put, List.setIfInBounds_toArray, List.set_cons_zero, List.set_cons_succ]
            refine wpAnyH_take (i := 40) (oi := { dst := some 162, op := Op.load 3 (Operand.tmp 161), type := 3, pos := "laws.go:317", after := #[{ on := 39, ground := Ground.data }, { on := 33, ground := Ground.guard }], guard := some (33, true) }) (v := ?v35b) rfl (by kernel_rfl) (by kernel_rfl) (by kernel_rfl) (fun _ _ _ h => h) (Or.inl ⟨by rfl, ?hy35b⟩) (by with_reducible assumption) ?rest35b
            case hy35b => (intro wz hSw; (try dsimp only at hSw); go_simp; try with_reducible rfl)
            try simp only [Act.put, List.setIfInBounds_toArray, List.set_cons_zero, List.set_cons_succ]
            refine wpAnyH_ready (rs := [35, 41]) (by kernel_rfl) (by simp) ?_
            refine (AllReadyH.cons (o := { dst := some 157, op := Op.buildSlice 23 0 #[], type := 23, pos := "laws.go:317", after := #[{ on := 33, ground := Ground.guard }], guard := some (33, true) }) rfl (fun K hK => ?_) (AllReadyH.cons (o := { dst := some 163, op := Op.buildSlice 23 1 #[(0, Operand.tmp 162)], type := 23, pos := "laws.go:317", after := #[{ on := 40, ground := Ground.data }, { on := 33, ground := Ground.guard }], guard := some (33, true) }) rfl (fun K hK => ?_) AllReadyH.nil))
            · go_simp
              refine hK.out _ _ (HX.out _ (below_m HQ.out BA.out)) (fun hHeld => ?_)
              clear hK K
              try simp only [Act.put, List.setIfInBounds_toArray, List.set_cons_zero, List.set_cons_succ]
              refine wpAnyH_ready (rs := [37, 41]) (by kernel_rfl) (by simp) ?_
              refine (AllReadyH.cons (o := { dst := some 159, op := Op.call { callee := Callee.builtin Builtin.append, args := #[Operand.tmp 157, Operand.tmp 158], argTypes := #[23, 23] }, type := 23, pos := "laws.go:317", after := #[{ on := 35, ground := Ground.data }, { on := 36, ground := Ground.data }, { on := 33, ground := Ground.chain }, { on := 33, ground := Ground.guard }], guard := some (33, true) }) rfl (fun K hK => ?_) (AllReadyH.cons (o := { dst := some 163, op := Op.buildSlice 23 1 #[(0, Operand.tmp 162)], type := 23, pos := "laws.go:317", after := #[{ on := 40, ground := Ground.data }, { on := 33, ground := Ground.guard }], guard := some (33, true) }) rfl (fun K hK => ?_) AllReadyH.nil))
              · refine step_append_w _ (by rfl) (.tmp 157) (.tmp 158) 23 rfl w15.heap.size 3 i0 (.int .i64 0) 1 8 Try.underlying23 hi0 hz0 hz1 hz2 rfl (by decide) (.slice (some ⟨w15.heap.size, 0, none⟩) 0 0) 0 [] rfl (by with_reducible exact OA.out) ⟨gp, 0, none⟩ i cp (PL.map iv) rfl HLP.out RA.out H1.out (by omega) (by unfold maxLen; omega) (by omega) (by simp <;> omega) _ rfl i (by omega) ?_
                intro g1 ck w3 hown3 hgrow3 hat3 hlt3
                have O1 := Lib.hid (show w3.ownsRow w15.heap.size 3 1 (.slice (some ⟨g1, 0, none⟩) i ck) i (PL.map iv) from (by simpa using hown3))
                have O1x := Lib.hid (O1.out.alloc (.cells #[.int .i64 p0] 3))
                have B3 := Lib.hid (BA.out.grown hgrow3 (by simp <;> omega) (fun k hk => by simp [Value.ownBlock] at hk; omega))
                have hz3b : w15.heap.size ≤ w3.heap.size := B3.out.size
                have B3x := Lib.hid (B3.out.alloc hz3b (.cells #[.int .i64 p0] 3))
                have NX := Lib.hid (newsU (World.alloc_heap_new w3 (.cells #[.int .i64 p0] 3)))
                clear hown3 hgrow3 hat3
                refine hK.out _ _ (HX.out _ (below_m HQ.out B3.out)) (fun hHeld => ?_)
                clear hK K
                try simp only [Act.put, List.setIfInBounds_toArray, List.set_cons_zero, List.set_cons_succ]
                refine wpAnyH_ready (rs := [41]) (by kernel_rfl) (by simp) ?_
                refine (AllReadyH.cons (o := { dst := some 163, op := Op.buildSlice 23 1 #[(0, Operand.tmp 162)], type := 23, pos := "laws.go:317", after := #[{ on := 40, ground := Ground.data }, { on := 33, ground := Ground.guard }], guard := some (33, true) }) rfl (fun K hK => ?_) AllReadyH.nil)
                go_simp
                refine hK.out _ _ (HX.out _ (below_m HQ.out B3x.out)) (fun hHeld => ?_)
                clear hK K
                try simp only [Act.put, List.setIfInBounds_toArray, List.set_cons_zero, List.set_cons_succ]
                refine wpAnyH_ready (rs := [42]) (by kernel_rfl) (by simp) ?_
                refine (AllReadyH.cons (o := { dst := some 164, op := Op.call { callee := Callee.builtin Builtin.append, args := #[Operand.tmp 159, Operand.tmp 163], argTypes := #[23, 23] }, type := 23, pos := "laws.go:317", after := #[{ on := 37, ground := Ground.data }, { on := 41, ground := Ground.data }, { on := 37, ground := Ground.chain }, { on := 33, ground := Ground.guard }], guard := some (33, true) }) rfl (fun K hK => ?_) AllReadyH.nil)
                refine step_append_w _ (by rfl) (.tmp 159) (.tmp 163) 23 rfl w15.heap.size 3 i0 (.int .i64 0) 1 8 Try.underlying23 hi0 hz0 hz1 hz2 rfl (by decide) (.slice (some ⟨g1, 0, none⟩) i ck) i (PL.map iv) rfl (by with_reducible exact O1x.out) ⟨w3.heap.size, 0, none⟩ 1 1 [.int .i64 p0] rfl rfl NX.out (by intro v hv; simp at hv; subst hv; rfl) (by omega) (by unfold maxLen; omega) (by omega) (by first | omega | (simp <;> omega)) _ rfl (i + 1) rfl ?_
                intro g2 c2 w5 hown5 hgrow5 hat5 hlt5
                have O2 : Hid (IntRow w5 (some ⟨g2, 0, none⟩) (PL ++ [p0])) := IntRow.of_ownN (l := PL ++ [p0]) (B := w15.heap.size) (N := i + 1) (cap := c2) (by rw [List.map_append]; exact hown5) (by rw [List.length_append, HPL.out]; rfl)
                have B5 := Lib.hid (B3x.out.grown hgrow5 (by first | omega | (simp <;> omega)) (fun k hk => (O1.out.lt k hk).1))
                clear hown5 hgrow5 hat5
                refine hK.out _ _ (HX.out _ (below_m HQ.out B5.out)) (fun hHeld => ?_)
                clear hK K
                try simp only [Act.put, List.setIfInBounds_toArray, List.set_cons_zero, List.set_cons_succ]
                refine wpAnyH_ready (rs := [43]) (by kernel_rfl) (by simp) ?_
                refine (AllReadyH.cons (o := { dst := some 165, op := Op.call { callee := Callee.value (Operand.func 23), args := #[Operand.tmp 156, Operand.tmp 164], argTypes := #[25, 23] }, type := 4, pos := "laws.go:317", after := #[{ on := 34, ground := Ground.data }, { on := 42, ground := Ground.data }, { on := 42, ground := Ground.chain }, { on := 33, ground := Ground.guard }], guard := some (33, true) }) rfl (fun K hK => ?_) AllReadyH.nil)
                go_simp
                refine (DN.out _ _ _ O2.out (by with_reducible assumption)).mono ?_
                rintro e wq ⟨rfl, hS⟩
                first
                | (refine hK.out _ _ hS (fun hHeld => ?_))
                | (go_wp2_with fail; refine hK.out _ _ hS (fun hHeld => ?_))
                clear hK K
                try simp only [Act.put, List.setIfInBounds_toArray, List.set_cons_zero, List.set_cons_succ]
                refine wpAnyH_take (i := 44) (oi := { dst := some 166, op := Op.unOp UnOp.not 4 (Operand.tmp 165), type := 4, pos := "laws.go:317", after := #[{ on := 43, ground := Ground.data }, { on := 33, ground := Ground.guard }], guard := some (33, true) }) (v := ?v36b) rfl (by kernel_rfl) (by kernel_rfl) (by kernel_rfl) (fun _ _ _ h => h) (Or.inl ⟨by rfl, ?hy36b⟩) (by with_reducible assumption) ?rest36b
                case hy36b => (intro wz hSw; (try dsimp only at hSw); go_simp; try with_reducible rfl)
                try simp only [Act.put, List.setIfInBounds_toArray, List.set_cons_zero, List.set_cons_succ]
                refine wpAnyH_take (i := 45) (oi := { dst := some 167, op := Op.pick (Operand.tmp 155) (Operand.tmp 166) (Operand.const (Value.bool false)), type := 4, pos := "laws.go:317", after := #[{ on := 33, ground := Ground.data }, { on := 44, ground := Ground.data }], guard := none }) (v := ?v37b) rfl (by kernel_rfl) (by kernel_rfl) (by kernel_rfl) (fun _ _ _ h => h) (Or.inl ⟨by rfl, ?hy37b⟩) (by with_reducible assumption) ?rest37b
                case hy37b => (intro wz hSw; (try dsimp only at hSw); go_simp; try with_reducible rfl)
                try simp only [Act.put, List.setIfInBounds_toArray, List.set_cons_zero, List.set_cons_succ]
                refine wpAnyH_take (i := 46) (oi := { dst := some 2, op := Op.assign (Operand.tmp 167), type := 4, pos := "laws.go:317", after := #[{ on := 45, ground := Ground.data }, { on := 43, ground := Ground.chain }, { on := 0, ground := Ground.phase }, { on := 1, ground := Ground.phase }, { on := 2, ground := Ground.phase }, { on := 3, ground := Ground.phase }, { on := 4, ground := Ground.phase }, { on := 5, ground := Ground.phase }, { on := 6, ground := Ground.phase }, { on := 7, ground := Ground.phase }, { on := 8, ground := Ground.phase }, { on := 9, ground := Ground.phase }, { on := 10, ground := Ground.phase }, { on := 11, ground := Ground.phase }, { on := 12, ground := Ground.phase }, { on := 13, ground := Ground.phase }, { on := 14, ground := Ground.phase }, { on := 15, ground := Ground.phase }, { on := 16, ground := Ground.phase }, { on := 17, ground := Ground.phase }, { on := 18, ground := Ground.phase }, { on := 19, ground := Ground.phase }, { on := 20, ground := Ground.phase }, { on := 21, ground := Ground.phase }, { on := 22, ground := Ground.phase }, { on := 23, ground := Ground.phase }, { on := 24, ground := Ground.phase }, { on := 25, ground := Ground.phase }, { on := 26, ground := Ground.phase }, { on := 27, ground := Ground.phase }, { on := 28, ground := Ground.phase }, { on := 29, ground := Ground.phase }, { on := 30, ground := Ground.phase }, { on := 31, ground := Ground.phase }, { on := 32, ground := Ground.phase }, { on := 33, ground := Ground.phase }, { on := 34, ground := Ground.phase }, { on := 35, ground := Ground.phase }, { on := 36, ground := Ground.phase }, { on := 37, ground := Ground.phase }, { on := 38, ground := Ground.phase }, { on := 39, ground := Ground.phase }, { on := 40, ground := Ground.phase }, { on := 41, ground := Ground.phase }, { on := 42, ground := Ground.phase }, { on := 43, ground := Ground.phase }, { on := 44, ground := Ground.phase }, { on := 45, ground := Ground.phase }], guard := none }) (v := ?v38b) rfl (by kernel_rfl) (by kernel_rfl) (by kernel_rfl) (fun _ _ _ h => h) (Or.inl ⟨by rfl, ?hy38b⟩) (by with_reducible assumption) ?rest38b
                case hy38b => (intro wz hSw; (try dsimp only at hSw); go_simp; try with_reducible rfl)
                try simp only [Act.put, List.setIfInBounds_toArray, List.set_cons_zero, List.set_cons_succ]
                refine wpAnyH_done (by kernel_rfl) ?_ _
                refine NoPanic.normal ?_
                have HF := Lib.hid (HEND.out _ (by with_reducible assumption))
                go_wp2
                go_ret
                exact ⟨rfl, HF.out⟩
              · go_simp
                refine hK.out _ _ (HX.out _ (below_m HQ.out BB.out)) (fun hHeld => ?_)
                clear hK K
                try simp only [Act.put, List.setIfInBounds_toArray, List.set_cons_zero, List.set_cons_succ]
                refine wpAnyH_ready (rs := [37]) (by kernel_rfl) (by simp) ?_
                refine (AllReadyH.cons (o := { dst := some 159, op := Op.call { callee := Callee.builtin Builtin.append, args := #[Operand.tmp 157, Operand.tmp 158], argTypes := #[23, 23] }, type := 23, pos := "laws.go:317", after := #[{ on := 35, ground := Ground.data }, { on := 36, ground := Ground.data }, { on := 33, ground := Ground.chain }, { on := 33, ground := Ground.guard }], guard := some (33, true) }) rfl (fun K hK => ?_) AllReadyH.nil)
                refine step_append_w _ (by rfl) (.tmp 157) (.tmp 158) 23 rfl w15.heap.size 3 i0 (.int .i64 0) 1 8 Try.underlying23 hi0 hz0 hz1 hz2 rfl (by decide) (.slice (some ⟨w15.heap.size, 0, none⟩) 0 0) 0 [] rfl (by with_reducible exact OB.out) ⟨gp, 0, none⟩ i cp (PL.map iv) rfl HLP.out RB.out H1.out (by omega) (by unfold maxLen; omega) (by omega) (by simp <;> omega) _ rfl i (by omega) ?_
                intro g1 ck w3 hown3 hgrow3 hat3 hlt3
                have O1 := Lib.hid (show w3.ownsRow w15.heap.size 3 1 (.slice (some ⟨g1, 0, none⟩) i ck) i (PL.map iv) from (by simpa using hown3))
                have O1x := Lib.hid (O1.out.alloc (.cells #[.int .i64 p0] 3))
                have B3 := Lib.hid (BB.out.grown hgrow3 (by simp <;> omega) (fun k hk => by simp [Value.ownBlock] at hk; omega))
                have hz3b : w15.heap.size ≤ w3.heap.size := B3.out.size
                have B3x := Lib.hid (B3.out.alloc hz3b (.cells #[.int .i64 p0] 3))
                have NX := Lib.hid (newsU (World.alloc_heap_new w3 (.cells #[.int .i64 p0] 3)))
                have NB := Lib.hid (newsU ((hgrow3.block (w15.heap.size + 1) (Array.getElem?_eq_some_iff.1 NB0.out).1 (by simp [Value.ownBlock] <;> omega)).trans NB0.out))
                clear hown3 hgrow3 hat3
                refine hK.out _ _ (HX.out _ (below_m HQ.out B3.out)) (fun hHeld => ?_)
                clear hK K
                try simp only [Act.put, List.setIfInBounds_toArray, List.set_cons_zero, List.set_cons_succ]
                refine wpAnyH_ready (rs := [42]) (by kernel_rfl) (by simp) ?_
                refine (AllReadyH.cons (o := { dst := some 164, op := Op.call { callee := Callee.builtin Builtin.append, args := #[Operand.tmp 159, Operand.tmp 163], argTypes := #[23, 23] }, type := 23, pos := "laws.go:317", after := #[{ on := 37, ground := Ground.data }, { on := 41, ground := Ground.data }, { on := 37, ground := Ground.chain }, { on := 33, ground := Ground.guard }], guard := some (33, true) }) rfl (fun K hK => ?_) AllReadyH.nil)
                refine step_append_w _ (by rfl) (.tmp 159) (.tmp 163) 23 rfl w15.heap.size 3 i0 (.int .i64 0) 1 8 Try.underlying23 hi0 hz0 hz1 hz2 rfl (by decide) (.slice (some ⟨g1, 0, none⟩) i ck) i (PL.map iv) rfl (by with_reducible exact O1.out) ⟨w15.heap.size + 1, 0, none⟩ 1 1 [.int .i64 p0] rfl rfl NB.out (by intro v hv; simp at hv; subst hv; rfl) (by omega) (by unfold maxLen; omega) (by omega) (by first | omega | (simp <;> omega)) _ rfl (i + 1) rfl ?_
                intro g2 c2 w5 hown5 hgrow5 hat5 hlt5
                have O2 : Hid (IntRow w5 (some ⟨g2, 0, none⟩) (PL ++ [p0])) := IntRow.of_ownN (l := PL ++ [p0]) (B := w15.heap.size) (N := i + 1) (cap := c2) (by rw [List.map_append]; exact hown5) (by rw [List.length_append, HPL.out]; rfl)
                have B5 := Lib.hid (B3.out.grown hgrow5 (by first | omega | (simp <;> omega)) (fun k hk => (O1.out.lt k hk).1))
                clear hown5 hgrow5 hat5
                refine hK.out _ _ (HX.out _ (below_m HQ.out B5.out)) (fun hHeld => ?_)
                clear hK K
                try simp only [Act.put, List.setIfInBounds_toArray, List.set_cons_zero, List.set_cons_succ]
                refine wpAnyH_ready (rs := [43]) (by kernel_rfl) (by simp) ?_
                refine (AllReadyH.cons (o := { dst := some 165, op := Op.call { callee := Callee.value (Operand.func 23), args := #[Operand.tmp 156, Operand.tmp 164], argTypes := #[25, 23] }, type := 4, pos := "laws.go:317", after := #[{ on := 34, ground := Ground.data }, { on := 42, ground := Ground.data }, { on := 42, ground := Ground.chain }, { on := 33, ground := Ground.guard }], guard := some (33, true) }) rfl (fun K hK => ?_) AllReadyH.nil)
                go_simp
                refine (DN.out _ _ _ O2.out (by with_reducible assumption)).mono ?_
                rintro e wq ⟨rfl, hS⟩
                first
                | (refine hK.out _ _ hS (fun hHeld => ?_))
                | (go_wp2_with fail; refine hK.out _ _ hS (fun hHeld => ?_))
                clear hK K
                try simp only [Act.put, List.setIfInBounds_toArray, List.set_cons_zero, List.set_cons_succ]
                refine wpAnyH_take (i := 44) (oi := { dst := some 166, op := Op.unOp UnOp.not 4 (Operand.tmp 165), type := 4, pos := "laws.go:317", after := #[{ on := 43, ground := Ground.data }, { on := 33, ground := Ground.guard }], guard := some (33, true) }) (v := ?v39b) rfl (by kernel_rfl) (by kernel_rfl) (by kernel_rfl) (fun _ _ _ h => h) (Or.inl ⟨by rfl, ?hy39b⟩) (by with_reducible assumption) ?rest39b
                case hy39b => (intro wz hSw; (try dsimp only at hSw); go_simp; try with_reducible rfl)
                try simp only [Act.put, List.setIfInBounds_toArray, List.set_cons_zero, List.set_cons_succ]
                refine wpAnyH_take (i := 45) (oi := { dst := some 167, op := Op.pick (Operand.tmp 155) (Operand.tmp 166) (Operand.const (Value.bool false)), type := 4, pos := "laws.go:317", after := #[{ on := 33, ground := Ground.data }, { on := 44, ground := Ground.data }], guard := none }) (v := ?v40b) rfl (by kernel_rfl) (by kernel_rfl) (by kernel_rfl) (fun _ _ _ h => h) (Or.inl ⟨by rfl, ?hy40b⟩) (by with_reducible assumption) ?rest40b
                case hy40b => (intro wz hSw; (try dsimp only at hSw); go_simp; try with_reducible rfl)
                try simp only [Act.put, List.setIfInBounds_toArray, List.set_cons_zero, List.set_cons_succ]
                refine wpAnyH_take (i := 46) (oi := { dst := some 2, op := Op.assign (Operand.tmp 167), type := 4, pos := "laws.go:317", after := #[{ on := 45, ground := Ground.data }, { on := 43, ground := Ground.chain }, { on := 0, ground := Ground.phase }, { on := 1, ground := Ground.phase }, { on := 2, ground := Ground.phase }, { on := 3, ground := Ground.phase }, { on := 4, ground := Ground.phase }, { on := 5, ground := Ground.phase }, { on := 6, ground := Ground.phase }, { on := 7, ground := Ground.phase }, { on := 8, ground := Ground.phase }, { on := 9, ground := Ground.phase }, { on := 10, ground := Ground.phase }, { on := 11, ground := Ground.phase }, { on := 12, ground := Ground.phase }, { on := 13, ground := Ground.phase }, { on := 14, ground := Ground.phase }, { on := 15, ground := Ground.phase }, { on := 16, ground := Ground.phase }, { on := 17, ground := Ground.phase }, { on := 18, ground := Ground.phase }, { on := 19, ground := Ground.phase }, { on := 20, ground := Ground.phase }, { on := 21, ground := Ground.phase }, { on := 22, ground := Ground.phase }, { on := 23, ground := Ground.phase }, { on := 24, ground := Ground.phase }, { on := 25, ground := Ground.phase }, { on := 26, ground := Ground.phase }, { on := 27, ground := Ground.phase }, { on := 28, ground := Ground.phase }, { on := 29, ground := Ground.phase }, { on := 30, ground := Ground.phase }, { on := 31, ground := Ground.phase }, { on := 32, ground := Ground.phase }, { on := 33, ground := Ground.phase }, { on := 34, ground := Ground.phase }, { on := 35, ground := Ground.phase }, { on := 36, ground := Ground.phase }, { on := 37, ground := Ground.phase }, { on := 38, ground := Ground.phase }, { on := 39, ground := Ground.phase }, { on := 40, ground := Ground.phase }, { on := 41, ground := Ground.phase }, { on := 42, ground := Ground.phase }, { on := 43, ground := Ground.phase }, { on := 44, ground := Ground.phase }, { on := 45, ground := Ground.phase }], guard := none }) (v := ?v41b) rfl (by kernel_rfl) (by kernel_rfl) (by kernel_rfl) (fun _ _ _ h => h) (Or.inl ⟨by rfl, ?hy41b⟩) (by with_reducible assumption) ?rest41b
                case hy41b => (intro wz hSw; (try dsimp only at hSw); go_simp; try with_reducible rfl)
                try simp only [Act.put, List.setIfInBounds_toArray, List.set_cons_zero, List.set_cons_succ]
                refine wpAnyH_done (by kernel_rfl) ?_ _
                refine NoPanic.normal ?_
                have HF := Lib.hid (HEND.out _ (by with_reducible assumption))
                go_wp2
                go_ret
                exact ⟨rfl, HF.out⟩
            · go_simp
              refine hK.out _ _ (HX.out _ (below_m HQ.out BX.out)) (fun hHeld => ?_)
              clear hK K
              try simp only [Act.put, List.setIfInBounds_toArray, List.set_cons_zero, List.set_cons_succ]
              refine wpAnyH_ready (rs := [35]) (by kernel_rfl) (by simp) ?_
              refine (AllReadyH.cons (o := { dst := some 157, op := Op.buildSlice 23 0 #[], type := 23, pos := "laws.go:317", after := #[{ on := 33, ground := Ground.guard }], guard := some (33, true) }) rfl (fun K hK => ?_) AllReadyH.nil)
              go_simp
              refine hK.out _ _ (HX.out _ (below_m HQ.out BC.out)) (fun hHeld => ?_)
              clear hK K
              try simp only [Act.put, List.setIfInBounds_toArray, List.set_cons_zero, List.set_cons_succ]
              refine wpAnyH_ready (rs := [37]) (by kernel_rfl) (by simp) ?_
              refine (AllReadyH.cons (o := { dst := some 159, op := Op.call { callee := Callee.builtin Builtin.append, args := #[Operand.tmp 157, Operand.tmp 158], argTypes := #[23, 23] }, type := 23, pos := "laws.go:317", after := #[{ on := 35, ground := Ground.data }, { on := 36, ground := Ground.data }, { on := 33, ground := Ground.chain }, { on := 33, ground := Ground.guard }], guard := some (33, true) }) rfl (fun K hK => ?_) AllReadyH.nil)
              refine step_append_w _ (by rfl) (.tmp 157) (.tmp 158) 23 rfl w15.heap.size 3 i0 (.int .i64 0) 1 8 Try.underlying23 hi0 hz0 hz1 hz2 rfl (by decide) (.slice (some ⟨w15.heap.size + 1, 0, none⟩) 0 0) 0 [] rfl (by with_reducible exact OC.out) ⟨gp, 0, none⟩ i cp (PL.map iv) rfl HLP.out RC.out H1.out (by omega) (by unfold maxLen; omega) (by omega) (by simp <;> omega) _ rfl i (by omega) ?_
              intro g1 ck w3 hown3 hgrow3 hat3 hlt3
              have O1 := Lib.hid (show w3.ownsRow w15.heap.size 3 1 (.slice (some ⟨g1, 0, none⟩) i ck) i (PL.map iv) from (by simpa using hown3))
              have O1x := Lib.hid (O1.out.alloc (.cells #[.int .i64 p0] 3))
              have B3 := Lib.hid (BC.out.grown hgrow3 (by simp <;> omega) (fun k hk => by simp [Value.ownBlock] at hk; omega))
              have hz3b : w15.heap.size ≤ w3.heap.size := B3.out.size
              have B3x := Lib.hid (B3.out.alloc hz3b (.cells #[.int .i64 p0] 3))
              have NX := Lib.hid (newsU (World.alloc_heap_new w3 (.cells #[.int .i64 p0] 3)))
              have NC := Lib.hid (newsU ((hgrow3.block w15.heap.size (Array.getElem?_eq_some_iff.1 NC0.out).1 (by simp [Value.ownBlock] <;> omega)).trans NC0.out))
              clear hown3 hgrow3 hat3
              refine hK.out _ _ (HX.out _ (below_m HQ.out B3.out)) (fun hHeld => ?_)
              clear hK K
              try simp only [Act.put, List.setIfInBounds_toArray, List.set_cons_zero, List.set_cons_succ]
              refine wpAnyH_ready (rs := [42]) (by kernel_rfl) (by simp) ?_
              refine (AllReadyH.cons (o := { dst := some 164, op := Op.call { callee := Callee.builtin Builtin.append, args := #[Operand.tmp 159, Operand.tmp 163], argTypes := #[23, 23] }, type := 23, pos := "laws.go:317", after := #[{ on := 37, ground := Ground.data }, { on := 41, ground := Ground.data }, { on := 37, ground := Ground.chain }, { on := 33, ground := Ground.guard }], guard := some (33, true) }) rfl (fun K hK => ?_) AllReadyH.nil)
              refine step_append_w _ (by rfl) (.tmp 159) (.tmp 163) 23 rfl w15.heap.size 3 i0 (.int .i64 0) 1 8 Try.underlying23 hi0 hz0 hz1 hz2 rfl (by decide) (.slice (some ⟨g1, 0, none⟩) i ck) i (PL.map iv) rfl (by with_reducible exact O1.out) ⟨w15.heap.size, 0, none⟩ 1 1 [.int .i64 p0] rfl rfl NC.out (by intro v hv; simp at hv; subst hv; rfl) (by omega) (by unfold maxLen; omega) (by omega) (by first | omega | (simp <;> omega)) _ rfl (i + 1) rfl ?_
              intro g2 c2 w5 hown5 hgrow5 hat5 hlt5
              have O2 : Hid (IntRow w5 (some ⟨g2, 0, none⟩) (PL ++ [p0])) := IntRow.of_ownN (l := PL ++ [p0]) (B := w15.heap.size) (N := i + 1) (cap := c2) (by rw [List.map_append]; exact hown5) (by rw [List.length_append, HPL.out]; rfl)
              have B5 := Lib.hid (B3.out.grown hgrow5 (by first | omega | (simp <;> omega)) (fun k hk => (O1.out.lt k hk).1))
              clear hown5 hgrow5 hat5
              refine hK.out _ _ (HX.out _ (below_m HQ.out B5.out)) (fun hHeld => ?_)
              clear hK K
              try simp only [Act.put, List.setIfInBounds_toArray, List.set_cons_zero, List.set_cons_succ]
              refine wpAnyH_ready (rs := [43]) (by kernel_rfl) (by simp) ?_
              refine (AllReadyH.cons (o := { dst := some 165, op := Op.call { callee := Callee.value (Operand.func 23), args := #[Operand.tmp 156, Operand.tmp 164], argTypes := #[25, 23] }, type := 4, pos := "laws.go:317", after := #[{ on := 34, ground := Ground.data }, { on := 42, ground := Ground.data }, { on := 42, ground := Ground.chain }, { on := 33, ground := Ground.guard }], guard := some (33, true) }) rfl (fun K hK => ?_) AllReadyH.nil)
              go_simp
              refine (DN.out _ _ _ O2.out (by with_reducible assumption)).mono ?_
              rintro e wq ⟨rfl, hS⟩
              first
              | (refine hK.out _ _ hS (fun hHeld => ?_))
              | (go_wp2_with fail; refine hK.out _ _ hS (fun hHeld => ?_))
              clear hK K
              try simp only [Act.put, List.setIfInBounds_toArray, List.set_cons_zero, List.set_cons_succ]
              refine wpAnyH_take (i := 44) (oi := { dst := some 166, op := Op.unOp UnOp.not 4 (Operand.tmp 165), type := 4, pos := "laws.go:317", after := #[{ on := 43, ground := Ground.data }, { on := 33, ground := Ground.guard }], guard := some (33, true) }) (v := ?v42b) rfl (by kernel_rfl) (by kernel_rfl) (by kernel_rfl) (fun _ _ _ h => h) (Or.inl ⟨by rfl, ?hy42b⟩) (by with_reducible assumption) ?rest42b
              case hy42b => (intro wz hSw; (try dsimp only at hSw); go_simp; try with_reducible rfl)
              try simp only [Act.put, List.setIfInBounds_toArray, List.set_cons_zero, List.set_cons_succ]
              refine wpAnyH_take (i := 45) (oi := { dst := some 167, op := Op.pick (Operand.tmp 155) (Operand.tmp 166) (Operand.const (Value.bool false)), type := 4, pos := "laws.go:317", after := #[{ on := 33, ground := Ground.data }, { on := 44, ground := Ground.data }], guard := none }) (v := ?v43b) rfl (by kernel_rfl) (by kernel_rfl) (by kernel_rfl) (fun _ _ _ h => h) (Or.inl ⟨by rfl, ?hy43b⟩) (by with_reducible assumption) ?rest43b
              case hy43b => (intro wz hSw; (try dsimp only at hSw); go_simp; try with_reducible rfl)
              try simp only [Act.put, List.setIfInBounds_toArray, List.set_cons_zero, List.set_cons_succ]
              refine wpAnyH_take (i := 46) (oi := { dst := some 2, op := Op.assign (Operand.tmp 167), type := 4, pos := "laws.go:317", after := #[{ on := 45, ground := Ground.data }, { on := 43, ground := Ground.chain }, { on := 0, ground := Ground.phase }, { on := 1, ground := Ground.phase }, { on := 2, ground := Ground.phase }, { on := 3, ground := Ground.phase }, { on := 4, ground := Ground.phase }, { on := 5, ground := Ground.phase }, { on := 6, ground := Ground.phase }, { on := 7, ground := Ground.phase }, { on := 8, ground := Ground.phase }, { on := 9, ground := Ground.phase }, { on := 10, ground := Ground.phase }, { on := 11, ground := Ground.phase }, { on := 12, ground := Ground.phase }, { on := 13, ground := Ground.phase }, { on := 14, ground := Ground.phase }, { on := 15, ground := Ground.phase }, { on := 16, ground := Ground.phase }, { on := 17, ground := Ground.phase }, { on := 18, ground := Ground.phase }, { on := 19, ground := Ground.phase }, { on := 20, ground := Ground.phase }, { on := 21, ground := Ground.phase }, { on := 22, ground := Ground.phase }, { on := 23, ground := Ground.phase }, { on := 24, ground := Ground.phase }, { on := 25, ground := Ground.phase }, { on := 26, ground := Ground.phase }, { on := 27, ground := Ground.phase }, { on := 28, ground := Ground.phase }, { on := 29, ground := Ground.phase }, { on := 30, ground := Ground.phase }, { on := 31, ground := Ground.phase }, { on := 32, ground := Ground.phase }, { on := 33, ground := Ground.phase }, { on := 34, ground := Ground.phase }, { on := 35, ground := Ground.phase }, { on := 36, ground := Ground.phase }, { on := 37, ground := Ground.phase }, { on := 38, ground := Ground.phase }, { on := 39, ground := Ground.phase }, { on := 40, ground := Ground.phase }, { on := 41, ground := Ground.phase }, { on := 42, ground := Ground.phase }, { on := 43, ground := Ground.phase }, { on := 44, ground := Ground.phase }, { on := 45, ground := Ground.phase }], guard := none }) (v := ?v44b) rfl (by kernel_rfl) (by kernel_rfl) (by kernel_rfl) (fun _ _ _ h => h) (Or.inl ⟨by rfl, ?hy44b⟩) (by with_reducible assumption) ?rest44b
              case hy44b => (intro wz hSw; (try dsimp only at hSw); go_simp; try with_reducible rfl)
              try simp only [Act.put, List.setIfInBounds_toArray, List.set_cons_zero, List.set_cons_succ]
              refine wpAnyH_done (by kernel_rfl) ?_ _
              refine NoPanic.normal ?_
              have HF := Lib.hid (HEND.out _ (by with_reducible assumption))
              go_wp2
              go_ret
              exact ⟨rfl, HF.out⟩
end Go.Proofs.Ytgjogbihadiojaa
