/-
  Both 'CountDifferent', both 'SameTour'. No conditions but the bounds that Go gives a slice.
-/
import Derived.Test.YtpndfmlkceplcaaO
namespace Go.Proofs.Ytpndfmlkceplcaa
open Go.ChangeShapes Go.WideShapes Go.ChangeAt Go.RowKit Go.Shelf
attribute [local go_sem] Oper.semAt_some
set_option linter.unusedVariables false

/-- The elements of the one set that are not of the other. -/
def andn (x y : Nat) : Nat := x ^^^ (x &&& y)
theorem andn_bit (x y b : Nat) : (andn x y).testBit b = (x.testBit b && !y.testBit b) := by
  unfold andn
  rw [Nat.testBit_xor, Nat.testBit_and]
  cases x.testBit b <;> cases y.testBit b <;> rfl
theorem andn_lt (x y : Nat) (hx : x < 256) : andn x y < 256 := by
  have h1 : x < 2 ^ 8 := hx
  exact Nat.xor_lt_two_pow h1 (Nat.lt_of_le_of_lt Nat.and_le_left h1)
theorem i64_andNot (x y : Nat) (hx : x < 2 ^ 62) (hy : y < 2 ^ 62) : bits .andNot .i64 (x : Int) (y : Int) = ((andn x y : Nat) : Int) := by
  have e : BitVec.ofInt 64 (x : Int) &&& ~~~(BitVec.ofInt 64 (y : Int)) = BitVec.ofInt 64 (x : Int) ^^^ (BitVec.ofInt 64 (x : Int) &&& BitVec.ofInt 64 (y : Int)) := by
    apply BitVec.eq_of_getLsbD_eq
    intro i hi
    simp only [BitVec.getLsbD_and, BitVec.getLsbD_not, BitVec.getLsbD_xor, hi, decide_true, Bool.true_and]
    cases (BitVec.ofInt 64 (x : Int)).getLsbD i <;> cases (BitVec.ofInt 64 (y : Int)).getLsbD i <;> rfl
  show IntKind.i64.wrap ((BitVec.ofInt 64 x &&& ~~~(BitVec.ofInt 64 y)).toNat : Nat) = _
  rw [e, BitVec.toNat_xor, BitVec.toNat_and, ofInt_small x hx, ofInt_small y hy]
  have : x ^^^ (x &&& y) < 2 ^ 62 := Nat.xor_lt_two_pow hx (Nat.lt_of_le_of_lt Nat.and_le_left hx)
  exact wrap_small _ this

theorem pc_count (x : Nat) (hx : x < 256) : pc x = (List.range 8).countP fun b => x.testBit b := by
  have : ∀ y : Fin 256, pc y.val = (List.range 8).countP fun b => y.val.testBit b := by decide +kernel
  exact this ⟨x, hx⟩
theorem count_fin (m : Nat) (hm : m ≤ 8) (p : Nat → Bool) (hp : ∀ b, m ≤ b → p b = false) : (List.range 8).countP p = (List.finRange m).countP fun b => p b.val := by
  have e2 : (List.finRange m).map Fin.val = List.range m := List.ext_getElem (by simp) (by intro i h1 h2; simp)
  have : (8 : Nat) = m + (8 - m) := by omega
  rw [this, List.range_add, List.countP_append, ← e2, List.countP_map]
  rw [show (List.map (m + ·) (List.range (8 - m))).countP p = 0 from by
    rw [List.countP_eq_zero]
    intro b hb
    obtain ⟨c, _, rfl⟩ := List.mem_map.1 hb
    rw [hp _ (by omega)]; simp]
  rfl

/-- How many of the games are the other way round in u. -/
def cntF {m : Nat} (lu : List Int) (L : List (Pl m)) : Nat := L.countP fun x => bt lu x.2.val x.1.val
theorem cntF_snoc {m : Nat} (lu : List Int) (L : List (Pl m)) (x : Pl m) : cntF lu (L ++ [x]) = cntF lu L + (if bt lu x.2.val x.1.val then 1 else 0) := by simp [cntF, List.countP_append, List.countP_cons]
def dTo (l lu : List Int) : Nat → Nat
  | 0 => 0
  | k + 1 => dTo l lu k + pc (andn (l.getD k 0).toNat (lu.getD k 0).toNat)
theorem dTo_le (l lu : List Int) : ∀ k, dTo l lu k ≤ 8 * k
  | 0 => Nat.le_refl _
  | k + 1 => by have := dTo_le l lu k; have := pc_le (andn (l.getD k 0).toNat (lu.getD k 0).toNat); simp only [dTo]; omega
theorem dTo_games {n nu : Int} {l lu : List Int} (h : Ok n l) (hu : Ok nu lu) (hl : l.length = lu.length) : ∀ k, k ≤ l.length → cntF lu (gamesTo l.length l k) = dTo l lu k
  | 0, _ => rfl
  | k + 1, hk => by
    have ih := dTo_games h hu hl k (by omega)
    have hm : l.length ≤ 8 := by have := h.2.1; have := h.2.2.1; omega
    obtain ⟨x, hx, hx2, hx8⟩ := h.nat (i := k) (by omega)
    obtain ⟨y, hy, hy2, hy8⟩ := hu.nat (i := k) (by omega)
    rw [gamesTo_succ l.length l k (by omega)]
    unfold cntF at ih ⊢
    rw [List.countP_append, ih]
    simp only [dTo, hx, hy]
    congr 1
    show _ = pc (andn x y)
    rw [pc_count _ (andn_lt x y hx8), count_fin l.length hm _ (by
      intro b hb
      rw [andn_bit, Nat.testBit_lt_two_pow (Nat.lt_of_lt_of_le hx2 (Nat.pow_le_pow_right (by decide) hb))]; rfl)]
    unfold rowG losers
    rw [List.countP_map, List.countP_filter]
    apply List.countP_congr
    intro b _
    simp only [Function.comp, andn_bit]
    rw [bt_nat b.val hx]
    by_cases hbk : b.val = k
    · have hs := h.self (a := k) (by omega)
      rw [bt_nat k hx] at hs
      rw [hbk, hs]; simp
    · rw [hu.other (a := b.val) (b := k) (by have := b.isLt; omega) (by omega) hbk, bt_nat b.val hy]
      simp [Bool.and_comm]

theorem obj_abidesP {W W' : World} {row : Option Nat} {p : Nat} {o : Obj} (h : W.heap[p]? = some o) (hc : o.isCells = true) (hg : W.grownBy W' row) (hr : ∀ r, row = some r → ∃ o : Obj, W.heap[r]? = some o ∧ o.isCells = false) : W'.heap[p]? = some o := by
  refine (hg.block p (Array.getElem?_eq_some_iff.1 h).1 (fun e => ?_)).trans h
  obtain ⟨o', ho, hc'⟩ := hr p e.symm
  rw [h] at ho; cases ho; rw [hc] at hc'; cases hc'
theorem lt_of_heapP {W : World} {p : Nat} {o : Obj} (h : W.heap[p]? = some o) : p < W.heap.size := (Array.getElem?_eq_some_iff.1 h).1
theorem games_len (m : Nat) (l : List Int) : ∀ k, k ≤ m → (gamesTo m l k).length ≤ k * m
  | 0, _ => by simp [gamesTo]
  | k + 1, hk => by
    have ih := games_len m l k (by omega)
    have : (rowG m l ⟨k, hk⟩).length ≤ m := by
      simp only [rowG, losers, List.length_map]
      exact Nat.le_trans (List.length_filter_le _ _) (by simp)
    rw [gamesTo_succ m l k hk, List.length_append, Nat.succ_mul]
    omega

noncomputable def cdB (nt : Int) (lt : List Int) (nu : Int) (lu : List Int) : Bool := okB nt lt && okB nu lu && (nt == nu)
noncomputable def cdR (nt : Int) (lt : List Int) (nu : Int) (lu : List Int) : Int := if cdB nt lt nu lu then (dTo lt lu lt.length : Int) else -1
theorem cdR_range (nt : Int) (lt : List Int) (nu : Int) (lu : List Int) : -1 ≤ cdR nt lt nu lu ∧ cdR nt lt nu lu ≤ 64 := by
  unfold cdR
  cases h : cdB nt lt nu lu
  · simp
  · have hk : Ok nt lt := by unfold cdB at h; simp only [Bool.and_eq_true] at h; exact okB_iff.1 h.1.1
    have := dTo_le lt lu lt.length
    have := hk.2.1
    have := hk.2.2.1
    simp only [if_true]
    omega

set_option maxRecDepth 100000 in
set_option maxHeartbeats 2000000 in
theorem implCount (nt : Int) (at' : Option Addr) (lt : List Int) (ct : Nat) (nu : Int) (au : Option Addr) (lu : List Int) (cu : Nat) (w : World) (hrowt : IntRow w at' lt) (hrowu : IntRow w au lu) (hlt : lt.length ≤ maxLen) (hlu : lu.length ≤ maxLen) :
    Calls Try.prog 53 #[.agg #[.int .i64 nt, .slice at' lt.length ct], .agg #[.int .i64 nu, .slice au lu.length cu]] w fun e w' => e = .returned (.int .i64 (cdR nt lt nu lu)) ∧ Below w.heap.size w w' := by
  obtain ⟨Wb, hWb⟩ : ∃ Wb, Wb = w.alloc (.cells #[.int .i64 nt, .slice at' lt.length ct] 27) := ⟨_, rfl⟩
  obtain ⟨Wa, hWa⟩ : ∃ Wa, Wa = Wb.alloc (.cells #[.int .i64 nu, .slice au lu.length cu] 27) := ⟨_, rfl⟩
  have sb : Wb.heap.size = w.heap.size + 1 := by rw [hWb]; simp
  have sa : Wa.heap.size = w.heap.size + 1 + 1 := by rw [hWa]; simp [sb]
  have hbb : Below w.heap.size w Wb := by rw [hWb]; exact (Below.refl _ _).alloc (Nat.le_refl _) _
  have hba : Below w.heap.size w Wa := by rw [hWa]; exact hbb.alloc hbb.size _
  have xt : Box Wa w.heap.size 27 (.int .i64 nt) (.slice at' lt.length ct) := by
    rw [hWa]; exact (show Box Wb w.heap.size 27 (.int .i64 nt) (.slice at' lt.length ct) by rw [hWb]; exact Box.new _ _ _ _).more _
  have xu : Box Wa (w.heap.size + 1) 27 (.int .i64 nu) (.slice au lu.length cu) := by rw [hWa, ← sb]; exact Box.new _ _ _ _
  have HWa : Hid (Wa = (w.alloc (.cells #[.int .i64 nt, .slice at' lt.length ct] 27)).alloc (.cells #[.int .i64 nu, .slice au lu.length cu] 27)) := by rw [hWa, hWb]; exact rfl
  have hrt : IntRow Wa at' lt := hrowt.below hba (Nat.le_refl _)
  have hru : IntRow Wa au lu := hrowu.below hba (Nat.le_refl _)
  have HLT := Lib.hid hlt
  have HLU := Lib.hid hlu
  clear hlt hlu hWa hWb hbb
  cases ht : okB nt lt
  · have HT := Lib.hid ht
    have HE : Hid (cdR nt lt nu lu = -1) := by show _ = _; unfold cdR cdB; rw [ht]; rfl
    clear ht
    go_enter Try.func53, Try.ntmps53
    go_wp2_with fail
    rw [← HWa.out]
    refine (implTourOk nt at' lt ct Wa hrt HLT.out).mono ?_
    rintro e w1 ⟨rfl, hb1⟩
    rw [HT.out]
    have B1 := hba.trans (hb1.mono hba.size)
    have xu1 := xu.below hb1 xu.lt
    have xt1 := xt.below hb1 xt.lt
    go_wp2
    go_ret
    exact ⟨by rw [HE.out]; rfl, B1⟩
  have HT := Lib.hid ht
  cases hu : okB nu lu
  · have HU := Lib.hid hu
    have HE : Hid (cdR nt lt nu lu = -1) := by show _ = _; unfold cdR cdB; rw [hu]; simp
    clear ht hu
    go_enter Try.func53, Try.ntmps53
    go_wp2_with fail
    rw [← HWa.out]
    refine (implTourOk nt at' lt ct Wa hrt HLT.out).mono ?_
    rintro e w1 ⟨rfl, hb1⟩
    rw [HT.out]
    have B1 := hba.trans (hb1.mono hba.size)
    have xu1 := xu.below hb1 xu.lt
    have xt1 := xt.below hb1 xt.lt
    have c0 := xu1.c0
    have c1 := xu1.c1
    go_wp2_with fail
    refine (implTourOk nu au lu cu w1 (hru.below hb1 (Nat.le_refl _)) HLU.out).mono ?_
    rintro e w2 ⟨rfl, hb2⟩
    rw [HU.out]
    have B2 := B1.trans (hb2.mono B1.size)
    have xu2 := xu1.below hb2 xu1.lt
    have xt2 := xt1.below hb2 xt1.lt
    clear c0 c1
    go_wp2
    go_ret
    exact ⟨by rw [HE.out]; rfl, B2⟩
  have HU := Lib.hid hu
  cases hn : (nt == nu)
  case false =>
    have HE : Hid (cdR nt lt nu lu = -1) := by show _ = _; unfold cdR cdB; rw [hn]; simp
    clear ht hu
    go_enter Try.func53, Try.ntmps53
    go_wp2_with fail
    rw [← HWa.out]
    refine (implTourOk nt at' lt ct Wa hrt HLT.out).mono ?_
    rintro e w1 ⟨rfl, hb1⟩
    rw [HT.out]
    have B1 := hba.trans (hb1.mono hba.size)
    have xu1 := xu.below hb1 xu.lt
    have xt1 := xt.below hb1 xt.lt
    have c0 := xu1.c0
    have c1 := xu1.c1
    go_wp2_with fail
    refine (implTourOk nu au lu cu w1 (hru.below hb1 (Nat.le_refl _)) HLU.out).mono ?_
    rintro e w2 ⟨rfl, hb2⟩
    rw [HU.out]
    have B2 := B1.trans (hb2.mono B1.size)
    have xu2 := xu1.below hb2 xu1.lt
    have xt2 := xt1.below hb2 xt1.lt
    clear c0 c1
    have c0 := xu2.c0
    have d0 := xt2.c0
    go_wp2
    go_ret
    exact ⟨by rw [HE.out]; rfl, B2⟩
  have hnn : nt = nu := by simpa using hn
  subst hnn
  have HKT : Hid (Ok nt lt) := okB_iff.1 ht
  have HKU : Hid (Ok nt lu) := okB_iff.1 hu
  have hl : lt.length = lu.length := by have := HKT.out.2.2.1; have := HKU.out.2.2.1; omega
  have hnl := HKT.out.2.2.1
  have hl8 : lt.length ≤ 8 := by have := HKT.out.2.1; omega
  have HE : Hid (cdR nt lt nt lu = dTo lt lu lt.length) := by show _ = _; unfold cdR cdB; rw [ht, hu]; simp
  subst hnl
  have HLL := Lib.hid hl
  clear ht hu hn hl
  refine (callsIn_wide (n := 8)).1 ?_
  refine callsIn_of_wp_marks Try.func53 rfl trivial ?_ rfl
  simp only [Try.ntmps53, List.size_toArray, List.length_cons, List.length_nil, Nat.reduceAdd, Nat.reduceSub, Array.replicate_succ, Array.replicate_zero, List.push_toArray, List.append_toArray, List.nil_append, List.cons_append]
  gi_wp2_with fail
  refine ⟨trivial, ?_⟩
  rw [← HWa.out]
  refine (callsIn_wide.2 (implTourOk _ at' lt ct Wa hrt HLT.out)).mono ?_
  rintro e w1 ⟨rfl, hb1⟩
  rw [HT.out]
  have B1 := hba.trans (hb1.mono hba.size)
  have xu1 := xu.below hb1 xu.lt
  have xt1 := xt.below hb1 xt.lt
  have c0 := xu1.c0
  have c1 := xu1.c1
  gi_wp2_with fail
  refine ⟨trivial, ?_⟩
  refine (callsIn_wide.2 (implTourOk _ au lu cu w1 (hru.below hb1 (Nat.le_refl _)) HLU.out)).mono ?_
  rintro e w2 ⟨rfl, hb2⟩
  rw [HU.out]
  have B2 := B1.trans (hb2.mono B1.size)
  have xu2 := xu1.below hb2 xu1.lt
  have xt2 := xt1.below hb2 xt1.lt
  clear c0 c1
  have hrt2 := (hrt.below hb1 (Nat.le_refl _)).below hb2 (Nat.le_refl _)
  have hru2 := (hru.below hb1 (Nat.le_refl _)).below hb2 (Nat.le_refl _)
  obtain ⟨W4, hW4⟩ : ∃ W4, W4 = w2.alloc (.cells #[.int .i64 0] 3) := ⟨_, rfl⟩
  have HW4 := Lib.hid hW4
  have hbW4 : Below w2.heap.size w2 W4 := by rw [hW4]; exact Below.one _ _
  have xd : W4.heap[w2.heap.size]? = some (.cells #[.int .i64 0] 3 (0, 0)) := by rw [hW4]; exact heap_alloc_new _ _
  have xt4 := xt2.below hbW4 xt2.lt
  have xu4 := xu2.below hbW4 xu2.lt
  have c0 := xu2.c0
  have d0 := xt4.c0
  have d1 := xt4.c1
  rw [hW4] at d0 d1
  have c00 := xt2.c0
  clear hW4
  gi_wp2_with fail
  refine ⟨trivial, ?_⟩
  rw [← HW4.out]
  refine (callsIn_wide.2 (games_any _ at' lt.length ct W4)).mono ?_
  rintro e W6 ⟨rfl, hW6⟩
  have s4 : W4.heap.size = w2.heap.size + 1 := by rw [HW4.out]; simp
  have x6 : Box W6 W4.heap.size 27 (.int .i64 lt.length) (.slice at' lt.length ct) := by rw [hW6]; exact Box.new _ _ _ _
  have hb6 : Below W4.heap.size W4 W6 := by rw [hW6]; exact Below.one _ _
  have s6 : W6.heap.size = W4.heap.size + 1 := by rw [hW6]; simp
  have hrt6 := (hrt2.below hbW4 (Nat.le_refl _)).below hb6 (Nat.le_refl _)
  have xd6 : W6.heap[w2.heap.size]? = some (.cells #[.int .i64 (cntF lu ([] : List (Pl lt.length)))] 3 (0, 0)) := (hb6.block w2.heap.size (by omega)).trans xd
  have xu6 := xu4.below hb6 xu4.lt
  have B6 := (B2.trans (hbW4.mono B2.size)).trans (hb6.mono (B2.trans (hbW4.mono B2.size)).size)
  have hBg : W4.heap.size ≠ w2.heap.size := by omega
  have hag : blk at' ≠ some w2.heap.size := by
    intro e
    rcases hrt2 with h | ⟨b, off, rfl, hbl, _⟩
    · have := HKT.out.1; rw [h] at this; simp at this
    · simp [blk] at e; omega
  have hug : w.heap.size + 1 ≠ w2.heap.size := by have := xu2.lt; omega
  have hg6 : w2.heap.size < W6.heap.size := by omega
  have hwg : w.heap.size ≤ w2.heap.size := B2.size
  have hw6 : w.heap.size ≤ W6.heap.size := B6.size
  have hlu8 : lu.length ≤ 8 := by have := HLL.out; omega
  have X6 := Lib.hid x6
  have HR6 := Lib.hid hrt6
  have XD6 := Lib.hid xd6
  have XU6 := Lib.hid xu6
  have BB6 := Lib.hid B6
  have HRU0 := Lib.hid hrowu
  clear hW6 x6 hb6 hrt6 xd6 xu6 B6 xd xu4 xt4 hbW4 hrt2 hru2 xt2 xu2 B2 hb2 xt1 xu1 B1 hb1 c0 d0 d1 c00 hba hrt hru xt xu s4 hrowu hrowt
  gi_wp2
  refine wpIn_rangeFunc_ownG (F := Fence.wide) rfl (by omega) (gf := 159) (lb := #[.pointer (some ⟨W4.heap.size, 0, none⟩)]) rfl trivial (enters_of Try.func159 (by kernel_rfl) rfl)
    (games_stops 7 (by omega) W4.heap.size w2.heap.size _ at' ct lt HKT.out W6 X6.out HR6.out hBg hag hg6) (fun h k => h.trans k) (fun W l o o' _ h hc _ => KeepsBut.put w2.heap.size W l o o' h hc) (Below.refl _ _) (fun _ => rfl)
    (fun pre W => (W.heap[w2.heap.size]? = some (.cells #[.int .i64 (cntF lu pre)] 3 (0, 0)) ∧ Box W (w.heap.size + 1) 27 (.int .i64 lt.length) (.slice au lu.length cu)) ∧ Below w.heap.size w W)
    (fun _ _ _ => False)
    (OwnFrom.and (Own.from (fun s A B row hs hg hr => ⟨obj_abidesP hs.1 rfl hg hr, hs.2.abides hg hr⟩) _) (ownFrom_below (Nat.le_refl _) hw6))
    (fun _ _ _ _ _ hs _ _ => hs)
    ⟨⟨XD6.out, XU6.out⟩, BB6.out⟩
    (fun x => { tmps := #[.agg #[.int .i64 lt.length, .slice at' lt.length ct], .agg #[.int .i64 lt.length, .slice au lu.length cu], .pointer (some ⟨w.heap.size, 0, none⟩), .pointer (some ⟨w.heap.size + 1, 0, none⟩), .int .i64 0, .pointer (some ⟨w2.heap.size, 0, none⟩), .int .i64 (x.1.val : Int), .int .i64 (x.2.val : Int), .agg #[.int .i64 lt.length, .slice at' lt.length ct], .bool true, .bool false, .bool false, .agg #[.int .i64 lt.length, .slice au lu.length cu], .bool true, .bool false, .bool false, .bool false, .pointer (some ⟨w.heap.size, 0, none⟩), .int .i64 lt.length, .pointer (some ⟨w.heap.size + 1, 0, none⟩), .int .i64 lt.length, .bool false, .bool false, .agg #[.int .i64 lt.length, .slice at' lt.length ct], .func (.func 159) #[] #[.pointer (some ⟨W4.heap.size, 0, none⟩)], .int .i64 (x.1.val : Int), .int .i64 (x.2.val : Int), undef, undef, undef, undef, undef, undef, undef], defers := [] }) ?assign ?body ?done ?stop
  case assign =>
    intro ly x W K hK
    unfold encP
    gi_wp2
    exact hK
  case body =>
    rintro ly pre x W ⟨⟨hx, hxu⟩, hB⟩ hlen
    have d0 := hxu.c0
    have d1 := hxu.c1
    obtain ⟨q, hq⟩ : ∃ q, q = cntF lu pre := ⟨_, rfl⟩
    have hq64 : q ≤ 64 := by
      have h1 : cntF lu pre ≤ pre.length := List.countP_le_length
      have h2 := games_len lt.length lt lt.length (Nat.le_refl _)
      have h3 : lt.length * lt.length ≤ 8 * 8 := Nat.mul_le_mul hl8 hl8
      unfold gamesL at hlen
      omega
    rw [← hq] at hx
    have HQ := Lib.hid hq
    have HX := Lib.hid hx
    have H2 := Lib.hid hxu
    have H4 := Lib.hid hB
    have hru := HRU0.out.below hB (Nat.le_refl _)
    have hx2 : x.2.val < lu.length := by have := x.2.isLt; have := HLL.out; omega
    have hx1 : x.1.val < 64 := by have := x.1.isLt; omega
    have HR := Lib.hid hru
    clear hx hxu hB hru hq hlen
    cases hbt : bt lu x.2.val x.1.val
    · have hcn : Hid (cntF lu (pre ++ [x]) = q) := by show _ = _; rw [cntF_snoc, hbt, ← HQ.out]; simp
      gi_wp2_with fail
      refine ⟨trivial, ?_⟩
      refine (CallsIn.inRound ly (callsIn_wide.2 (beats_any _ au lu cu x.2.val x.1.val W HR.out HLU.out hx2 hx1))).mono ?_
      rintro e W' ⟨rfl, hb'⟩
      rw [hbt]
      have G1 := Lib.hid ((hb'.block w2.heap.size (lt_of_heapP HX.out)).trans HX.out)
      have G2 := Lib.hid (H2.out.below hb' H2.out.lt)
      have G4 := Lib.hid (H4.out.trans (hb'.mono H4.out.size))
      have G5 := Lib.hid (KeepsFrom.of_grownBy (B := W6.heap.size) (grown_of_below hb') (fun j e => by cases e))
      have G6 := Lib.hid (KeepsBut.below (g := w2.heap.size) hb')
      clear hb' d0 d1
      gi_wp2
      exact ⟨G5.out, G6.out, ⟨by rw [hcn.out]; exact G1.out, G2.out⟩, G4.out⟩
    · have hcn : Hid (cntF lu (pre ++ [x]) = q + 1) := by show _ = _; rw [cntF_snoc, hbt, ← HQ.out]; simp
      gi_wp2_with fail
      refine ⟨trivial, ?_⟩
      refine (CallsIn.inRound ly (callsIn_wide.2 (beats_any _ au lu cu x.2.val x.1.val W HR.out HLU.out hx2 hx1))).mono ?_
      rintro e W' ⟨rfl, hb'⟩
      rw [hbt]
      have g1 := (hb'.block w2.heap.size (lt_of_heapP HX.out)).trans HX.out
      have e0 : W'.cell? ⟨w2.heap.size, 0, none⟩ = some (.int .i64 q) := by unfold World.cell?; simp only; rw [g1]; rfl
      have e1 : W'.frozen? ⟨w2.heap.size, 0, none⟩ = false := by unfold World.frozen?; simp only; rw [g1]; rfl
      have gs : (W'.setCell ⟨w2.heap.size, 0, none⟩ (.int .i64 ((q + 1 : Nat) : Int))).heap[w2.heap.size]? = some (.cells #[.int .i64 ((q + 1 : Nat) : Int)] 3 (0, 0)) := heap_setCell_same W' w2.heap.size 0 _ 3 _ g1
      have gg : W'.grownBy (W'.setCell ⟨w2.heap.size, 0, none⟩ (.int .i64 ((q + 1 : Nat) : Int))) (some w2.heap.size) := ⟨rfl, rfl, rfl, by simp [World.setCell], fun k hk hn => heap_setCell_other W' ⟨w2.heap.size, 0, none⟩ k _ (fun e => hn (by rw [e]))⟩
      have G1 := Lib.hid gs
      have G2 := Lib.hid ((H2.out.below hb' H2.out.lt).other ⟨w2.heap.size, 0, none⟩ (.int .i64 ((q + 1 : Nat) : Int)) hug)
      have G4 := Lib.hid ((H4.out.trans (hb'.mono H4.out.size)).setCell (p := ⟨w2.heap.size, 0, none⟩) hwg (.int .i64 ((q + 1 : Nat) : Int)))
      have G5 := Lib.hid ((KeepsFrom.of_grownBy (B := W6.heap.size) (grown_of_below hb') (fun j e => by cases e)).trans (KeepsFrom.of_grownBy gg (fun j e => by cases e; exact hg6)))
      have G6 := Lib.hid ((KeepsBut.below (g := w2.heap.size) hb').trans (KeepsBut.grown gg))
      clear hb' d0 d1 g1 gs gg
      gi_wp2
      exact ⟨by simpa using G5.out, by simpa using G6.out, ⟨by rw [hcn.out]; simpa using G1.out, by simpa using G2.out⟩, by simpa using G4.out⟩
  case done =>
    rintro D ys W hD rfl ⟨⟨hx, hxu⟩, hB⟩ hK
    have hz : cntF lu (gamesL lt.length lt) = dTo lt lu lt.length := dTo_games HKT.out HKU.out HLL.out lt.length (Nat.le_refl _)
    rw [hz] at hx
    have e0 : W.cell? ⟨w2.heap.size, 0, none⟩ = some (.int .i64 (dTo lt lu lt.length)) := by unfold World.cell?; simp only; rw [hx]; rfl
    have H4 := Lib.hid hB
    have H5 := Lib.hid hK
    clear hx hxu hB hK
    gi_wp2
    refine ⟨by simp, .inl ⟨_, _, rfl, run_takeDeferred H5.out, ?_⟩⟩
    refine ⟨_, results_tmp rfl _ _ _, by rw [HE.out]; rfl, H4.out.grown (grownBy_putObj' _ D (.deferred none)) H4.out.size (fun k e => by cases e; omega)⟩
  case stop =>
    rintro D c pre W _ _ h _
    exact h.elim
end Go.Proofs.Ytpndfmlkceplcaa
