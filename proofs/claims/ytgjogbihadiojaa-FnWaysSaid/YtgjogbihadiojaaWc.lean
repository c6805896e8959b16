/-
  The model's list of all triangles. Condition: the tour is valid.
-/
import Derived.Test.YtgjogbihadiojaaWb
import Derived.Test.YtgjogbihadiojaaD
namespace Go.Proofs.Ytgjogbihadiojaa
open Go.ChangeShapes Go.WideShapes Go.ChangeAt Go.RowKit
set_option linter.unusedVariables false

def t3 (a b c : Nat) : List Int := [(a : Int), (b : Int), (c : Int)]
def trB (l : List Int) (a b c : Nat) : Bool := !(c == b) && (bt l a b && (bt l b c && bt l c a))
def triC (l : List Int) (a b c : Nat) : List (List Int) := ((List.range c).filter fun x => decide (a < x) && trB l a b x).map fun x => t3 a b x
def triB (l : List Int) (a b : Nat) : List (List Int) := (List.range b).flatMap fun y => if a < y then triC l a y l.length else []
def triA (l : List Int) (a : Nat) : List (List Int) := (List.range a).flatMap fun x => triB l x l.length
/-- All triangles, in order. -/
def triL (l : List Int) : List (List Int) := triA l l.length
theorem triC_start (l : List Int) (a b : Nat) : triC l a b (a + 1) = [] := by
  unfold triC
  rw [List.map_eq_nil_iff, List.filter_eq_nil_iff]
  intro x hx
  have := List.mem_range.1 hx
  simp; omega
theorem triC_yes (l : List Int) (a b c : Nat) (ha : a < c) (h : trB l a b c = true) : triC l a b (c + 1) = triC l a b c ++ [t3 a b c] := by
  unfold triC
  rw [List.range_succ, List.filter_append, List.map_append]
  simp [ha, h]
theorem triC_no (l : List Int) (a b c : Nat) (h : trB l a b c = false) : triC l a b (c + 1) = triC l a b c := by
  unfold triC
  rw [List.range_succ, List.filter_append, List.map_append]
  simp [h]
theorem triB_start (l : List Int) (a : Nat) : triB l a (a + 1) = [] := by
  unfold triB
  rw [List.flatMap_eq_nil_iff]
  intro x hx
  have := List.mem_range.1 hx
  rw [if_neg (by omega)]
theorem triB_succ (l : List Int) (a b : Nat) (h : a < b) : triB l a (b + 1) = triB l a b ++ triC l a b l.length := by
  unfold triB
  rw [List.range_succ, List.flatMap_append]
  simp [h]
theorem triA_succ (l : List Int) (a : Nat) : triA l (a + 1) = triA l a ++ triB l a l.length := by
  unfold triA
  rw [List.range_succ, List.flatMap_append]
  simp
theorem triC_len (l : List Int) (a b c : Nat) : (triC l a b c).length ≤ c := by
  unfold triC
  rw [List.length_map]
  exact Nat.le_trans (List.length_filter_le _ _) (by simp)
theorem triB_len (l : List Int) (a b : Nat) : (triB l a b).length ≤ b * l.length := by
  induction b with
  | zero => simp [triB]
  | succ b ih =>
    unfold triB at ih ⊢
    rw [List.range_succ, List.flatMap_append, List.length_append, Nat.succ_mul]
    have : (List.flatMap (fun y => if a < y then triC l a y l.length else []) [b]).length ≤ l.length := by
      simp only [List.flatMap_cons, List.flatMap_nil, List.append_nil]
      split
      · exact triC_len _ _ _ _
      · simp
    omega
theorem triA_len (l : List Int) (a : Nat) : (triA l a).length ≤ a * (l.length * l.length) := by
  induction a with
  | zero => simp [triA]
  | succ a ih =>
    rw [triA_succ, List.length_append, Nat.succ_mul]
    have := triB_len l a l.length
    omega
theorem mul3 (n : Nat) (h : n ≤ 8) : n * (n * n) ≤ 512 := by
  have : ∀ n : Fin 9, n.val * (n.val * n.val) ≤ 512 := by decide
  exact this ⟨n, by omega⟩
theorem mul2 (n m : Nat) (h : n ≤ 8) (hm : m ≤ 8) : m * n ≤ 64 := by
  have : ∀ n m : Fin 9, m.val * n.val ≤ 64 := by decide
  exact this ⟨n, by omega⟩ ⟨m, by omega⟩
theorem triL_len (l : List Int) (h : l.length ≤ 8) : (triL l).length ≤ 512 := Nat.le_trans (triA_len l l.length) (mul3 _ h)
theorem tri_room (l : List Int) (a b c : Nat) (h : l.length ≤ 8) (ha : a ≤ 8) (hb : b ≤ 8) (hc : c ≤ 8) : (triA l a ++ triB l a b ++ triC l a b c).length ≤ 584 := by
  have h1 := triA_len l a
  have h2 := triB_len l a b
  have h3 := triC_len l a b c
  have h4 := mul2 l.length l.length h h
  have h5 : a * (l.length * l.length) ≤ 8 * 64 := Nat.mul_le_mul ha h4
  have h6 := mul2 l.length b h hb
  rw [List.length_append, List.length_append]
  omega
/-- Each row has three numbers. -/
theorem triC_row {l : List Int} {a b c : Nat} {r : List Int} (h : r ∈ triC l a b c) : r.length = 3 := by
  unfold triC at h
  obtain ⟨x, _, rfl⟩ := List.mem_map.1 h
  rfl
theorem triB_row {l : List Int} {a b : Nat} {r : List Int} (h : r ∈ triB l a b) : r.length = 3 := by
  unfold triB at h
  obtain ⟨y, _, hy⟩ := List.mem_flatMap.1 h
  split at hy
  · exact triC_row hy
  · cases hy
theorem triL_row {l : List Int} {r : List Int} (h : r ∈ triL l) : r.length = 3 := by
  unfold triL triA at h
  obtain ⟨y, _, hy⟩ := List.mem_flatMap.1 h
  exact triB_row hy

theorem own_someE4 {e : TypeId} {w : World} {B n : Nat} {v : Value} {xs : List Value} (h : w.ownsRow B e 1 v (n + 1) xs) : ∃ g cap, v = .slice (some ⟨g, 0, none⟩) (n + 1) cap ∧ B ≤ g ∧ g < w.heap.size ∧ n + 1 ≤ cap := by
  have h0 := h
  rcases h.2 with ⟨_, hx⟩ | ⟨g, cap, cur, rfl, hb, hg, hnc, _⟩
  · omega
  · exact ⟨g, cap, rfl, hb, (h0.lt g rfl).2, hnc⟩
/-- What the loops hold of the memory. -/
structure La (w W : World) (n : Int) (a : Option Addr) (cap : Nat) (l : List Int) (ao : Option Addr) (co : Nat) (gs : List (Nat × Nat)) (Ls : List (List Int)) : Prop where
  hb : Below w.heap.size w W
  xt : Box W w.heap.size 25 (.int .i64 n) (.slice a l.length cap)
  hr : IntRow W a l
  ss : OwnSS W (w.heap.size + 1) ao co gs Ls
theorem La.below {w W W' : World} {n : Int} {a : Option Addr} {cap : Nat} {l : List Int} {ao : Option Addr} {co : Nat} {gs : List (Nat × Nat)} {Ls : List (List Int)} (h : La w W n a cap l ao co gs Ls) (hb : Below W.heap.size W W') : La w W' n a cap l ao co gs Ls :=
  ⟨h.hb.trans (hb.mono h.hb.size), h.xt.below hb h.xt.lt, h.hr.below hb (Nat.le_refl _), h.ss.below hb⟩
/-- A further row of three. -/
theorem La.push {w W W3 : World} {n : Int} {a : Option Addr} {cap : Nat} {l : List Int} {ao : Option Addr} {co : Nat} {gs : List (Nat × Nat)} {Ls : List (List Int)} (h : La w W n a cap l ao co gs Ls) (hrw : IntRow w a l) (x y z : Int) {g3 c3 : Nat}
    (hg : ((W.alloc (.cells #[.int .i64 x, .int .i64 y, .int .i64 z] 3)).alloc (.cells #[.slice (some ⟨W.heap.size, 0, none⟩) 3 3] 23)).grownBy W3 (blk ao))
    (ho : W3.ownsRow (w.heap.size + 1) 23 1 (.slice (some ⟨g3, 0, none⟩) (Ls.length + 1) c3) (Ls.length + 1) (svs gs Ls ++ [.slice (some ⟨W.heap.size, 0, none⟩) 3 3])) :
    La w W3 n a cap l (some ⟨g3, 0, none⟩) c3 (gs ++ [(W.heap.size, 3)]) (Ls ++ [[x, y, z]]) := by
  have hs := h.hb.size
  have hxl := h.xt.lt
  have g1 : W.grownBy ((W.alloc (.cells #[.int .i64 x, .int .i64 y, .int .i64 z] 3)).alloc (.cells #[.slice (some ⟨W.heap.size, 0, none⟩) 3 3] 23)) none :=
    (World.grownBy_alloc W _ none).trans (World.grownBy_alloc _ _ _)
  have hrow : ((W.alloc (.cells #[.int .i64 x, .int .i64 y, .int .i64 z] 3)).alloc (.cells #[.slice (some ⟨W.heap.size, 0, none⟩) 3 3] 23)).ownsRow (w.heap.size + 1) 3 1 (.slice (some ⟨W.heap.size, 0, none⟩) [x, y, z].length 3) [x, y, z].length ([x, y, z].map iv) :=
    (World.ownsRow_lit (base := w.heap.size + 1) (e := 3) (size := 1) W #[.int .i64 x, .int .i64 y, .int .i64 z] 3 hxl (by unfold maxLen; omega) rfl).alloc _
  have hb1 : Below w.heap.size w ((W.alloc (.cells #[.int .i64 x, .int .i64 y, .int .i64 z] 3)).alloc (.cells #[.slice (some ⟨W.heap.size, 0, none⟩) 3 3] 23)) := by
    have hA := h.hb.alloc hs (.cells #[.int .i64 x, .int .i64 y, .int .i64 z] 3)
    exact hA.alloc hA.size _
  have hne : ∀ k, blk ao = some k → w.heap.size + 1 ≤ k := fun k hk => (h.ss.blkO hk).1
  have hb3 : Below w.heap.size w W3 := hb1.grown hg hb1.size (fun k e => by have := hne k e; omega)
  refine ⟨hb3, ?_, hrw.below hb3 (Nat.le_refl _), h.ss.push g1 hrow (Nat.le_refl _) hg ho⟩
  exact (h.xt.grown g1 (by simp)).grown hg (fun e => by have := hne _ e; omega)

set_option maxRecDepth 100000 in
set_option maxHeartbeats 2000000 in
theorem l04All_any (n : Int) (a : Option Addr) (l : List Int) (cap : Nat) (w : World) (hrow : IntRow w a l) (hok : Ok n l) :
    Calls Try.prog 101 #[.agg #[.int .i64 n, .slice a l.length cap]] w fun e w' => (∃ a0 c0 gs, e = .returned (.slice a0 (triL l).length c0) ∧ OwnSS w' w.heap.size a0 c0 gs (triL l)) ∧ Below w.heap.size w w' := by
  obtain ⟨i0, hi, hz0, hz1, hz2⟩ := info_parts infoSl
  have hnl := hok.2.2.1
  have hl8 : l.length ≤ 8 := by have := hok.2.1; omega
  have hlm : l.length ≤ maxLen := by unfold maxLen; omega
  have HLM := Lib.hid hlm
  have HRW := Lib.hid hrow
  obtain ⟨Wa, hWa⟩ : ∃ Wa, Wa = (w.alloc (.cells #[.int .i64 n, .slice a l.length cap] 25)).alloc (.cells #[] 23) := ⟨_, rfl⟩
  have hb1 : Below w.heap.size w (w.alloc (.cells #[.int .i64 n, .slice a l.length cap] 25)) := (Below.refl _ _).alloc (Nat.le_refl _) _
  have hba : Below w.heap.size w Wa := by rw [hWa]; exact hb1.alloc hb1.size _
  have hLa : Hid (La w Wa n a cap l (some ⟨w.heap.size + 1, 0, none⟩) 0 [] []) := by
    refine ⟨hba, ?_, hrow.below hba (Nat.le_refl _), ⟨rfl, ?_, fun i h => absurd h (Nat.not_lt_zero _), fun i j h => absurd h (Nat.not_lt_zero _)⟩⟩
    · rw [hWa]; exact (Box.new w 25 _ _).grown (World.grownBy_alloc _ _ none) (by simp)
    · have := World.ownsRow_lit (base := w.heap.size + 1) (e := 23) (size := 1) (w.alloc (.cells #[.int .i64 n, .slice a l.length cap] 25)) #[] 0 (by simp) (by simp) rfl
      rw [hWa]; simpa [svs] using this
  have HWa := Lib.hid hWa
  subst hnl
  clear hWa hb1 hba hlm hrow hok
  go_enter Try.func101, Try.ntmps101
  go_wp2
  rw [← HWa.out]
  go_loopw [3, 4] (fun o i wr => ∃ (x m : Nat) (ao : Option Addr) (co : Nat) (gs : List (Nat × Nat)), x ≤ l.length ∧ i = .int .i64 x ∧ o = .slice ao m co ∧ Hid (m = (triA l x).length) ∧ Hid (La w wr l.length a cap l ao co gs (triA l x))) (fun _ i _ => l.length - (intOf i).toNat)
  case atStart => exact ⟨0, 0, _, 0, [], Nat.zero_le _, rfl, rfl, rfl, hLa.out⟩
  case round =>
    clear hLa
    obtain ⟨x, m, ao, co, gs, hx, rfl, rfl, hm, hla⟩ := hrel
    have c0 := hla.out.xt.c0
    by_cases hlt : x < l.length
    · have hxi : (x : Int) < (l.length : Int) := by omega
      have hxb : (x : Int) ≤ 8 := by omega
      have HB0 : Hid (triA l x ++ triB l x (x + 1) = triA l x) := by show _ = _; rw [triB_start, List.append_nil]
      have hS : Hid (La w wr l.length a cap l ao co gs (triA l x ++ triB l x (x + 1))) := by rw [HB0.out]; exact hla.out
      have HLEN : Hid (m = (triA l x ++ triB l x (x + 1)).length) := by show _ = _; rw [HB0.out]; exact hm.out
      clear hla hm
      go_wp2
      clear c0
      go_loopw [3, 5] (fun o i wr2 => ∃ (y m : Nat) (ao : Option Addr) (co : Nat) (gs : List (Nat × Nat)), x < y ∧ y ≤ l.length ∧ i = .int .i64 y ∧ o = .slice ao m co ∧ Hid (m = (triA l x ++ triB l x y).length) ∧ Hid (La w wr2 l.length a cap l ao co gs (triA l x ++ triB l x y))) (fun _ i _ => l.length - (intOf i).toNat)
      case atStart => exact ⟨x + 1, m, ao, co, gs, by omega, by omega, by go_num, rfl, HLEN.out, hS.out⟩
      case round =>
        clear hS HLEN HB0
        obtain ⟨y, m, ao, co, gs, hxy, hy, rfl, rfl, hm, hlb⟩ := hrel
        have c0 := hlb.out.xt.c0
        by_cases hlt2 : y < l.length
        · have hyi : (y : Int) < (l.length : Int) := by omega
          have HC0 : Hid (triA l x ++ triB l x y ++ triC l x y (x + 1) = triA l x ++ triB l x y) := by show _ = _; rw [triC_start, List.append_nil]
          have hS : Hid (La w wr l.length a cap l ao co gs (triA l x ++ triB l x y ++ triC l x y (x + 1))) := by rw [HC0.out]; exact hlb.out
          have HLEN : Hid (m = (triA l x ++ triB l x y ++ triC l x y (x + 1)).length) := by show _ = _; rw [HC0.out]; exact hm.out
          clear hlb hm
          go_wp2
          clear c0
          go_loopw [3, 6] (fun o i wr3 => ∃ (z m : Nat) (ao : Option Addr) (co : Nat) (gs : List (Nat × Nat)), x < z ∧ z ≤ l.length ∧ i = .int .i64 z ∧ o = .slice ao m co ∧ Hid (m = (triA l x ++ triB l x y ++ triC l x y z).length) ∧ Hid (La w wr3 l.length a cap l ao co gs (triA l x ++ triB l x y ++ triC l x y z))) (fun _ i _ => l.length - (intOf i).toNat)
          case atStart => exact ⟨x + 1, m, ao, co, gs, by omega, by omega, by go_num, rfl, HLEN.out, hS.out⟩
          case round =>
            clear hS HLEN HC0
            obtain ⟨z, m, ao, co, gs, hxz, hz, rfl, rfl, hm, hlc⟩ := hrel
            have c0 := hlc.out.xt.c0
            have c1 := hlc.out.xt.c1
            by_cases hlt3 : z < l.length
            · have hzi : (z : Int) < (l.length : Int) := by omega
              have hyi' : (y : Int) < (l.length : Int) := by omega
              have hx64 : x < 64 := by omega
              have hy64 : y < 64 := by omega
              have hz64 : z < 64 := by omega
              have hno : Hid (trB l x y z = false → triA l x ++ triB l x y ++ triC l x y (z + 1) = triA l x ++ triB l x y ++ triC l x y z) := fun h => by rw [triC_no l x y z h]
              by_cases hzy : z = y
              · have hzy' : ((z : Int) == (y : Int)) = true := by rw [beq_iff_eq]; omega
                have hzy2 : ((z : Int) != (y : Int)) = false := by simp [hzy]
                have HE := hno.out (by unfold trB; simp [hzy])
                have HS : Hid (La w wr l.length a cap l ao co gs (triA l x ++ triB l x y ++ triC l x y (z + 1)) ∧ m = (triA l x ++ triB l x y ++ triC l x y (z + 1)).length) := by rw [HE]; exact ⟨hlc.out, hm.out⟩
                clear HE hno hlc
                subst hzy
                go_wp2
                go_roundw
                case rel => exact ⟨z + 1, m, ao, co, gs, by omega, by omega, by go_num, rfl, HS.out.2, HS.out.1⟩
                case measure => simp [intOf]; omega
              · have hzy' : ((z : Int) == (y : Int)) = false := by rw [beq_eq_false_iff_ne]; omega
                have hzy2 : ((z : Int) != (y : Int)) = true := by simp; omega
                have hneb : (z == y) = false := by rw [beq_eq_false_iff_ne]; exact hzy
                have HCB : Hid (∀ (i j : Nat) (W : World), i < l.length → j < 64 → IntRow W a l → Calls Try.prog 96 #[.agg #[.int .i64 l.length, .slice a l.length cap], .int .i64 i, .int .i64 j] W fun e w' => e = .returned (.bool (bt l i j)) ∧ Below W.heap.size W w') := fun i j W hi hj hr => l02Beats_any l.length a l cap i j W hr HLM.out hi hj
                have hxl : x < l.length := hlt
                cases h1 : bt l x y
                · have HE := hno.out (by unfold trB; rw [hneb, h1]; rfl)
                  have H1 := Lib.hid h1
                  have HL := hlc
                  have HEE := Lib.hid HE
                  clear h1 hlc HE hno hzy hneb
                  go_wp2_with fail
                  refine (HCB.out x y _ hxl hy64 HL.out.hr).mono ?_
                  rintro e w1 ⟨rfl, hb1⟩
                  rw [H1.out]
                  have HS : Hid (La w w1 l.length a cap l ao co gs (triA l x ++ triB l x y ++ triC l x y (z + 1)) ∧ m = (triA l x ++ triB l x y ++ triC l x y (z + 1)).length) := by rw [HEE.out]; exact ⟨HL.out.below hb1, hm.out⟩
                  clear HL HEE hb1 c0 c1
                  go_wp2
                  go_roundw
                  case rel => exact ⟨z + 1, m, ao, co, gs, by omega, by omega, by go_num, rfl, HS.out.2, HS.out.1⟩
                  case measure => simp [intOf]; omega
                cases h2 : bt l y z
                · have HE := hno.out (by unfold trB; rw [hneb, h1, h2]; rfl)
                  have H1 := Lib.hid h1
                  have H2 := Lib.hid h2
                  have HL := hlc
                  have HEE := Lib.hid HE
                  clear h1 h2 hlc HE hno hzy hneb
                  go_wp2_with fail
                  refine (HCB.out x y _ hxl hy64 HL.out.hr).mono ?_
                  rintro e w1 ⟨rfl, hb1⟩
                  rw [H1.out]
                  have HL1 := Lib.hid (HL.out.below hb1)
                  clear c0 c1 hb1 HL
                  have c0 := HL1.out.xt.c0
                  have c1 := HL1.out.xt.c1
                  go_wp2_with fail
                  refine (HCB.out y z _ hlt2 hz64 HL1.out.hr).mono ?_
                  rintro e w2 ⟨rfl, hb2⟩
                  rw [H2.out]
                  have HS : Hid (La w w2 l.length a cap l ao co gs (triA l x ++ triB l x y ++ triC l x y (z + 1)) ∧ m = (triA l x ++ triB l x y ++ triC l x y (z + 1)).length) := by rw [HEE.out]; exact ⟨HL1.out.below hb2, hm.out⟩
                  clear HL1 HEE hb2 c0 c1
                  go_wp2
                  go_roundw
                  case rel => exact ⟨z + 1, m, ao, co, gs, by omega, by omega, by go_num, rfl, HS.out.2, HS.out.1⟩
                  case measure => simp [intOf]; omega
                cases h3 : bt l z x
                · have HE := hno.out (by unfold trB; rw [hneb, h1, h2, h3]; rfl)
                  have H1 := Lib.hid h1
                  have H2 := Lib.hid h2
                  have H3 := Lib.hid h3
                  have HL := hlc
                  have HEE := Lib.hid HE
                  clear h1 h2 h3 hlc HE hno hzy hneb
                  go_wp2_with fail
                  refine (HCB.out x y _ hxl hy64 HL.out.hr).mono ?_
                  rintro e w1 ⟨rfl, hb1⟩
                  rw [H1.out]
                  have HL1 := Lib.hid (HL.out.below hb1)
                  clear c0 c1 hb1 HL
                  have c0 := HL1.out.xt.c0
                  have c1 := HL1.out.xt.c1
                  go_wp2_with fail
                  refine (HCB.out y z _ hlt2 hz64 HL1.out.hr).mono ?_
                  rintro e w2 ⟨rfl, hb2⟩
                  rw [H2.out]
                  have HL2 := Lib.hid (HL1.out.below hb2)
                  clear c0 c1 hb2 HL1
                  have c0 := HL2.out.xt.c0
                  have c1 := HL2.out.xt.c1
                  go_wp2_with fail
                  refine (HCB.out z x _ hlt3 hx64 HL2.out.hr).mono ?_
                  rintro e w3 ⟨rfl, hb3⟩
                  rw [H3.out]
                  have HS : Hid (La w w3 l.length a cap l ao co gs (triA l x ++ triB l x y ++ triC l x y (z + 1)) ∧ m = (triA l x ++ triB l x y ++ triC l x y (z + 1)).length) := by rw [HEE.out]; exact ⟨HL2.out.below hb3, hm.out⟩
                  clear HL2 HEE hb3 c0 c1
                  go_wp2
                  go_roundw
                  case rel => exact ⟨z + 1, m, ao, co, gs, by omega, by omega, by go_num, rfl, HS.out.2, HS.out.1⟩
                  case measure => simp [intOf]; omega
                · have HE : Hid (triA l x ++ triB l x y ++ triC l x y (z + 1) = (triA l x ++ triB l x y ++ triC l x y z) ++ [t3 x y z]) := by
                    show _ = _
                    rw [triC_yes l x y z hxz (by unfold trB; rw [hneb, h1, h2, h3]; rfl), List.append_assoc, List.append_assoc, List.append_assoc]
                  have hroom := tri_room l x y z hl8 (by omega) (by omega) (by omega)
                  obtain ⟨Ls, hLs⟩ : ∃ Ls, Ls = triA l x ++ triB l x y ++ triC l x y z := ⟨_, rfl⟩
                  rw [← hLs] at HE hroom hlc hm
                  obtain rfl := hm.out
                  have HLS := Lib.hid hLs
                  have H1 := Lib.hid h1
                  have H2 := Lib.hid h2
                  have H3 := Lib.hid h3
                  have HL := hlc
                  clear h1 h2 h3 hlc hno hzy hneb hLs hm
                  go_wp2_with fail
                  refine (HCB.out x y _ hxl hy64 HL.out.hr).mono ?_
                  rintro e w1 ⟨rfl, hb1⟩
                  rw [H1.out]
                  have HL1 := Lib.hid (HL.out.below hb1)
                  clear c0 c1 hb1 HL
                  have c0 := HL1.out.xt.c0
                  have c1 := HL1.out.xt.c1
                  go_wp2_with fail
                  refine (HCB.out y z _ hlt2 hz64 HL1.out.hr).mono ?_
                  rintro e w2 ⟨rfl, hb2⟩
                  rw [H2.out]
                  have HL2 := Lib.hid (HL1.out.below hb2)
                  clear c0 c1 hb2 HL1
                  have c0 := HL2.out.xt.c0
                  have c1 := HL2.out.xt.c1
                  go_wp2_with fail
                  refine (HCB.out z x _ hlt3 hx64 HL2.out.hr).mono ?_
                  rintro e w3 ⟨rfl, hb3⟩
                  rw [H3.out]
                  have HL3 := Lib.hid (HL2.out.below hb3)
                  clear c0 c1 hb3 HL2
                  have hOW := ((HL3.out.ss.out.alloc (.cells #[.int .i64 x, .int .i64 y, .int .i64 z] 3)).alloc (.cells #[.slice (some ⟨w3.heap.size, 0, none⟩) 3 3] 23))
                  have HOW := Lib.hid hOW
                  have hwz := HL3.out.xt.lt
                  have HCN : Hid (∀ j u, [Value.slice (some ⟨w3.heap.size, 0, none⟩) 3 3][j]? = some u → ((w3.alloc (.cells #[.int .i64 x, .int .i64 y, .int .i64 z] 3)).alloc (.cells #[.slice (some ⟨w3.heap.size, 0, none⟩) 3 3] 23)).cell? ((⟨w3.heap.size + 1, 0, none⟩ : Addr).add j) = some u) := by
                    have h := cell_one_new (w3.alloc (.cells #[.int .i64 x, .int .i64 y, .int .i64 z] 3)) (.slice (some ⟨w3.heap.size, 0, none⟩) 3 3) 23
                    rw [World.size_alloc] at h
                    exact h
                  clear hOW
                  go_wp2_with (first | (at_builtin; refine wpList_append_own _ rfl (.tmp 51) (.tmp 56) 84 rfl (w.heap.size + 1) 23 i0 (.slice none 0 0) 1 24 Try.underlying84 hi hz0 hz1 hz2 rfl (by decide) (.slice ao Ls.length co) Ls.length (svs gs Ls) rfl HOW.out ⟨w3.heap.size + 1, 0, none⟩ 1 1 [.slice (some ⟨w3.heap.size, 0, none⟩) 3 3] rfl rfl HCN.out (by intro u hu; simp at hu; subst hu; rfl) (by unfold maxLen; omega) (by omega) (by simp; omega) ?_; intro v4 w4 ho4 hg4 hn4; obtain ⟨g4, c4, rfl, _, _, _⟩ := own_someE4 ho4; rw [blk_own] at hg4) | fail)
                  have HS := Lib.hid (HL3.out.push HRW.out x y z hg4 ho4)
                  clear ho4 hg4 hn4 HOW
                  have hlen : Ls.length + 1 = (triA l x ++ triB l x y ++ triC l x y (z + 1)).length := by rw [HE.out]; simp
                  have HLN := Lib.hid hlen
                  clear hlen
                  go_wp2
                  go_roundw
                  case rel => exact ⟨z + 1, _, _, c4, _, by omega, by omega, by go_num, rfl, HLN.out, by rw [HE.out]; exact HS.out⟩
                  case measure => simp [intOf]; omega
            · obtain rfl : z = l.length := by omega
              have hzi : ¬ (l.length : Int) < (l.length : Int) := by omega
              have HE : Hid (triA l x ++ triB l x (y + 1) = triA l x ++ triB l x y ++ triC l x y l.length) := by show _ = _; rw [triB_succ l x y hxy, List.append_assoc]
              go_wp2
              go_roundw
              case rel => exact ⟨y + 1, m, ao, co, gs, by omega, by omega, by go_num, rfl, by rw [HE.out]; exact hm.out, by rw [HE.out]; exact hlc.out⟩
              case measure => simp [intOf]; omega
        · obtain rfl : y = l.length := by omega
          have hyi : ¬ (l.length : Int) < (l.length : Int) := by omega
          have HE : Hid (triA l (x + 1) = triA l x ++ triB l x l.length) := triA_succ l x
          go_wp2
          go_roundw
          case rel => exact ⟨x + 1, m, ao, co, gs, by omega, by go_num, rfl, by rw [HE.out]; exact hm.out, by rw [HE.out]; exact hlb.out⟩
          case measure => simp [intOf]; omega
    · obtain rfl : x = l.length := by omega
      have hxi : ¬ (l.length : Int) < (l.length : Int) := by omega
      go_wp2
      go_ret
      exact ⟨⟨ao, co, by rw [show (triL l).length = m from hm.out.symm]; rfl, gs, hla.out.ss.mono (Nat.le_succ _)⟩, hla.out.hb⟩
end Go.Proofs.Ytgjogbihadiojaa
