/-
  The tour of a code (of the program), and how many kinds of tours there are (mathematics; a count by the kernel over all codes of tours of up to 5 players). No conditions but the bounds.
-/
import Derived.Test.YteiadhfjpohmdaaXp
import Derived.Test.Yteiadhfjpohmdaa3M
import Derived.Test.YteiadhfjpohmdaaM
namespace Go.Proofs.Yteiadhfjpohmdaa
open Go.ChangeShapes Go.WideShapes Go.ChangeAt Go.RowKit
set_option linter.unusedVariables false

/-- One more win. -/
def addW (ys : List Nat) (i j : Nat) : List Nat := ys.set i (ys.getD i 0 ||| 2 ^ j)
/-- The games of player a against the first b ones, and what is left of the code. -/
def innP (a : Nat) : Nat → List Nat × Nat → List Nat × Nat
  | 0, s => s
  | b + 1, s => (if (innP a b s).2 % 2 = 1 then addW (innP a b s).1 a b else addW (innP a b s).1 b a, (innP a b s).2 / 2)
/-- The games of the first a players. -/
def outP : Nat → List Nat × Nat → List Nat × Nat
  | 0, s => s
  | a + 1, s => innP a a (outP a s)
/-- The program's tour of a code. -/
def tourP (n c : Nat) : List Nat := (outP n (List.replicate n 0, c)).1
theorem addW_len (ys : List Nat) (i j : Nat) : (addW ys i j).length = ys.length := by simp [addW]
theorem innP_len (a : Nat) : ∀ b s, (innP a b s).1.length = s.1.length
  | 0, s => rfl
  | b + 1, s => by
    simp only [innP]
    split <;> rw [addW_len, innP_len a b s]
theorem outP_len : ∀ a s, (outP a s).1.length = s.1.length
  | 0, s => rfl
  | a + 1, s => by simp only [outP]; rw [innP_len, outP_len a s]
theorem addW_lt {ys : List Nat} (h : ∀ y ∈ ys, y < 256) (i : Nat) {j : Nat} (hj : j < 8) : ∀ y ∈ addW ys i j, y < 256 := by
  intro y hy
  rcases List.mem_or_eq_of_mem_set hy with h1 | h1
  · exact h y h1
  · rw [h1]
    have h2 : ys.getD i 0 < 256 := by
      rw [List.getD_eq_getElem?_getD]
      rcases Nat.lt_or_ge i ys.length with hi | hi
      · rw [List.getElem?_eq_getElem hi]; exact h _ (List.getElem_mem _)
      · rw [List.getElem?_eq_none hi]; decide
    exact Nat.or_lt_two_pow (n := 8) h2 (Nat.pow_lt_pow_right (by decide) hj)
theorem innP_lt {a : Nat} (ha : a < 8) : ∀ b, b ≤ 8 → ∀ s : List Nat × Nat, (∀ y ∈ s.1, y < 256) → ∀ y ∈ (innP a b s).1, y < 256
  | 0, _, s, h => h
  | b + 1, hb, s, h => by
    have ih := innP_lt ha b (by omega) s h
    simp only [innP]
    split
    · exact addW_lt ih _ (by omega)
    · exact addW_lt ih _ ha
theorem outP_lt : ∀ a, a ≤ 8 → ∀ s : List Nat × Nat, (∀ y ∈ s.1, y < 256) → ∀ y ∈ (outP a s).1, y < 256
  | 0, _, s, h => h
  | a + 1, ha, s, h => innP_lt (by omega) a (by omega) _ (outP_lt a (by omega) s h)
theorem innP_le (a : Nat) : ∀ b s, (innP a b s).2 ≤ s.2
  | 0, s => Nat.le_refl _
  | b + 1, s => by
    have := innP_le a b s
    simp only [innP]; omega
theorem outP_le : ∀ a s, (outP a s).2 ≤ s.2
  | 0, s => Nat.le_refl _
  | a + 1, s => Nat.le_trans (innP_le a a _) (outP_le a s)
/-- Whether the rows are a valid tour's. -/
def okC (n : Nat) (ys : List Nat) : Bool := (List.range n).all fun a => decide (ys.getD a 0 < 2 ^ n) && (!(ys.getD a 0).testBit a && (List.range a).all fun b => (ys.getD a 0).testBit b != (ys.getD b 0).testBit a)
theorem okC_ok {n : Nat} {ys : List Nat} (h1 : 1 ≤ n) (h8 : n ≤ 8) (hl : ys.length = n) (h : okC n ys = true) : Ok (n : Int) (ys.map Int.ofNat) := by
  have hlen : (ys.map Int.ofNat).length = n := by rw [List.length_map, hl]
  have hg : ∀ k, (ys.map Int.ofNat).getD k 0 = ((ys.getD k 0 : Nat) : Int) := fun k => by
    rw [List.getD_eq_getElem?_getD, List.getD_eq_getElem?_getD, List.getElem?_map]
    cases ys[k]? <;> rfl
  refine ⟨by omega, by omega, by rw [hlen], fun a ha => ?_⟩
  rw [hlen] at ha
  unfold okC at h
  rw [List.all_eq_true] at h
  have h2 := h a (by simpa using ha)
  simp only [Bool.and_eq_true, decide_eq_true_eq, Bool.not_eq_true', List.all_eq_true, List.mem_range, bne_iff_ne, ne_eq] at h2
  refine ⟨?_, ?_, fun b hb => ?_⟩
  · rw [hg, hlen]
    unfold inSet
    simp only [Bool.and_eq_true, decide_eq_true_eq]
    omega
  · rw [hg, bi_nat]; exact h2.2.1
  · rw [hg, hg, bi_nat, bi_nat]; exact h2.2.2 b hb
/-- A test by halves. -/
def ba (p : Nat → Bool) : Nat → Nat → Bool
  | 0, lo => p lo
  | d + 1, lo => ba p d lo && ba p d (lo + 2 ^ d)
theorem ba_all (p : Nat → Bool) : ∀ d lo, ba p d lo = true → ∀ x, lo ≤ x → x < lo + 2 ^ d → p x = true
  | 0, lo, h, x, h1, h2 => by
    obtain rfl : x = lo := by simp at h2; omega
    exact h
  | d + 1, lo, h, x, h1, h2 => by
    simp only [ba, Bool.and_eq_true] at h
    rw [Nat.pow_succ] at h2
    rcases Nat.lt_or_ge x (lo + 2 ^ d) with h3 | h3
    · exact ba_all p d lo h.1 x h1 h3
    · exact ba_all p d (lo + 2 ^ d) h.2 x h3 (by omega)
theorem tourP_ok5 : ((List.range 6).all fun n => ba (fun c => okC n (tourP n c)) (Tmpm.prN n) 0) = true := by decide +kernel
theorem tourP_ok {n c : Nat} (h1 : 1 ≤ n) (h5 : n ≤ 5) (hc : c < 2 ^ Tmpm.prN n) : Ok (n : Int) ((tourP n c).map Int.ofNat) := by
  have h := tourP_ok5
  rw [List.all_eq_true] at h
  have h2 := h n (by simp; omega)
  have h3 := ba_all _ _ _ h2 c (Nat.zero_le _) (by omega)
  refine okC_ok h1 (by omega) ?_ h3
  unfold tourP
  rw [outP_len]; simp

/-- Where the rows stand. -/
structure Sp7 (n g q r B : Nat) (w W : World) (ys : List Nat) : Prop where
  own : W.ownsRow B 3 1 (.slice (some ⟨g, 0, none⟩) n n) n (ys.map nv)
  bq : Box W q 27 (.int .i64 (n : Int)) (.slice (some ⟨g, 0, none⟩) n n)
  br : Box W r 27 (.int .i64 0) (.slice none 0 0)
  bl : Below r w W
  small : ∀ y ∈ ys, y < 256
theorem tmod2 (c : Nat) : (c : Int).tmod 2 = ((c % 2 : Nat) : Int) := by rw [Int.tmod_eq_emod_of_nonneg (Int.natCast_nonneg _)]; omega
theorem tdiv2 (c : Nat) : (c : Int).tdiv 2 = ((c / 2 : Nat) : Int) := by rw [Int.tdiv_eq_ediv_of_nonneg (Int.natCast_nonneg _)]; omega

set_option maxRecDepth 100000 in
set_option maxHeartbeats 4000000 in
theorem tourOf_any (n c : Nat) (w : World) (hn : n ≤ 8) (hc : c < 2 ^ 40) :
    Calls Try.prog 99 #[.int .i64 (c : Int), .int .i64 (n : Int)] w fun e w' => (∃ g, e = .returned (.agg #[.int .i64 (n : Int), .slice (some ⟨g, 0, none⟩) n n]) ∧ IntRow w' (some ⟨g, 0, none⟩) ((tourP n c).map Int.ofNat)) ∧ Below w.heap.size w w' := by
  obtain ⟨Wa, hWa⟩ : ∃ Wa, Wa = w.alloc (.cells #[.int .i64 0, .slice none 0 0] 27) := ⟨_, rfl⟩
  have hba : Below w.heap.size w Wa := by rw [hWa]; exact (Below.refl _ _).alloc (Nat.le_refl _) _
  have sa : Wa.heap.size = w.heap.size + 1 := by rw [hWa]; simp
  have xa : Box Wa w.heap.size 27 (.int .i64 0) (.slice none 0 0) := by rw [hWa]; exact Box.new _ _ _ _
  have HWa := Lib.hid hWa
  have HNT := Lib.hid (newTour_any n Wa (by omega))
  have hn64 : n ≤ 64 := by omega
  clear hWa
  go_enter Try.func99, Try.ntmps99
  go_wp2_with fail
  rw [← HWa.out]
  refine HNT.out.mono ?_
  rintro e w1 ⟨⟨g, rfl, ho⟩, hb1⟩
  obtain ⟨W1, hW1⟩ : ∃ W1, W1 = w1.alloc (.cells #[.int .i64 (n : Int), .slice (some ⟨g, 0, none⟩) n n] 27) := ⟨_, rfl⟩
  have HW1 := Lib.hid hW1
  have hgl := ho.lt g rfl
  have hbW : Below w1.heap.size w1 W1 := by rw [hW1]; exact (Below.refl _ _).alloc (Nat.le_refl _) _
  have hq : Box W1 w1.heap.size 27 (.int .i64 (n : Int)) (.slice (some ⟨g, 0, none⟩) n n) := by rw [hW1]; exact Box.new _ _ _ _
  have hr : Box W1 w.heap.size 27 (.int .i64 0) (.slice none 0 0) := (xa.below hb1 xa.lt).below hbW (xa.below hb1 xa.lt).lt
  have hgq : g ≠ w1.heap.size := by omega
  have hgr : g ≠ w.heap.size := by omega
  have hrg : w.heap.size < Wa.heap.size := by omega
  obtain ⟨B, hB⟩ : ∃ B, B = Wa.heap.size := ⟨_, rfl⟩
  obtain ⟨q, hqq⟩ : ∃ q, q = w1.heap.size := ⟨_, rfl⟩
  have hS0 : Sp7 n g q w.heap.size B w W1 (List.replicate n 0) := by
    rw [hB, hqq]
    have b1 := hba.trans (hb1.mono hba.size)
    exact ⟨own_below ho hbW, hq, hr, b1.trans (hbW.mono b1.size), fun y hy => by rw [(List.mem_replicate.1 hy).2]; decide⟩
  have HS0 := Lib.hid hS0
  have hBs : B ≤ W1.heap.size := by have := hb1.size; have := hbW.size; omega
  have HSTEP : Hid (∀ W ys i j, Sp7 n g q w.heap.size B w W ys → i < n → j < n → Calls Try.prog 82 #[.agg #[.int .i64 (n : Int), .slice (some ⟨g, 0, none⟩) n n], .int .i64 (i : Int), .int .i64 (j : Int)] W fun e W' => (∃ v, e = .returned v) ∧ Sp7 n g q w.heap.size B w W' (addW ys i j)) := by
    intro W ys i j hs hi hj
    have hBW : B ≤ W.heap.size := by have := (hs.own.lt g rfl); omega
    refine (addWin_g B g n n i j ys W hn64 hi (by omega) hs.small hBW hs.own).mono ?_
    rintro e W' ⟨hv, ho', hb', hg'⟩
    exact ⟨hv, ho', hs.bq.grown hg' (fun e => hgq (by have := Option.some.inj e; omega)), hs.br.grown hg' (fun e => hgr (by have := Option.some.inj e; omega)), hs.bl.trans (hb'.mono (by omega)), addW_lt hs.small i (by omega)⟩
  have HRB : Hid (w.heap.size < B) := by show _ < _; omega
  rw [← hqq] at hq
  have HQQ := Lib.hid hqq
  clear hW1 ho hb1 hgl hbW hq hr hgq hgr hrg hS0 hBs hB xa sa hba hqq
  go_wp2
  rw [← HQQ.out, ← HW1.out]
  go_loopw [0, 11] (fun code i wr => ∃ (a cc : Nat) (ys : List Nat), a ≤ n ∧ cc ≤ c ∧ i = .int .i64 (a : Int) ∧ code = .int .i64 (cc : Int) ∧ Hid (outP a (List.replicate n 0, c) = (ys, cc)) ∧ Hid (Sp7 n g q w.heap.size B w wr ys)) (fun _ i _ => n - (intOf i).toNat)
  case atStart => exact ⟨0, c, List.replicate n 0, Nat.zero_le _, Nat.le_refl _, rfl, rfl, rfl, HS0.out⟩
  case round =>
    obtain ⟨a, cc, ys, ha, hcc, rfl, rfl, hout, hst⟩ := hrel
    by_cases hlt : a < n
    · have hai : (a : Int) < (n : Int) := by omega
      go_wp2
      go_loopw [0, 15] (fun code i wr => ∃ (b cd : Nat) (zs : List Nat), b ≤ a ∧ cd ≤ c ∧ i = .int .i64 (b : Int) ∧ code = .int .i64 (cd : Int) ∧ Hid (innP a b (ys, cc) = (zs, cd)) ∧ Hid (Sp7 n g q w.heap.size B w wr zs)) (fun _ i _ => a - (intOf i).toNat)
      case atStart => exact ⟨0, cc, ys, Nat.zero_le _, hcc, rfl, rfl, rfl, hst.out⟩
      case round =>
        obtain ⟨b, cd, zs, hb, hcd, rfl, rfl, hinn, hst2⟩ := hrel
        by_cases hlt2 : b < a
        · have hbi : (b : Int) < (a : Int) := by omega
          have c0 := hst2.out.bq.c0
          have c1 := hst2.out.bq.c1
          have hbn : b < n := by omega
          have hquo : (cd : Int).tdiv 2 = ((cd / 2 : Nat) : Int) := tdiv2 cd
          have hdle : cd / 2 ≤ c := by omega
          have hrem := tmod2 cd
          obtain ⟨d, hd⟩ : ∃ d, d = cd / 2 := ⟨_, rfl⟩
          rw [← hd] at hquo hdle
          have hquo2 : (cd : Int) / 2 = (d : Int) := by omega
          by_cases hodd : cd % 2 = 1
          · have hrem1 : (cd : Int).tmod 2 = 1 := by rw [hrem, hodd]; rfl
            have hrem2 : (cd : Int) % 2 = 1 := by omega
            have hn2 : Hid (innP a (b + 1) (ys, cc) = (addW zs a b, d)) := by
              show _ = _
              simp only [innP]
              rw [hinn.out]
              simp only [hodd, if_true, hd]
            clear hrem hodd hd hinn
            go_wp2_with fail
            refine (HSTEP.out _ zs a b hst2.out hlt hbn).mono ?_
            rintro e w5 ⟨⟨v, rfl⟩, hs5⟩
            have HS5 := Lib.hid hs5
            clear hs5 c0 c1 hst2
            go_wp2
            go_roundw
            case rel => exact ⟨b + 1, d, addW zs a b, by omega, hdle, by go_num, by first | rfl | go_num, hn2, HS5.out⟩
            case measure => simp [intOf]; omega
          · have hz : cd % 2 = 0 := by omega
            have hrem1 : (cd : Int).tmod 2 = 0 := by rw [hrem, hz]; rfl
            have hrem2 : (cd : Int) % 2 = 0 := by omega
            have hn2 : Hid (innP a (b + 1) (ys, cc) = (addW zs b a, d)) := by
              show _ = _
              simp only [innP]
              rw [hinn.out]
              simp only [hz, hd]; rfl
            clear hrem hodd hd hinn hz
            go_wp2_with fail
            refine (HSTEP.out _ zs b a hst2.out hbn hlt).mono ?_
            rintro e w5 ⟨⟨v, rfl⟩, hs5⟩
            have HS5 := Lib.hid hs5
            clear hs5 c0 c1 hst2
            go_wp2
            go_roundw
            case rel => exact ⟨b + 1, d, addW zs b a, by omega, hdle, by go_num, by first | rfl | go_num, hn2, HS5.out⟩
            case measure => simp [intOf]; omega
        · obtain rfl : b = a := by omega
          have hn2 : Hid (outP (b + 1) (List.replicate n 0, c) = (zs, cd)) := by
            show innP b b (outP b (List.replicate n 0, c)) = _
            rw [hout.out]; exact hinn.out
          clear hinn hout
          go_wp2
          go_roundw
          case rel => exact ⟨b + 1, cd, zs, by omega, hcd, by go_num, rfl, hn2, hst2.out⟩
          case measure => simp [intOf]; omega
    · obtain rfl : a = n := by omega
      have hT : Hid (tourP a c = ys) := by show (outP a (List.replicate a 0, c)).1 = _; rw [hout.out]
      have hs := hst.out
      have c0 := hs.bq.c0
      have c1 := hs.bq.c1
      have f0 := hs.br.f0
      have f1 := hs.br.f1
      have d0 := hs.br.c0
      have d1 := hs.br.c1
      clear hs hout
      go_wp2
      refine bodyPost_ret (v := .agg #[.int .i64 (a : Int), .slice (some ⟨g, 0, none⟩) a a]) (Box.res1 rfl _ rfl ((hst.out.br.set0 _).set1 _)) rfl ⟨⟨g, rfl, ?_⟩, ?_⟩
      · have ho := own_set (own_set hst.out.own ⟨w.heap.size, 0, none⟩ (.int .i64 (a : Int)) HRB.out) ⟨w.heap.size, 1, none⟩ (.slice (some ⟨g, 0, none⟩) a a) HRB.out
        rw [hT.out]
        have hl : a = (ys.map Int.ofNat).length := by have := ho.1; simpa using this.symm
        rw [nv_iv] at ho
        have h2 : ∀ m, m = a → ∀ (W : World) (L : List Int), L.length = a → W.ownsRow B 3 1 (.slice (some ⟨g, 0, none⟩) a a) a (L.map iv) → IntRow W (some ⟨g, 0, none⟩) L := by
          intro m _ W L hL h
          rw [← hL] at h
          exact IntRow.of_own h
        exact h2 a rfl _ _ hl.symm ho
      · exact (hst.out.bl.setCell (p := ⟨w.heap.size, 0, none⟩) (Nat.le_refl _) _).setCell (p := ⟨w.heap.size, 1, none⟩) (Nat.le_refl _) _
/-! Kinds. -/
namespace Kd
/-- A tour's renaming, as naturals. -/
def rN (ys o : List Nat) : List Nat := renF (o.map Int.ofNat) (gamesL (ys.map Int.ofNat).length (ys.map Int.ofNat))
theorem rN_eq (ys o : List Nat) : rnL (ys.map Int.ofNat) o = (rN ys o).map Int.ofNat := rfl
def eqN : List Nat → List Nat → Bool
  | [], [] => true
  | x :: xs, y :: ys => Nat.beq x y && eqN xs ys
  | _, _ => false
theorem eqN_iff : ∀ {x y : List Nat}, eqN x y = true ↔ x = y
  | [], [] => ⟨fun _ => rfl, fun _ => rfl⟩
  | [], _ :: _ => ⟨fun h => (by cases h), fun h => (by cases h)⟩
  | _ :: _, [] => ⟨fun h => (by cases h), fun h => (by cases h)⟩
  | x :: xs, y :: ys => by
    show (Nat.beq x y && eqN xs ys) = true ↔ _
    rw [Bool.and_eq_true, eqN_iff, List.cons.injEq, Nat.beq_eq]
def inN (t : List Nat) : List (List Nat) → Bool
  | [] => false
  | x :: xs => eqN x t || inN t xs
theorem inN_iff {t : List Nat} : ∀ {L : List (List Nat)}, inN t L = true ↔ t ∈ L
  | [] => ⟨fun h => (by cases h), fun h => (by cases h)⟩
  | x :: xs => by
    show (eqN x t || inN t xs) = true ↔ _
    rw [Bool.or_eq_true, eqN_iff, inN_iff, List.mem_cons, eq_comm (a := x)]
/-- The kinds among the first c codes, and all names of theirs. -/
def S (n : Nat) : Nat → Nat × List (List Nat)
  | 0 => (0, [])
  | c + 1 => bif inN (tourP n c) (S n c).2 then S n c else ((S n c).1 + 1, (S n c).2 ++ (Rn.allO n).map (rN (tourP n c)))
def tab : List Nat := [0, 1, 1, 2, 4, 12]
theorem inN_append (t : List Nat) : ∀ A B : List (List Nat), inN t (A ++ B) = (inN t A || inN t B)
  | [], B => by simp [inN]
  | x :: A, B => by simp [inN, inN_append t A B, Bool.or_assoc]
theorem S_snoc (n c : Nat) : S n (c + 1) = bif inN (tourP n c) (S n c).2 then S n c else ((S n c).1 + 1, (S n c).2 ++ (Rn.allO n).map (rN (tourP n c))) := rfl
theorem S_le (n : Nat) : ∀ c, (S n c).1 ≤ c
  | 0 => Nat.le_refl _
  | c + 1 => by
    have := S_le n c
    rw [S_snoc]
    cases inN (tourP n c) (S n c).2
    · show (S n c).1 + 1 ≤ c + 1; omega
    · show (S n c).1 ≤ c + 1; omega
end Kd
end Go.Proofs.Yteiadhfjpohmdaa
