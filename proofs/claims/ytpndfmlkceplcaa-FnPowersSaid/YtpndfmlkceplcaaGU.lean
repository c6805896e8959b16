/-
  FnPowers: its mathematics, its calls over valid tours, what it holds of the memory. Condition: the tour is valid.
-/
import Derived.Test.YtpndfmlkceplcaaGK
import Derived.Test.YtpndfmlkceplcaaGA
import Derived.Test.YtpndfmlkceplcaaGi
import Derived.Test.YtpndfmlkceplcaaGk
import Derived.Test.YtpndfmlkceplcaaGa
import Derived.Test.YtpndfmlkceplcaaGd
import Derived.Test.YtpndfmlkceplcaaF
import Derived.Test.YtpndfmlkceplcaaVF
namespace Go.Proofs.Ytpndfmlkceplcaa.Pw
set_option linter.unusedVariables false

def sg (f : Nat → Nat) : Nat → Nat
  | 0 => 0
  | k + 1 => sg f k + f k
theorem sg_congr {f g : Nat → Nat} : ∀ k, (∀ i, i < k → f i = g i) → sg f k = sg g k
  | 0, _ => rfl
  | k + 1, h => by rw [sg, sg, sg_congr k (fun i hi => h i (by omega)), h k (by omega)]
theorem sg_if (p : Nat → Bool) (f c : Nat → Nat) : ∀ M, sg (fun b => f b * c b) M + sI p f M = sg (fun b => f b * (c b + if p b then 1 else 0)) M
  | 0 => rfl
  | M + 1 => by
    have := sg_if p f c M
    simp only [sg, sI]
    rw [← this]
    by_cases h : p M = true
    · rw [if_pos h, if_pos h, Nat.mul_add, Nat.mul_one]; omega
    · rw [if_neg h, if_neg h, Nat.add_zero, Nat.add_zero]; omega
/-- Who beats whom, counted from either side. -/
theorem twice (p : Nat → Nat → Bool) (f : Nat → Nat) (M : Nat) : ∀ K, sg (fun a => sI (p a) f M) K = sg (fun b => f b * sI (fun a => p a b) (fun _ => 1) K) M
  | 0 => by
    have : ∀ M, 0 = sg (fun b => f b * sI (fun a => p a b) (fun _ => 1) 0) M := by
      intro M
      induction M with
      | zero => rfl
      | succ M ih => rw [sg, ← ih]; rfl
    exact this M
  | K + 1 => by
    rw [sg, twice p f M K, sg_if]
    refine sg_congr M fun b _ => ?_
    simp only [sI]
/-- How many beat a player. -/
theorem beaten_by {n : Int} {l : List Int} (h : Ok n l) {b : Nat} (hb : b < l.length) : sI (fun a => bt l a b) (fun _ => 1) l.length = l.length - 1 - (scoresL l).getD b 0 := by
  have h1 := count_all (m := l.length) (bt l b) (fun a => bt l a b) b l.length (fun j hj hne => (h.one hb hj).2 hne) (h.one hb hb).1 (h.one hb hb).1
  rw [if_pos hb] at h1
  rw [score_at h hb]
  omega
theorem total {n : Int} {l : List Int} (h : Ok n l) (k : Nat) : sg (fun a => (powTo l (k + 1)).getD a 0) l.length = sg (fun b => (powTo l k).getD b 0 * (l.length - 1 - (scoresL l).getD b 0)) l.length := by
  rw [sg_congr l.length (f := fun a => (powTo l (k + 1)).getD a 0) (g := fun a => sI (bt l a) (fun b => (powTo l k).getD b 0) l.length) (fun a ha => sums_at h (powTo l k) ha), twice]
  exact sg_congr l.length fun b hb => by rw [beaten_by h hb]
/-- Sums of integers. -/
def si (f : Nat → Int) : Nat → Int
  | 0 => 0
  | k + 1 => si f k + f k
theorem si_sub (f g : Nat → Nat) : ∀ k, si (fun i => ((f i : Nat) : Int) - ((g i : Nat) : Int)) k = ((sg f k : Nat) : Int) - ((sg g k : Nat) : Int)
  | 0 => rfl
  | k + 1 => by simp only [si, sg]; rw [si_sub f g k]; omega
theorem defeats_zero {n : Int} {l : List Int} (h : Ok n l) : si (fun a => defTo l a l.length) l.length = 0 := by
  unfold defTo
  rw [si_sub, twice, twice (fun a b => bt l b a)]
  have e : sg (fun b => (scoresL l).getD b 0 * sI (fun a => bt l a b) (fun _ => 1) l.length) l.length = sg (fun b => (l.length - 1 - (scoresL l).getD b 0) * sI (fun a => bt l b a) (fun _ => 1) l.length) l.length := by
    refine sg_congr l.length fun b hb => ?_
    rw [beaten_by h hb, score_at h hb, Nat.mul_comm]
  rw [e]; omega

/-! Orders, ranks and levels of one list. -/
theorem agree_self (p : List Int) (h : p.length ≤ 40) : agB p p = true :=
  agB_yes ⟨rfl, h, fun i k _ _ => by
    unfold agP
    by_cases h1 : p.getD k 0 < p.getD i 0
    · rw [decide_eq_false (show ¬ p.getD i 0 < p.getD k 0 by omega), Bool.and_false]; rfl
    · rw [decide_eq_false h1]; rfl⟩
theorem neg_at (p : List Int) (i : Nat) : (p.map fun x => -x).getD i 0 = -(p.getD i 0) := by
  rw [List.getD_eq_getElem?_getD, List.getD_eq_getElem?_getD, List.getElem?_map]
  cases p[i]? <;> simp
theorem cnt_mono {p q : Nat → Bool} : ∀ k, (∀ i, i < k → p i = true → q i = true) → cntG p k ≤ cntG q k
  | 0, _ => Nat.le_refl _
  | k + 1, h => by
    have h1 := cnt_mono k (fun i hi => h i (by omega))
    have h2 := h k (by omega)
    simp only [cntG]
    cases hp : p k
    · rw [if_neg (by simp)]; split <;> omega
    · rw [if_pos rfl, if_pos (h2 hp)]; omega
theorem rank_at (p : List Int) {i : Nat} (hi : i < p.length) : (rankL p).getD i 0 = rankF p i := by
  unfold rankL
  rw [List.getD_eq_getElem?_getD, List.getElem?_map, List.getElem?_range hi]; rfl
theorem rank_le (p : List Int) {i k : Nat} (h : p.getD k 0 ≤ p.getD i 0) : rankF p i ≤ rankF p k := by
  have := cnt_mono (p := fun z => decide (p.getD i 0 < p.getD z 0)) (q := fun z => decide (p.getD k 0 < p.getD z 0)) p.length (fun z _ hz => by
    rw [decide_eq_true_eq] at hz ⊢; omega)
  unfold rankF; omega
theorem agree_rank (p : List Int) (h : p.length ≤ 40) : agB (p.map fun x => -x) (rankL p) = true :=
  agB_yes ⟨by simp [rankL], by simpa using h, fun i k hi hk => by
    simp at hi hk
    unfold agP
    rw [neg_at, neg_at, rank_at p hi, rank_at p hk]
    by_cases h1 : -(p.getD k 0) < -(p.getD i 0)
    · have := rank_le p (i := k) (k := i) (by omega)
      rw [decide_eq_false (show ¬ rankF p i < rankF p k by omega)]; simp
    · rw [decide_eq_false h1]; rfl⟩
/-- All elements are equal. -/
def AllEq (p : List Int) : Prop := ∀ i k, i < p.length → k < p.length → p.getD k 0 = p.getD i 0
theorem agree_neg {p : List Int} (h : p.length ≤ 40) : agB p (p.map fun x => -x) = true ↔ AllEq p := by
  have hA : AgP p (p.map fun x => -x) ↔ AllEq p := by
    constructor
    · intro ⟨_, _, hh⟩
      have key : ∀ i k, i < p.length → k < p.length → ¬ p.getD k 0 < p.getD i 0 := fun i k hi hk hlt => by
        have := hh i k hi hk
        unfold agP at this
        rw [neg_at, neg_at, decide_eq_true hlt, decide_eq_true (show -(p.getD i 0) < -(p.getD k 0) by omega)] at this
        cases this
      intro i k hi hk
      have h1 := key i k hi hk
      have h2 := key k i hk hi
      omega
    · intro hh
      refine ⟨by simp, h, fun i k hi hk => ?_⟩
      have := hh i k hi hk
      unfold agP
      rw [decide_eq_false (show ¬ p.getD k 0 < p.getD i 0 by omega)]; rfl
  rw [← hA]
  constructor
  · intro hh
    by_cases ha : AgP p (p.map fun x => -x)
    · exact ha
    · rw [agB_no ha] at hh; cases hh
  · exact agB_yes
theorem levels_one {p : List Int} (hp : 0 < p.length) (h40 : p.length ≤ 40) : (levR p).length = 1 ↔ AllEq p := by
  have hl : (levR p).length = (lvlF p (ordL p)).length := by unfold levR; rw [if_pos h40, List.length_map]
  rw [hl]
  have hol := ordL_len p
  have hmem : ∀ x, x < p.length → x ∈ ordL p := fun x hx => (ordTo_perm p p.length).mem_iff.2 (by simpa using hx)
  have hlt : ∀ x ∈ ordL p, x < p.length := ordTo_lt p p.length
  generalize ordL p = O at hol hmem hlt ⊢
  cases O with
  | nil => simp at hol; omega
  | cons x r =>
    rw [lvlF_cons, List.length_cons]
    constructor
    · intro h
      have hd : r.dropWhile (eqK p x) = [] := by
        cases hd : r.dropWhile (eqK p x) with
        | nil => rfl
        | cons y s => rw [hd, lvlF_cons] at h; simp at h
      have hall : ∀ y ∈ r, eqK p x y = true := by
        intro y hy
        have e : r.takeWhile (eqK p x) ++ r.dropWhile (eqK p x) = r := List.takeWhile_append_dropWhile
        rw [hd, List.append_nil] at e
        rw [← e] at hy
        exact List.all_eq_true.1 List.all_takeWhile y hy
      have hx : ∀ y, y < p.length → p.getD y 0 = p.getD x 0 := fun y hy => by
        rcases List.mem_cons.1 (hmem y hy) with rfl | h1
        · rfl
        · simpa [eqK] using hall y h1
      intro i k hi hk
      rw [hx i hi, hx k hk]
    · intro h
      have hx := hlt x (by simp)
      have hd : r.dropWhile (eqK p x) = [] := by
        have e : ∀ s : List Nat, (∀ y ∈ s, eqK p x y = true) → s.dropWhile (eqK p x) = [] := by
          intro s
          induction s with
          | nil => intro _; rfl
          | cons y s ih =>
            intro hs
            rw [List.dropWhile_cons, if_pos (hs y (by simp))]
            exact ih (fun z hz => hs z (List.mem_cons_of_mem _ hz))
        refine e r fun y hy => ?_
        unfold eqK
        rw [decide_eq_true_eq]
        exact h x y hx (hlt y (List.mem_cons_of_mem _ hy))
      rw [hd]; rfl
theorem flat_levels {p : List Int} (h40 : p.length ≤ 40) : (levR p).flatten = ordR p := by
  have hf := grp_flat p (ordL p) (ordL p).length (Nat.le_refl _)
  rw [grp_all, List.take_length] at hf
  unfold levR ordR
  rw [if_pos h40, if_pos h40]
  conv => rhs; rw [← hf.1]
  show ((lvlF p (ordL p)).map (List.map Int.ofNat)).flatten = _
  rw [List.map_flatten]
/-- Neighbors in the order. -/
theorem order_step {p : List Int} {i : Nat} (h0 : 0 < i) (h : i < p.length) : leI p ((ordL p).getD (i - 1) 0) ((ordL p).getD i 0) := by
  have hs : (ordL p).Pairwise (leI p) := ordTo_sorted p p.length
  have hl := ordL_len p
  rw [List.getD_eq_getElem?_getD, List.getD_eq_getElem?_getD, List.getElem?_eq_getElem (by omega), List.getElem?_eq_getElem (by omega)]
  exact List.pairwise_iff_getElem.1 hs (i - 1) i (by omega) (by omega) (by omega)
theorem order_lt {p : List Int} {i : Nat} (h : i < p.length) : (ordL p).getD i 0 < p.length := by
  have hl := ordL_len p
  rw [List.getD_eq_getElem?_getD, List.getElem?_eq_getElem (by omega)]
  exact ordTo_lt p p.length _ (List.getElem_mem _)
end Go.Proofs.Ytpndfmlkceplcaa.Pw
namespace Go.Proofs.Ytpndfmlkceplcaa
open Go.ChangeShapes Go.WideShapes Go.ChangeAt Go.RowKit
set_option linter.unusedVariables false

theorem si_bd (f : Nat → Int) (h : ∀ i, -1125899906842624 ≤ f i ∧ f i ≤ 1125899906842624) : ∀ k : Nat, -(1125899906842624 * (k : Int)) ≤ Pw.si f k ∧ Pw.si f k ≤ 1125899906842624 * (k : Int)
  | 0 => by simp [Pw.si]
  | k + 1 => by
    have h1 := si_bd f h k
    have h2 := h k
    simp only [Pw.si]
    omega
set_option maxHeartbeats 400000 in
theorem lawSumI_any (a : Option Addr) (m cap : Nat) (ys : List Int) (w : World) (hm : m ≤ 40) (hlen : ys.length = m) (hy : ∀ i, -1125899906842624 ≤ ys.getD i 0 ∧ ys.getD i 0 ≤ 1125899906842624) (hrow : IntRow w a ys) :
    Calls Try.prog 35 #[.slice a m cap] w fun e w' => e = .returned (.int .i64 (Pw.si (fun i => ys.getD i 0) m)) ∧ w = w' := by
  obtain ⟨S, hS⟩ : ∃ S, S = Pw.si (fun i => ys.getD i 0) m := ⟨_, rfl⟩
  rw [← hS]
  have HS := Lib.hid hS
  clear hS
  have HL := Lib.hid hlen
  have HR := Lib.hid hrow
  have HY := Lib.hid hy
  clear hlen hrow hy
  go_enter Try.func35, Try.ntmps35
  go_wp2
  go_loop [3, 8] (fun n i => ∃ (k : Nat) (s : Int), k ≤ m ∧ i = .int .i64 k ∧ n = .int .i64 s ∧ Hid (s = Pw.si (fun i => ys.getD i 0) k)) (fun _ i => m - (intOf i).toNat)
  case atStart => exact ⟨0, 0, Nat.zero_le _, rfl, rfl, rfl⟩
  case round =>
    obtain ⟨k, s, hk, rfl, rfl, hse⟩ := hrel
    have hs := si_bd (fun i => ys.getD i 0) HY.out k
    rw [← hse.out] at hs
    by_cases hlt : k < m
    · obtain ⟨b, off, rfl, hbb, hc⟩ := HR.out.at (k := k) (by rw [HL.out]; exact hlt)
      have hx := HY.out k
      have hn : Hid (Pw.si (fun i => ys.getD i 0) (k + 1) = s + ys.getD k 0) := by show _ = _; rw [hse.out]; rfl
      obtain ⟨x, hxx⟩ : ∃ x, x = ys.getD k 0 := ⟨_, rfl⟩
      rw [← hxx] at hc hx hn
      have hib : (k : Int) < (m : Int) := by omega
      have hwr : IntKind.i64.wrap (s + x) = s + x := by rw [IntWalk.i64_in _ (by omega)]
      have hnx : Hid (s + x = Pw.si (fun i => ys.getD i 0) (k + 1)) := hn.out.symm
      clear hn hxx hse
      go_wp2
      go_round
      case rel => exact ⟨k + 1, s + x, by omega, by go_num, by first | rfl | go_num, hnx⟩
      case measure => simp [intOf]; omega
    · obtain rfl : k = m := by omega
      go_wp2
      go_ret
      exact ⟨by rw [HS.out, ← hse.out]; rfl, rfl⟩
set_option maxHeartbeats 400000 in
theorem lawSame_any (a b : Option Addr) (m ca cb : Nat) (ys : List Int) (w : World) (hm : m ≤ maxLen) (hlen : ys.length = m) (ha : IntRow w a ys) (hb : IntRow w b ys) :
    Calls Try.prog 33 #[.slice a m ca, .slice b m cb] w fun e w' => e = .returned (.bool true) ∧ w = w' := by
  have HL := Lib.hid hlen
  have HA := Lib.hid ha
  have HB := Lib.hid hb
  unfold maxLen at hm
  clear hlen ha hb
  go_enter Try.func33, Try.ntmps33
  go_wp2
  go_loop [14] (fun i => ∃ k : Nat, k ≤ m ∧ i = .int .i64 k) (fun i => m - (intOf i).toNat)
  case atStart => exact ⟨0, Nat.zero_le _, rfl⟩
  case round =>
    obtain ⟨k, hk, rfl⟩ := hrel
    by_cases hlt : k < m
    · obtain ⟨b1, o1, rfl, hb1, hc1⟩ := HA.out.at (k := k) (by rw [HL.out]; exact hlt)
      obtain ⟨b2, o2, rfl, hb2, hc2⟩ := HB.out.at (k := k) (by rw [HL.out]; exact hlt)
      obtain ⟨x, hxx⟩ : ∃ x, x = ys.getD k 0 := ⟨_, rfl⟩
      rw [← hxx] at hc1 hc2
      have hib : (k : Int) < (m : Int) := by omega
      clear hxx
      go_wp2
      go_round
      case rel => exact ⟨k + 1, by omega, by go_num⟩
      case measure => simp [intOf]; omega
    · obtain rfl : k = m := by omega
      go_wp2
      go_ret
      exact ⟨rfl, rfl⟩
end Go.Proofs.Ytpndfmlkceplcaa
namespace Go.Proofs.Ytpndfmlkceplcaa
open Go.ChangeShapes Go.WideShapes Go.ChangeAt Go.RowKit
set_option linter.unusedVariables false

/-- A call that returns a row of its own with these m numbers. -/
def RetM (m : Nat) (xs : List Int) (W : World) : Ending → World → Prop := fun e w' => ∃ g c, e = .returned (.slice (some ⟨g, 0, none⟩) m c) ∧ w'.ownsRow W.heap.size 3 1 (.slice (some ⟨g, 0, none⟩) m c) m (xs.map iv) ∧ Below W.heap.size W w'
theorem retM_of {m : Nat} {xs ys : List Int} {W w' : World} {e : Ending} (he : ys = xs) (h0 : 0 < m) (hx : xs.length = m) (h : (∃ a0 c0, e = .returned (.slice a0 ys.length c0) ∧ w'.ownsRow W.heap.size 3 1 (.slice a0 ys.length c0) ys.length (ys.map iv)) ∧ Below W.heap.size W w') : RetM m xs W e w' := by
  subst he
  obtain ⟨⟨a0, c0, he, ho⟩, hb⟩ := h
  rw [hx] at he ho
  obtain ⟨g, rfl⟩ := own_someG ho h0
  exact ⟨g, c0, he, ho, hb⟩
/-- The powers of scores, as integers. -/
def pwL (l : List Int) (k : Nat) : List Int := (powTo l k).map Int.ofNat
theorem pwL_len (l : List Int) (k : Nat) : (pwL l k).length = l.length := by unfold pwL; rw [List.length_map, powTo_len]
section
variable {m : Nat} {l : List Int}
theorem p_pow (a : Option Addr) (ct k : Nat) (W : World) (h : Ok (m : Int) l) (hl : l.length = m) (h0 : 0 < m) (h8 : m ≤ 8) (hk : k ≤ 12) (hr : IntRow W a l) :
    Calls Try.prog 31 #[.agg #[.int .i64 (m : Int), .slice a m ct], .int .i64 (k : Int)] W (RetM m (pwL l k) W) := by
  subst hl
  refine (implPowers (l.length : Int) a l ct (k : Int) W hr (by unfold maxLen; omega)).mono fun e w' hh => ?_
  refine retM_of ?_ h0 (pwL_len l k) hh
  unfold powR pwL
  rw [if_pos ⟨okB_iff.2 h, by omega, by omega⟩]; rfl
theorem p_second (a : Option Addr) (ct : Nat) (W : World) (h : Ok (m : Int) l) (hl : l.length = m) (h0 : 0 < m) (h8 : m ≤ 8) (hr : IntRow W a l) :
    Calls Try.prog 34 #[.agg #[.int .i64 (m : Int), .slice a m ct]] W (RetM m (pwL l 2) W) := by
  subst hl
  refine (implSeconds (l.length : Int) a l ct W hr (by unfold maxLen; omega)).mono fun e w' hh => ?_
  refine retM_of ?_ h0 (pwL_len l 2) hh
  unfold powR pwL
  rw [if_pos ⟨okB_iff.2 h, by omega, by omega⟩]; rfl
theorem p_defeat (a : Option Addr) (ct : Nat) (W : World) (h : Ok (m : Int) l) (hl : l.length = m) (h0 : 0 < m) (h8 : m ≤ 8) (hr : IntRow W a l) :
    Calls Try.prog 36 #[.agg #[.int .i64 (m : Int), .slice a m ct]] W (RetM m (defL l) W) := by
  subst hl
  refine (implDefeats (l.length : Int) a l ct W hr (by unfold maxLen; omega)).mono fun e w' hh => ?_
  refine retM_of ?_ h0 (by unfold defL; simp) hh
  unfold defR
  rw [if_pos (okB_iff.2 h)]
theorem p_pord (a : Option Addr) (ct k : Nat) (W : World) (h : Ok (m : Int) l) (hl : l.length = m) (h0 : 0 < m) (h8 : m ≤ 8) (hk : k ≤ 12) (hr : IntRow W a l) :
    Calls Try.prog 41 #[.agg #[.int .i64 (m : Int), .slice a m ct], .int .i64 (k : Int)] W (RetM m (niG (ordL (pwL l k))) W) := by
  subst hl
  refine (implPowerOrder (l.length : Int) a l ct (k : Int) W hr (by unfold maxLen; omega)).mono fun e w' hh => ?_
  refine retM_of ?_ h0 (by rw [niG_len, ordL_len, pwL_len]) hh
  have e1 : powR (l.length : Int) l (k : Int) = pwL l k := by
    unfold powR pwL
    rw [if_pos ⟨okB_iff.2 h, by omega, by omega⟩]; rfl
  unfold pordR
  rw [e1]
  unfold ordR
  rw [if_pos (by rw [pwL_len]; omega)]; rfl
theorem p_order (xs : List Int) (a : Option Addr) (ct : Nat) (W : World) (hl : xs.length = m) (h0 : 0 < m) (h8 : m ≤ 40) (hr : IntRow W a xs) :
    Calls Try.prog 38 #[.slice a m ct] W (RetM m (niG (ordL xs)) W) := by
  subst hl
  refine (implOrderBy a xs ct W hr (by unfold maxLen; omega)).mono fun e w' hh => ?_
  refine retM_of ?_ h0 (by rw [niG_len, ordL_len]) hh
  unfold ordR
  rw [if_pos h8]; rfl
theorem p_rank (xs : List Int) (a : Option Addr) (ct : Nat) (W : World) (hl : xs.length = m) (h0 : 0 < m) (h8 : m ≤ 40) (hr : IntRow W a xs) :
    Calls Try.prog 39 #[.slice a m ct] W (RetM m (rankL xs) W) := by
  subst hl
  refine (implRankBy a xs ct W hr (by unfold maxLen; omega)).mono fun e w' hh => ?_
  refine retM_of ?_ h0 (by unfold rankL; simp) hh
  unfold rankR
  rw [if_pos h8]
/-- The scores of a valid tour are its first powers. -/
theorem scores_pow (h : Ok (m : Int) l) : (scoresL l).map Int.ofNat = pwL l 1 := by
  unfold pwL
  congr 1
  refine List.ext_getElem (by rw [scoresL_len, powTo_len]) fun i h1 h2 => ?_
  rw [scoresL_len] at h1
  have := ones h h1
  rw [List.getD_eq_getElem?_getD, List.getD_eq_getElem?_getD, List.getElem?_eq_getElem h2, List.getElem?_eq_getElem (by rw [scoresL_len]; exact h1)] at this
  exact this.symm
end
end Go.Proofs.Ytpndfmlkceplcaa
namespace Go.Proofs.Ytpndfmlkceplcaa
open Go.ChangeShapes Go.WideShapes Go.ChangeAt Go.RowKit
set_option linter.unusedVariables false

section
variable {m : Nat} {l : List Int}
theorem p_scores (a : Option Addr) (ct : Nat) (W : World) (h : Ok (m : Int) l) (hl : l.length = m) (h0 : 0 < m) (h8 : m ≤ 8) (hr : IntRow W a l) :
    Calls Try.prog 32 #[.agg #[.int .i64 (m : Int), .slice a m ct]] W (RetM m (pwL l 1) W) := by
  subst hl
  refine (implScoresOf (l.length : Int) a l ct W hr (by unfold maxLen; omega)).mono fun e w' hh => ?_
  obtain ⟨⟨v, he, ho⟩, hb⟩ := hh
  have e1 : resS (l.length : Int) l = scoresL l := by unfold resS; rw [if_pos (okB_iff.2 h)]
  rw [e1, scoresL_len] at ho
  have e2 : (scoresL l).map nv = (pwL l 1).map iv := by rw [← scores_pow h, List.map_map]; rfl
  rw [e2] at ho
  rcases ho.2 with ⟨_, hn⟩ | ⟨g, c, cur, hv, _⟩
  · omega
  · subst hv
    exact ⟨g, c, he, ho, hb⟩
theorem p_agree (xs ys : List Int) (a b : Option Addr) (ca cb : Nat) (W : World) (hx : xs.length = m) (hy : ys.length = m) (h8 : m ≤ 40) (ha : IntRow W a xs) (hb : IntRow W b ys) :
    Calls Try.prog 42 #[.slice a m ca, .slice b m cb] W fun e W' => e = .returned (.bool (agB xs ys)) ∧ Below W.heap.size W W' := by
  have h := implDoAgree a xs ca b ys cb W ha hb (by unfold maxLen; omega) (by unfold maxLen; omega)
  rw [hx, hy] at h
  exact h
theorem p_levels (xs : List Int) (a : Option Addr) (ct : Nat) (W : World) (hx : xs.length = m) (h8 : m ≤ 40) (ha : IntRow W a xs) :
    Calls Try.prog 40 #[.slice a m ct] W fun e W' => (∃ a0 c0 gs, e = .returned (.slice a0 (levR xs).length c0) ∧ OwnSS W' W.heap.size a0 c0 gs (levR xs)) ∧ Below W.heap.size W W' := by
  have h := implLevels a xs ct W ha (by unfold maxLen; omega)
  rw [hx] at h
  exact h
theorem pw_at (l : List Int) (k i : Nat) : (pwL l k).getD i 0 = (((powTo l k).getD i 0 : Nat) : Int) := by
  unfold pwL
  rw [List.getD_eq_getElem?_getD, List.getD_eq_getElem?_getD, List.getElem?_map]
  cases (powTo l k)[i]? <;> rfl
theorem pw_le45 (l : List Int) {k : Nat} (hk : k ≤ 12) (i : Nat) : (powTo l k).getD i 0 ≤ 2 ^ 45 := getD_le _ _ (powTo_le45 l (by omega)) i
theorem pw_bd (l : List Int) {k : Nat} (hk : k ≤ 12) (i : Nat) : -1125899906842624 ≤ (pwL l k).getD i 0 ∧ (pwL l k).getD i 0 ≤ 1125899906842624 := by
  rw [pw_at]
  have := pw_le45 l hk i
  omega
theorem si_nat (f : Nat → Nat) : ∀ k, Pw.si (fun i => ((f i : Nat) : Int)) k = ((Pw.sg f k : Nat) : Int)
  | 0 => rfl
  | k + 1 => by simp only [Pw.si, Pw.sg]; rw [si_nat f k]; omega
theorem si_congr {f g : Nat → Int} : ∀ k, (∀ i, i < k → f i = g i) → Pw.si f k = Pw.si g k
  | 0, _ => rfl
  | k + 1, h => by rw [Pw.si, Pw.si, si_congr k (fun i hi => h i (by omega)), h k (by omega)]
/-- The law's sum of the next powers. -/
theorem pw_sum (l : List Int) (k : Nat) : Pw.si (fun i => (pwL l (k + 1)).getD i 0) l.length = ((Pw.sg (fun a => (powTo l (k + 1)).getD a 0) l.length : Nat) : Int) := by
  rw [← si_nat]
  exact si_congr _ fun i _ => pw_at l (k + 1) i
theorem def_at (l : List Int) {i : Nat} (hi : i < l.length) : (defL l).getD i 0 = defTo l i l.length := by
  unfold defL
  rw [List.getD_eq_getElem?_getD, List.getElem?_map, List.getElem?_range hi]; rfl
/-- The law's sum of the defeat scores. -/
theorem def_sum (h : Ok (m : Int) l) : Pw.si (fun i => (defL l).getD i 0) l.length = 0 := by
  rw [si_congr _ (fun i hi => def_at l hi)]
  exact Pw.defeats_zero h
end
end Go.Proofs.Ytpndfmlkceplcaa
namespace Go.Proofs.Ytpndfmlkceplcaa.Pw
set_option linter.unusedVariables false

theorem round_facts {p : List Int} {i : Nat} (h0 : 0 < i) (h : i < p.length) : ∃ x y : Nat, (ordL p).getD i 0 = x ∧ (ordL p).getD (i - 1) 0 = y ∧ x < p.length ∧ y < p.length ∧ ¬ p.getD y 0 < p.getD x 0 ∧ (p.getD x 0 = p.getD y 0 → ¬ (x : Int) < (y : Int)) ∧ ¬ (rankL p).getD x 0 < (rankL p).getD y 0 := by
  have hs := order_step h0 h
  have hx := order_lt h
  have hy := order_lt (p := p) (i := i - 1) (by omega)
  refine ⟨_, _, rfl, rfl, hx, hy, ?_, ?_, ?_⟩
  · unfold leI at hs; omega
  · intro e; unfold leI at hs; omega
  · rw [rank_at p hx, rank_at p hy]
    have := rank_le p (i := (ordL p).getD (i - 1) 0) (k := (ordL p).getD i 0) (by unfold leI at hs; omega)
    omega
theorem last_line {p : List Int} (hp : 0 < p.length) (h40 : p.length ≤ 40) : agB p (p.map fun x => -x) = decide ((levR p).length = 1) := by
  rw [Bool.eq_iff_iff, decide_eq_true_iff, agree_neg h40, levels_one hp h40]
/-- The levels, one after another. -/
theorem flat_take {Ls : List (List Int)} {i : Nat} (h : i < Ls.length) : (Ls.take (i + 1)).flatten = (Ls.take i).flatten ++ Ls.getD i [] := by
  rw [List.take_succ_eq_append_getElem h, List.flatten_append, List.getD_eq_getElem?_getD, List.getElem?_eq_getElem h]; simp
theorem neg_take {p : List Int} {i : Nat} (h : i < p.length) : (p.take (i + 1)).map (fun x => -x) = (p.take i).map (fun x => -x) ++ [-(p.getD i 0)] := by
  rw [List.take_succ_eq_append_getElem h, List.map_append, List.getD_eq_getElem?_getD, List.getElem?_eq_getElem h]; rfl
end Go.Proofs.Ytpndfmlkceplcaa.Pw
namespace Go.Proofs.Ytpndfmlkceplcaa
open Go.ChangeShapes Go.WideShapes Go.ChangeAt Go.RowKit
set_option linter.unusedVariables false

/-- The tour and three rows. -/
structure F1 (w W : World) (m : Nat) (l : List Int) (pt : Nat) (at' : Option Addr) (ct k gp gq gs : Nat) : Prop where
  hb : Below w.heap.size w W
  bx : Box W pt 27 (.int .i64 (m : Int)) (.slice at' m ct)
  rd : IntRow W at' l
  rp : IntRow W (some ⟨gp, 0, none⟩) (pwL l k)
  rq : IntRow W (some ⟨gq, 0, none⟩) (pwL l (k + 1))
  rs : IntRow W (some ⟨gs, 0, none⟩) (pwL l 1)
theorem F1.kept {w W W' : World} {m : Nat} {l : List Int} {pt : Nat} {at' : Option Addr} {ct k gp gq gs : Nat} (h : F1 w W m l pt at' ct k gp gq gs) (hb : Below W.heap.size W W') : F1 w W' m l pt at' ct k gp gq gs :=
  ⟨h.hb.trans (hb.mono h.hb.size), h.bx.below hb h.bx.lt, h.rd.below hb (Nat.le_refl _), h.rp.below hb (Nat.le_refl _), h.rq.below hb (Nat.le_refl _), h.rs.below hb (Nat.le_refl _)⟩
/-- The order, the ranks and the levels besides. -/
structure F2 (w W : World) (m : Nat) (l : List Int) (pt : Nat) (at' : Option Addr) (ct k gp gq gs go gr B : Nat) (al : Option Addr) (cl : Nat) (gl : List (Nat × Nat)) : Prop where
  one : F1 w W m l pt at' ct k gp gq gs
  ro : IntRow W (some ⟨go, 0, none⟩) (niG (ordL (pwL l k)))
  rr : IntRow W (some ⟨gr, 0, none⟩) (rankL (pwL l k))
  lv : OwnSS W B al cl gl (levR (pwL l k))
theorem F2.kept {w W W' : World} {m : Nat} {l : List Int} {pt : Nat} {at' : Option Addr} {ct k gp gq gs go gr B : Nat} {al : Option Addr} {cl : Nat} {gl : List (Nat × Nat)} (h : F2 w W m l pt at' ct k gp gq gs go gr B al cl gl) (hb : Below W.heap.size W W') : F2 w W' m l pt at' ct k gp gq gs go gr B al cl gl :=
  ⟨h.one.kept hb, h.ro.below hb (Nat.le_refl _), h.rr.below hb (Nat.le_refl _), h.lv.below hb⟩
theorem int_cell {W : World} {g : Nat} {L : List Int} (h : IntRow W (some ⟨g, 0, none⟩) L) {j : Nat} (hj : j < L.length) : W.cell? ⟨g, j, none⟩ = some (.int .i64 (L.getD j 0)) := by
  obtain ⟨b, off, e, _, hc⟩ := h.at hj
  simp only [Option.some.injEq, Addr.mk.injEq] at e
  obtain ⟨rfl, rfl, _⟩ := e
  simpa using hc
theorem own_intP {w : World} {B m c : Nat} {a : Option Addr} {L : List Int} (hm : L.length = m) (h : w.ownsRow B 3 1 (.slice a m c) m (L.map iv)) : IntRow w a L := by subst hm; exact own_int h
section
variable {m : Nat} {l : List Int}
theorem p_beat (a : Option Addr) (ct i j : Nat) (W : World) (h : Ok (m : Int) l) (hl : l.length = m) (h8 : m ≤ 8) (hr : IntRow W a l) (hi : i < m) (hj : j < m) :
    Calls Try.prog 37 #[.agg #[.int .i64 (m : Int), .slice a m ct], .int .i64 (i : Int), .int .i64 (j : Int)] W fun e W' => e = .returned (.bool (bt l i j)) ∧ Below W.heap.size W W' := by
  subst hl
  have h5 := implDoesBeat (l.length : Int) a l ct (i : Int) (j : Int) W hr (by unfold maxLen; omega)
  rw [show dbB (l.length : Int) l (i : Int) (j : Int) = bt l i j by
    unfold dbB
    rw [okB_iff.2 h, pl_iff.2 ⟨by omega, by omega⟩, pl_iff.2 ⟨by omega, by omega⟩]; simp] at h5
  exact h5
theorem sI_le (p : Nat → Bool) (f : Nat → Nat) (M : Nat) (h : ∀ i, f i ≤ M) : ∀ j, sI p f j ≤ j * M
  | 0 => Nat.zero_le _
  | j + 1 => by
    have := sI_le p f M h j
    have := h j
    rw [sI, Nat.add_mul, Nat.one_mul]
    split <;> omega
theorem sg_le (f : Nat → Nat) (M : Nat) (h : ∀ i, f i ≤ M) : ∀ j, Pw.sg f j ≤ j * M
  | 0 => Nat.zero_le _
  | j + 1 => by
    have := sg_le f M h j
    have := h j
    rw [Pw.sg, Nat.add_mul, Nat.one_mul]; omega
theorem defTo_bdP {n : Int} (h : Ok n l) (a : Nat) : ∀ z, z ≤ l.length → -(8 * (z : Int)) ≤ defTo l a z ∧ defTo l a z ≤ 8 * (z : Int)
  | 0, _ => by simp [defTo, sI]
  | z + 1, hz => by
    have ih := defTo_bdP h a z (by omega)
    have h8 : l.length ≤ 8 := by have := h.2.1; have := h.2.2.1; omega
    have hs := score_lt h (show z < l.length by omega)
    rw [defTo_succ]
    generalize (scoresL l).getD z 0 = s at hs ⊢
    cases bt l a z <;> cases bt l z a <;> simp <;> omega
/-- The sum that the first loop makes. -/
def totF (l : List Int) (k : Nat) (b : Nat) : Nat := (powTo l k).getD b 0 * (l.length - 1 - (scoresL l).getD b 0)
theorem totF_le {l : List Int} (h8 : l.length ≤ 8) {k : Nat} (hk : k ≤ 12) (b : Nat) : totF l k b ≤ 2 ^ 45 * 8 := by
  unfold totF
  exact Nat.mul_le_mul (pw_le45 l hk b) (by omega)
theorem row_sum (h : Ok (m : Int) l) (hl : l.length = m) (k : Nat) {i : Nat} (hi : i < m) : sI (bt l i) (fun b => (powTo l k).getD b 0) m = (powTo l (k + 1)).getD i 0 := by
  subst hl
  exact (sums_at h (powTo l k) hi).symm
theorem q_sum (h : Ok (m : Int) l) (hl : l.length = m) (k : Nat) : Pw.si (fun i => (pwL l (k + 1)).getD i 0) m = ((Pw.sg (totF l k) m : Nat) : Int) := by
  subst hl
  rw [pw_sum, Pw.total h]; rfl
theorem ord_at {p : List Int} {j : Nat} (hj : j < p.length) : (niG (ordL p)).getD j 0 = (((ordL p).getD j 0 : Nat) : Int) := niG_at _ (by rw [ordL_len]; exact hj)
theorem lev_flat {k : Nat} (h8 : (pwL l k).length ≤ 40) : (levR (pwL l k)).flatten = niG (ordL (pwL l k)) := by
  rw [Pw.flat_levels h8]
  unfold ordR
  rw [if_pos h8]; rfl
end
end Go.Proofs.Ytpndfmlkceplcaa
