/-
  Plain facts on the rounds in which a tour is made of its scores. No program.
-/
import Derived.Test.Ytnlbijmkehijiaa3M
import Derived.Test.Ytnlbijmkehijiaa3T
import Derived.Lib.Hide
namespace Go.Proofs.Ytnlbijmkehijiaa.Tmpm
open List
set_option linter.unusedVariables false

/-- The next list of scores that are left. -/
def nextV : List Int → List Int
  | [] => []
  | s :: t => sortI (t.take s.toNat ++ (t.drop s.toNat).map (· - 1))
/-- Whether each round finds players enough. -/
def fineV : Nat → List Int → Bool
  | 0, _ => true
  | k + 1, v => match v with
    | [] => true
    | s :: t => decide (0 ≤ s) && (decide (s ≤ t.length) && fineV k (nextV (s :: t)))
/-- All ways to go on with a beginning of scores. -/
def checkV (n : Nat) : Nat → Nat → Int → Int → List Int → Bool
  | 0, _, _, _, pre => fineV n pre.reverse
  | d + 1, k, last, sum, pre => (List.range n).all fun x => decide ((x : Int) < last) || (decide (sum + x < prN (k + 1)) || (decide ((prN n : Int) < sum + x * (n - k : Nat)) || checkV n d (k + 1) x (sum + x) (x :: pre)))
theorem check8 : (List.range 9).all (fun n => checkV n n 0 0 0 []) = true := by decide +kernel
theorem Landau.rest {l : List Int} (h : Landau l) (k : Nat) : ∀ j, k + j ≤ l.length → sumTo l k + l.getD k 0 * (j : Nat) ≤ sumTo l (k + j) := by
  intro j
  induction j with
  | zero => intro _; simp
  | succ j ih =>
    intro hj
    have a := ih (by omega)
    have b := sumTo_succ l (k + j) (by omega)
    have c := h.mono j k (by omega)
    rw [show k + (j + 1) = k + j + 1 by omega, b, show ((j + 1 : Nat) : Int) = (j : Int) + 1 by omega, Int.mul_add, Int.mul_one]
    omega
theorem check_fine {l : List Int} (h : Landau l) : ∀ (d k : Nat), k + d = l.length → checkV l.length d k (if k = 0 then 0 else l.getD (k - 1) 0) (sumTo l k) (l.take k).reverse = true → fineV l.length l = true := by
  intro d
  induction d with
  | zero =>
    intro k hk hc
    unfold checkV at hc
    rw [List.reverse_reverse, List.take_of_length_le (by omega)] at hc
    exact hc
  | succ d ih =>
    intro k hk hc
    have hkl : k < l.length := by omega
    have h0 := h.h0 k hkl
    have hle := h.le k hkl
    obtain ⟨x, hx⟩ : ∃ x : Nat, l.getD k 0 = x := ⟨(l.getD k 0).toNat, by omega⟩
    unfold checkV at hc
    rw [List.all_eq_true] at hc
    have hcx := hc x (List.mem_range.2 (by omega))
    have h1 : ¬ (x : Int) < (if k = 0 then 0 else l.getD (k - 1) 0) := by
      split
      · omega
      · have := h.hm k hkl; omega
    have h2 : ¬ sumTo l k + (x : Int) < (prN (k + 1) : Int) := by
      have := h.hs k hkl
      rw [sumTo_succ l k hkl, hx] at this
      omega
    have h3 : ¬ (prN l.length : Int) < sumTo l k + (x : Int) * ((l.length - k : Nat) : Int) := by
      have := h.rest k (l.length - k) (by omega)
      rw [show k + (l.length - k) = l.length by omega, h.he, hx] at this
      omega
    rw [decide_eq_false h1, decide_eq_false h2, decide_eq_false h3, Bool.false_or, Bool.false_or, Bool.false_or] at hcx
    refine ih (k + 1) (by omega) ?_
    rw [if_neg (by omega), Nat.add_sub_cancel, hx, sumTo_succ l k hkl, hx, List.take_succ_eq_append_getElem hkl, List.reverse_append]
    have e : l[k] = (x : Int) := by rw [← hx, List.getD_eq_getElem?_getD, List.getElem?_eq_getElem hkl]; rfl
    rw [e]
    exact hcx
theorem Landau.fine {l : List Int} (h : Landau l) : fineV l.length l = true := by
  have hc := List.all_eq_true.1 check8 l.length (List.mem_range.2 (by have := h.h8; omega))
  exact check_fine h l.length 0 (by omega) hc

/-- The order of the rounds: by the number that is left, then by the player. -/
def leK (L : List Int) (a b : Nat) : Bool := decide (L.getD a 0 < L.getD b 0) || (decide (L.getD a 0 = L.getD b 0) && decide (a ≤ b))
theorem leK_iff (L : List Int) (a b : Nat) : leK L a b = true ↔ L.getD a 0 < L.getD b 0 ∨ (L.getD a 0 = L.getD b 0 ∧ a ≤ b) := by simp [leK]
theorem leK_anti {L : List Int} {a b : Nat} (h1 : leK L a b = true) (h2 : leK L b a = true) : a = b := by
  rw [leK_iff] at h1 h2; omega
def sortP (L : List Int) (P : List Nat) : List Nat := P.mergeSort (leK L)
theorem sortP_perm (L : List Int) (P : List Nat) : sortP L P ~ P := List.mergeSort_perm P _
theorem sortP_sorted (L : List Int) (P : List Nat) : (sortP L P).Pairwise fun a b => leK L a b = true :=
  List.pairwise_mergeSort (le := leK L) (fun a b c h1 h2 => by rw [leK_iff] at h1 h2 ⊢; omega) (fun a b => by
    rw [Bool.or_eq_true, leK_iff, leK_iff]; omega) P
theorem sortP_eq {L : List Int} {P Q : List Nat} (hp : Q ~ P) (hs : Q.Pairwise fun a b => leK L a b = true) : Q = sortP L P :=
  List.Perm.eq_of_pairwise (fun _ _ _ _ h1 h2 => leK_anti h1 h2) hs (sortP_sorted L P) (hp.trans (sortP_perm L P).symm)

/-- A round: a has s wins against the first ones of T; the others beat a. -/
def innr (a s : Nat) (T : List Nat) (L : List Int) (W : List Nat) : Nat → List Int × List Nat
  | 0 => (L, W)
  | i + 1 => if i < s then ((innr a s T L W i).1, (innr a s T L W i).2.set a ((innr a s T L W i).2.getD a 0 ||| 2 ^ T.getD i 0))
    else ((innr a s T L W i).1.set (T.getD i 0) ((innr a s T L W i).1.getD (T.getD i 0) 0 - 1), (innr a s T L W i).2.set (T.getD i 0) ((innr a s T L W i).2.getD (T.getD i 0) 0 ||| 2 ^ a))
theorem innr_len1 (a s : Nat) (T : List Nat) (L : List Int) (W : List Nat) (i : Nat) : (innr a s T L W i).1.length = L.length := by
  induction i with
  | zero => rfl
  | succ i ih => rw [innr]; split <;> simp [ih]
theorem innr_len2 (a s : Nat) (T : List Nat) (L : List Int) (W : List Nat) (i : Nat) : (innr a s T L W i).2.length = W.length := by
  induction i with
  | zero => rfl
  | succ i ih => rw [innr]; split <;> simp [ih]
theorem innr_lo (a s : Nat) (T : List Nat) (L : List Int) (W : List Nat) (i : Nat) (h : i ≤ s) : (innr a s T L W i).1 = L := by
  induction i with
  | zero => rfl
  | succ i ih => rw [innr, if_pos (by omega)]; exact ih (by omega)
theorem getD_set {α : Type} (l : List α) (i j : Nat) (x d : α) (h : i < l.length) : (l.set i x).getD j d = if i = j then x else l.getD j d := by
  rw [List.getD_eq_getElem?_getD, List.getElem?_set]
  split
  · rename_i e; subst e; rfl
  · rw [List.getD_eq_getElem?_getD]
/-- What a round does to each number. -/
theorem innr_at1 {a s n : Nat} {T : List Nat} {L : List Int} {W : List Nat} (hT : T.Nodup) (hlt : ∀ x ∈ T, x < n) (hL : L.length = n) (x : Nat) (i : Nat) (hi : i ≤ T.length) :
    (innr a s T L W i).1.getD x 0 = if x ∈ (T.take i).drop s then L.getD x 0 - 1 else L.getD x 0 := by
  induction i with
  | zero => simp [innr]
  | succ i ih =>
    have hiT : i < T.length := by omega
    have hb : T.getD i 0 = T[i] := by rw [List.getD_eq_getElem?_getD, List.getElem?_eq_getElem hiT]; rfl
    have ht : T.take (i + 1) = T.take i ++ [T[i]] := List.take_succ_eq_append_getElem hiT
    have hni : T[i] ∉ T.take i := by
      have h2 : (T.take (i + 1)).Nodup := hT.sublist (List.take_sublist _ _)
      rw [ht] at h2
      intro hm
      exact (List.nodup_append.1 h2).2.2 _ hm _ (by simp) rfl
    rw [innr]
    split
    · rename_i his
      rw [ih (by omega)]
      have e : (T.take (i + 1)).drop s = [] := by rw [List.drop_eq_nil_iff, List.length_take]; omega
      have e2 : (T.take i).drop s = [] := by rw [List.drop_eq_nil_iff, List.length_take]; omega
      rw [e, e2]
    · rename_i his
      have hd : (T.take (i + 1)).drop s = (T.take i).drop s ++ [T[i]] := by
        rw [ht, List.drop_append_of_le_length (by rw [List.length_take]; omega)]
      rw [getD_set _ _ _ _ _ (by rw [innr_len1, hL, hb]; exact hlt _ (List.getElem_mem hiT)), hb]
      by_cases e : T[i] = x
      · subst e
        rw [if_pos rfl, ih (by omega), if_neg (fun h => hni (List.mem_of_mem_drop h)), if_pos (by rw [hd]; simp)]
      · rw [if_neg e, ih (by omega), hd]
        simp only [List.mem_append, List.mem_singleton]
        have : ¬ x = T[i] := fun h => e h.symm
        simp [this]
theorem innr_at2 {a s n : Nat} {T : List Nat} {L : List Int} {W : List Nat} (hT : T.Nodup) (ha : a ∉ T) (han : a < n) (hlt : ∀ x ∈ T, x < n) (hW : W.length = n) (x : Nat) (hx : x ≠ a) (i : Nat) (hi : i ≤ T.length) :
    (innr a s T L W i).2.getD x 0 = if x ∈ (T.take i).drop s then W.getD x 0 ||| 2 ^ a else W.getD x 0 := by
  induction i with
  | zero => simp [innr]
  | succ i ih =>
    have hiT : i < T.length := by omega
    have hb : T.getD i 0 = T[i] := by rw [List.getD_eq_getElem?_getD, List.getElem?_eq_getElem hiT]; rfl
    have ht : T.take (i + 1) = T.take i ++ [T[i]] := List.take_succ_eq_append_getElem hiT
    have hni : T[i] ∉ T.take i := by
      have h2 : (T.take (i + 1)).Nodup := hT.sublist (List.take_sublist _ _)
      rw [ht] at h2
      intro hm
      exact (List.nodup_append.1 h2).2.2 _ hm _ (by simp) rfl
    rw [innr]
    split
    · rename_i his
      rw [getD_set _ _ _ _ _ (by rw [innr_len2, hW]; exact han), if_neg (fun h => hx h.symm), ih (by omega)]
      have e : (T.take (i + 1)).drop s = [] := by rw [List.drop_eq_nil_iff, List.length_take]; omega
      have e2 : (T.take i).drop s = [] := by rw [List.drop_eq_nil_iff, List.length_take]; omega
      rw [e, e2]
    · rename_i his
      have hd : (T.take (i + 1)).drop s = (T.take i).drop s ++ [T[i]] := by
        rw [ht, List.drop_append_of_le_length (by rw [List.length_take]; omega)]
      rw [getD_set _ _ _ _ _ (by rw [innr_len2, hW, hb]; exact hlt _ (List.getElem_mem hiT)), hb]
      by_cases e : T[i] = x
      · subst e
        rw [if_pos rfl, ih (by omega), if_neg (fun h => hni (List.mem_of_mem_drop h)), if_pos (by rw [hd]; simp)]
      · rw [if_neg e, ih (by omega), hd]
        simp only [List.mem_append, List.mem_singleton]
        have : ¬ x = T[i] := fun h => e h.symm
        simp [this]
/-- The player a: only its first s rivals are added. -/
theorem innr_ata {a s n : Nat} {T : List Nat} {L : List Int} {W : List Nat} (ha : a ∉ T) (han : a < n) (hlt : ∀ x ∈ T, x < n) (hW : W.length = n) (y : Nat) (i : Nat) (hi : i ≤ T.length) (hy : y ∉ T.take i) :
    ((innr a s T L W i).2.getD a 0).testBit y = (W.getD a 0).testBit y := by
  induction i with
  | zero => rfl
  | succ i ih =>
    have hiT : i < T.length := by omega
    have hb : T.getD i 0 = T[i] := by rw [List.getD_eq_getElem?_getD, List.getElem?_eq_getElem hiT]; rfl
    have ht : T.take (i + 1) = T.take i ++ [T[i]] := List.take_succ_eq_append_getElem hiT
    rw [ht] at hy
    simp only [List.mem_append, List.mem_singleton, not_or] at hy
    rw [innr]
    split
    · rw [getD_set _ _ _ _ _ (by rw [innr_len2, hW]; exact han), if_pos rfl, Nat.testBit_or, ih (by omega) hy.1, hb, Nat.testBit_two_pow]
      have : ¬ T[i] = y := fun h => hy.2 h.symm
      simp [this]
    · have hbn : T[i] < n := hlt _ (List.getElem_mem hiT)
      have hne : T[i] ≠ a := fun h => ha (h ▸ List.getElem_mem hiT)
      rw [getD_set _ _ _ _ _ (by rw [innr_len2, hW, hb]; exact hbn), hb, if_neg hne]
      exact ih (by omega) hy.1
theorem or_lt8 {x b : Nat} (hx : x < 256) (hb : b < 8) : x ||| 2 ^ b < 256 :=
  Nat.or_lt_two_pow (n := 8) hx (Nat.lt_of_lt_of_le (Nat.pow_lt_pow_right (by decide) hb) (Nat.le_refl _))
theorem innr_lt {a s n : Nat} {T : List Nat} {L : List Int} {W : List Nat} (han : a < n) (hn : n ≤ 8) (hlt : ∀ x ∈ T, x < n) (hW : W.length = n) (hw : ∀ y ∈ W, y < 256) (i : Nat) (hi : i ≤ T.length) :
    ∀ y ∈ (innr a s T L W i).2, y < 256 := by
  induction i with
  | zero => exact hw
  | succ i ih =>
    have hiT : i < T.length := by omega
    have hb : T.getD i 0 < n := by rw [List.getD_eq_getElem?_getD, List.getElem?_eq_getElem hiT]; exact hlt _ (List.getElem_mem hiT)
    have hh := ih (by omega)
    have hl := innr_len2 a s T L W i
    have hg : ∀ k, k < n → (innr a s T L W i).2.getD k 0 < 256 := by
      intro k hk
      rw [List.getD_eq_getElem?_getD, List.getElem?_eq_getElem (by omega)]
      exact hh _ (List.getElem_mem _)
    rw [innr]
    split
    · intro y hy
      rcases List.mem_or_eq_of_mem_set hy with h | rfl
      · exact hh y h
      · exact or_lt8 (hg a han) (by omega)
    · intro y hy
      rcases List.mem_or_eq_of_mem_set hy with h | rfl
      · exact hh y h
      · exact or_lt8 (hg _ hb) (by omega)
/-- What holds between the rounds. -/
structure Inv (n : Nat) (L : List Int) (W P : List Nat) : Prop where
  n8 : n ≤ 8
  ln : P.length ≤ 8
  hL : L.length = n
  hW : W.length = n
  nd : P.Nodup
  lt : ∀ x ∈ P, x < n
  bd : ∀ y ∈ W, y < 256
  fr : ∀ x ∈ P, ∀ y ∈ P, (W.getD x 0).testBit y = false
  fi : fineV P.length (srt (P.map fun x => L.getD x 0)) = true
  lo : ∀ x ∈ P, -1 ≤ L.getD x 0 ∧ L.getD x 0 ≤ 8
theorem Inv.start {l : List Int} (h : Landau (srt l)) : Inv l.length l (List.replicate l.length 0) (List.range l.length) := by
  have hl := srt_len l
  have h8 := h.h8
  have hmap : (List.range l.length).map (fun x => l.getD x 0) = l := by
    apply List.ext_getElem?
    intro i
    rw [List.getElem?_map]
    rcases Nat.lt_or_ge i l.length with hi | hi
    · rw [List.getElem?_range hi, List.getElem?_eq_getElem hi]
      show some (l.getD i 0) = _
      rw [List.getD_eq_getElem?_getD, List.getElem?_eq_getElem hi]; rfl
    · rw [List.getElem?_eq_none hi, List.getElem?_eq_none (by simpa using hi)]; rfl
  refine ⟨by omega, by simp; omega, rfl, by simp, List.nodup_range, fun x hx => List.mem_range.1 hx, fun y hy => by rw [(List.mem_replicate.1 hy).2]; decide, fun x _ y _ => ?_, ?_, fun x hx => ?_⟩
  · have : (List.replicate l.length 0).getD x 0 = 0 := by
      rw [List.getD_eq_getElem?_getD, List.getElem?_replicate]; split <;> rfl
    rw [this]; exact Nat.zero_testBit y
  · rw [hmap, List.length_range, ← hl]; exact h.fine
  · have hx' := List.mem_range.1 hx
    have hm : l.getD x 0 ∈ srt l := (srt_perm l).mem_iff.2 (by rw [List.getD_eq_getElem?_getD, List.getElem?_eq_getElem hx']; exact List.getElem_mem hx')
    obtain ⟨i, hi, e⟩ := List.getElem_of_mem hm
    have a := h.h0 i hi
    have b := h.le i hi
    rw [List.getD_eq_getElem?_getD, List.getElem?_eq_getElem hi] at a b
    have e2 : (some ((srt l)[i])).getD 0 = l.getD x 0 := e
    rw [e2] at a b
    omega
theorem sorted_map {L : List Int} {Q : List Nat} (h : Q.Pairwise fun a b => leK L a b = true) : (Q.map fun x => L.getD x 0).Pairwise (· ≤ ·) := by
  rw [List.pairwise_map]
  exact h.imp (fun h => by rw [leK_iff] at h; omega)
theorem srt_map {L : List Int} {P Q : List Nat} (hp : Q ~ P) (h : Q.Pairwise fun a b => leK L a b = true) : srt (P.map fun x => L.getD x 0) = Q.map fun x => L.getD x 0 :=
  List.Perm.eq_of_pairwise (fun x y _ _ h1 h2 => Int.le_antisymm h1 h2) (srt_sorted _) (sorted_map h) ((srt_perm _).trans (hp.symm.map _))
/-- What a round finds. -/
structure Head (n : Nat) (L : List Int) (W : List Nat) (a s : Nat) (T : List Nat) : Prop where
  hs : L.getD a 0 = s
  sT : s ≤ T.length
  aT : a ∉ T
  nT : T.Nodup
  an : a < n
  lt : ∀ x ∈ T, x < n
  fr : ∀ x, x = a ∨ x ∈ T → ∀ y, y = a ∨ y ∈ T → (W.getD x 0).testBit y = false
  lo : ∀ x ∈ T, 0 ≤ L.getD x 0 ∧ L.getD x 0 ≤ 8
  s8 : s ≤ 8
theorem Inv.head {n : Nat} {L : List Int} {W P : List Nat} (h : Inv n L W P) {a : Nat} {T : List Nat} (hp : (a :: T) ~ P) (hs : (a :: T).Pairwise fun a b => leK L a b = true) :
    Head n L W a (L.getD a 0).toNat T ∧ fineV T.length (nextV ((L.getD a 0) :: T.map fun x => L.getD x 0)) = true := by
  have hf := h.fi
  rw [srt_map hp hs, ← hp.length_eq] at hf
  simp only [List.length_cons, List.map_cons, fineV, Bool.and_eq_true, decide_eq_true_eq, List.length_map] at hf
  obtain ⟨h0, h1, h2⟩ := hf
  have hnd := hp.nodup_iff.2 h.nd
  rw [List.nodup_cons] at hnd
  have hm : ∀ x, x = a ∨ x ∈ T → x ∈ P := fun x hx => hp.mem_iff.1 (by rcases hx with rfl | hx <;> simp [*])
  have ha8 := h.lo a (hm a (.inl rfl))
  refine ⟨⟨by omega, by omega, hnd.1, hnd.2, h.lt a (hm a (.inl rfl)), fun x hx => h.lt x (hm x (.inr hx)), fun x hx y hy => h.fr x (hm x hx) y (hm y hy), fun x hx => ?_, by omega⟩, h2⟩
  have := (List.pairwise_cons.1 hs).1 x hx
  rw [leK_iff] at this
  have := h.lo x (hm x (.inr hx))
  omega
theorem Inv.next {n : Nat} {L : List Int} {W P : List Nat} (h : Inv n L W P) {a : Nat} {T : List Nat} (hp : (a :: T) ~ P) (hs : (a :: T).Pairwise fun a b => leK L a b = true) :
    Inv n (innr a (L.getD a 0).toNat T L W T.length).1 (innr a (L.getD a 0).toNat T L W T.length).2 T := by
  obtain ⟨hh, hf⟩ := h.head hp hs
  refine ⟨h.n8, by have := hp.length_eq; have := h.ln; simp at *; omega, by rw [innr_len1, h.hL], by rw [innr_len2, h.hW], hh.nT, hh.lt, innr_lt hh.an h.n8 hh.lt h.hW h.bd _ (Nat.le_refl _), fun x hx y hy => ?_, ?_, fun x hx => ?_⟩
  · have hxa : x ≠ a := fun e => hh.aT (e ▸ hx)
    have hya : y ≠ a := fun e => hh.aT (e ▸ hy)
    rw [innr_at2 hh.nT hh.aT hh.an hh.lt h.hW x hxa _ (Nat.le_refl _)]
    have hfr := hh.fr x (.inr hx) y (.inr hy)
    split
    · rw [Nat.testBit_or, hfr, Nat.testBit_two_pow]
      simpa using fun e : a = y => hya e.symm
    · exact hfr
  · have e : (T.map fun x => (innr a (L.getD a 0).toNat T L W T.length).1.getD x 0) = (T.map fun x => L.getD x 0).take (L.getD a 0).toNat ++ ((T.map fun x => L.getD x 0).drop (L.getD a 0).toNat).map (· - 1) := by
      generalize (L.getD a 0).toNat = s
      rw [← List.map_take, ← List.map_drop, List.map_map]
      conv => lhs; rw [← List.take_append_drop s T]
      rw [List.map_append]
      have hnd : (T.take s ++ T.drop s).Nodup := by rw [List.take_append_drop]; exact hh.nT
      congr 1
      · refine List.map_congr_left fun x hx => ?_
        rw [List.take_append_drop, innr_at1 hh.nT hh.lt h.hL x _ (Nat.le_refl _), List.take_length, if_neg]
        intro hd
        exact (List.nodup_append.1 hnd).2.2 x hx x hd rfl
      · refine List.map_congr_left fun x hx => ?_
        rw [List.take_append_drop, innr_at1 hh.nT hh.lt h.hL x _ (Nat.le_refl _), List.take_length, if_pos hx]
        rfl
    rw [e, ← sortI_eq]
    exact hf
  · rw [innr_at1 hh.nT hh.lt h.hL x _ (Nat.le_refl _)]
    have := hh.lo x hx
    split <;> omega
/-- The wins at last. -/
def runR : Nat → List Int → List Nat → List Nat → List Nat
  | 0, _, W, _ => W
  | k + 1, L, W, P => match sortP L P with
    | [] => W
    | a :: T => runR k (innr a (L.getD a 0).toNat T L W T.length).1 (innr a (L.getD a 0).toNat T L W T.length).2 T
theorem runR_step {L : List Int} {W P : List Nat} {a : Nat} {T : List Nat} (h : sortP L P = a :: T) : runR P.length L W P = runR T.length (innr a (L.getD a 0).toNat T L W T.length).1 (innr a (L.getD a 0).toNat T L W T.length).2 T := by
  have hl := (sortP_perm L P).length_eq
  rw [h] at hl
  rw [← hl]
  show (match sortP L P with | [] => W | a :: T => runR _ (innr a (L.getD a 0).toNat T L W T.length).1 (innr a (L.getD a 0).toNat T L W T.length).2 T) = _
  rw [h]
theorem add_or {x b : Nat} (hx : x < 256) (hb : b < 8) (h : x.testBit b = false) : x + 2 ^ b = x ||| 2 ^ b := by
  have : ∀ x : Fin 256, ∀ b : Fin 8, x.val.testBit b.val = false → x.val + 2 ^ b.val = x.val ||| 2 ^ b.val := by decide +kernel
  exact this ⟨x, hx⟩ ⟨b, hb⟩ h
/-- The rows of the marks: who is not in P is marked. -/
def dnL (n : Nat) (P : List Nat) : List Bool := (List.range n).map fun x => !(P.contains x)
theorem dnL_len (n : Nat) (P : List Nat) : (dnL n P).length = n := by simp [dnL]
theorem dnL_at (n : Nat) (P : List Nat) (x : Nat) (h : x < n) : (dnL n P).getD x false = !(P.contains x) := by
  unfold dnL; rw [List.getD_eq_getElem?_getD, List.getElem?_map, List.getElem?_range h]; rfl
theorem dnL_set {n a : Nat} {T : List Nat} (ha : a ∉ T) : (dnL n (a :: T)).set a true = dnL n T := by
  apply List.ext_getElem?
  intro i
  rw [List.getElem?_set]
  unfold dnL
  rw [List.getElem?_map, List.getElem?_map, List.length_map, List.length_range]
  rcases Nat.lt_or_ge i n with hi | hi
  · rw [List.getElem?_range hi]
    by_cases e : a = i
    · subst e
      rw [if_pos rfl, if_pos hi]
      simp [ha]
    · rw [if_neg e]
      simpa using fun _ => fun h : i = a => e h.symm
  · rw [List.getElem?_eq_none (by simpa using hi)]
    split
    · rw [if_neg (by omega)]; rfl
    · rfl
end Go.Proofs.Ytnlbijmkehijiaa.Tmpm
