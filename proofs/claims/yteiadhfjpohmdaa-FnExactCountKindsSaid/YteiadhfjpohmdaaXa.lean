/-
  Orders of the players in lexicographic order, and the same orders by their numbers: mathematics. No conditions.
-/
import Derived.Test.YteiadhfjpohmdaaU
namespace Go.Proofs.Yteiadhfjpohmdaa
set_option linter.unusedVariables false
namespace Rn

/-- The last place, below one, whose element is less than the next one. -/
def atF (o : List Nat) : Nat → Option Nat
  | 0 => none
  | k + 1 => if o.getD (k + 1) 0 < o.getD k 0 then atF o k else some k
/-- The last place, up to one, whose element is not less than x. -/
def otF (o : List Nat) (x : Nat) : Nat → Nat
  | 0 => 0
  | k + 1 => if o.getD (k + 1) 0 < x then otF o x k else k + 1
def swp (o : List Nat) (a b : Nat) : List Nat := (o.set a (o.getD b 0)).set b (o.getD a 0)
def rvT (s : List Nat) (a : Nat) : List Nat := s.take a ++ (s.drop a).reverse
/-- The next order. -/
def nxt (o : List Nat) : Option (List Nat) :=
  match atF o (o.length - 1) with
  | none => none
  | some a => some (rvT (swp o a (otF o (o.getD a 0) (o.length - 1))) (a + 1))
def ords : Nat → List Nat → List (List Nat)
  | 0, o => [o]
  | f + 1, o => match nxt o with
    | none => [o]
    | some p => o :: ords f p
def allO (n : Nat) : List (List Nat) := ords 719 (List.range n)

theorem atF_lt (o : List Nat) : ∀ k a, atF o k = some a → a < k
  | 0, a, h => by cases h
  | k + 1, a, h => by
    unfold atF at h
    split at h
    · have := atF_lt o k a h; omega
    · cases h; omega
theorem atF_up (o : List Nat) : ∀ k a, atF o k = some a → o.getD a 0 ≤ o.getD (a + 1) 0
  | 0, a, h => by cases h
  | k + 1, a, h => by
    unfold atF at h
    split at h
    · exact atF_up o k a h
    · cases h; omega
theorem otF_le (o : List Nat) (x : Nat) : ∀ k, otF o x k ≤ k
  | 0 => Nat.le_refl _
  | k + 1 => by
    unfold otF
    split
    · have := otF_le o x k; omega
    · exact Nat.le_refl _
theorem otF_ge (o : List Nat) (x b : Nat) (hb : x ≤ o.getD b 0) : ∀ k, b ≤ k → b ≤ otF o x k
  | 0, h => by unfold otF; omega
  | k + 1, h => by
    unfold otF
    split
    · rename_i hlt
      refine otF_ge o x b hb k ?_
      have : b ≠ k + 1 := by intro e; subst e; omega
      omega
    · exact h
theorem swp_len (o : List Nat) (a b : Nat) : (swp o a b).length = o.length := by simp [swp]
theorem rvT_len (s : List Nat) (a : Nat) : (rvT s a).length = s.length := by simp [rvT]; omega
theorem nxt_len {o p : List Nat} (h : nxt o = some p) : p.length = o.length := by
  unfold nxt at h
  split at h
  · cases h
  · cases h; rw [rvT_len, swp_len]

/-- Each list that comes has its next one behind it. -/
theorem ords_next : ∀ f o pre x rest, (∃ z, (ords f o).getLast? = some z ∧ nxt z = none) → ords f o = pre ++ x :: rest → nxt x = rest.head?
  | 0, o, pre, x, rest, hz, h => by
    obtain ⟨z, hz, hn⟩ := hz
    unfold ords at h hz
    cases pre with
    | nil => simp at h hz; obtain ⟨rfl, rfl⟩ := h; subst hz; simpa using hn
    | cons p ps => simp at h
  | f + 1, o, pre, x, rest, hz, h => by
    obtain ⟨z, hz, hn⟩ := hz
    unfold ords at h hz
    cases hx : nxt o with
    | none =>
      rw [hx] at h hz
      cases pre with
      | nil => simp at h hz; obtain ⟨rfl, rfl⟩ := h; simpa using hx
      | cons p ps => simp at h
    | some p =>
      rw [hx] at h hz
      simp only at h hz
      have hne : ords f p ≠ [] := by cases f <;> unfold ords <;> (try split) <;> simp
      cases pre with
      | nil =>
        simp only [List.nil_append, List.cons.injEq] at h
        obtain ⟨rfl, rfl⟩ := h
        rw [hx]
        cases f with
        | zero => simp [ords]
        | succ f => unfold ords; split <;> simp
      | cons q ps =>
        simp only [List.cons_append, List.cons.injEq] at h
        obtain ⟨rfl, h⟩ := h
        refine ords_next f p ps x rest ⟨z, ?_, hn⟩ h
        rwa [List.getLast?_cons_of_ne_nil hne] at hz
theorem ords_head (f : Nat) (o : List Nat) : (ords f o).head? = some o := by
  cases f with
  | zero => rfl
  | succ f => unfold ords; split <;> rfl

theorem allO_ends {n : Nat} (h1 : 1 ≤ n) (h6 : n ≤ 6) : ∃ z, (allO n).getLast? = some z ∧ nxt z = none := by
  have hk : ∀ n : Fin 7, (match (allO n.val).getLast? with | none => false | some z => (nxt z).isNone) = true := by decide +kernel
  have := hk ⟨n, by omega⟩
  simp only at this
  split at this
  · cases this
  · rename_i z hz; exact ⟨z, hz, by simpa using this⟩
theorem allO_next {n : Nat} (h1 : 1 ≤ n) (h6 : n ≤ 6) {pre rest : List (List Nat)} {x : List Nat} (h : allO n = pre ++ x :: rest) : nxt x = rest.head? :=
  ords_next 719 _ pre x rest (allO_ends h1 h6) h
theorem allO_head (n : Nat) : (allO n).head? = some (List.range n) := ords_head _ _

/-- An order of the first n numbers. -/
def isO (n : Nat) (o : List Nat) : Bool := o.length == n && (List.range n).all fun i => decide (o.getD i 0 < n) && !(o.take i).contains (o.getD i 0)
theorem allO_is {n : Nat} (h6 : n ≤ 6) {o : List Nat} (h : o ∈ allO n) : isO n o = true := by
  have hk : ∀ n : Fin 7, ((allO n.val).all (isO n.val)) = true := by decide +kernel
  exact List.all_eq_true.1 (hk ⟨n, by omega⟩) o h
theorem isO_len {n : Nat} {o : List Nat} (h : isO n o = true) : o.length = n := by
  unfold isO at h; simp only [Bool.and_eq_true, beq_iff_eq] at h; exact h.1
theorem isO_perm {n : Nat} {o : List Nat} (h : isO n o = true) : permB n (o.map Int.ofNat) = true := by
  have hl := isO_len h
  unfold isO at h
  simp only [Bool.and_eq_true, List.all_eq_true] at h
  refine permB_yes ⟨by simpa using hl, ?_⟩
  intro i hi
  rw [List.length_map, hl] at hi
  have h2 := h.2 i (List.mem_range.2 hi)
  simp only [decide_eq_true_eq, Bool.not_eq_true'] at h2
  have e : (o.map Int.ofNat).getD i 0 = ((o.getD i 0 : Nat) : Int) := by
    rw [List.getD_eq_getElem?_getD, List.getD_eq_getElem?_getD, List.getElem?_map, List.getElem?_eq_getElem (by omega)]
    rfl
  rw [e]
  refine ⟨by omega, by omega, ?_⟩
  unfold among
  rw [Int.toNat_natCast, ← List.map_take, List.any_map, List.any_eq_false]
  intro z hz
  simp only [Function.comp]
  intro hc
  have : z = o.getD i 0 := by
    have := beq_iff_eq.1 hc
    exact Int.ofNat.inj this
  subst this
  have := h2.2
  rw [List.contains_eq_any_beq] at this
  have := List.any_eq_false.1 this _ hz
  simp at this

/-- The model's orders: by number. -/
def turnN (n : Nat) : List Nat := (List.range n).map fun a => (a + 1) % n
def nmL : Nat → List Nat → Nat → List Nat
  | 0, _, _ => []
  | k + 1, left, i => left.getD (i % (k + 1)) 0 :: nmL k (left.eraseIdx (i % (k + 1))) (i / (k + 1))
def fct : Nat → Nat
  | 0 => 1
  | k + 1 => fct k * (k + 1)
def mdl (n : Nat) : List (List Nat) := (List.range (fct n)).map fun i => nmL n (turnN n) i
def cd (o : List Nat) : Nat := o.foldl (fun z x => z * 8 + x) 1
def dec : Nat → Nat → List Nat → List Nat
  | 0, _, acc => acc
  | f + 1, z, acc => if z ≤ 1 then acc else dec f (z / 8) (z % 8 :: acc)
def insN (x : Nat) : List Nat → List Nat
  | [] => [x]
  | y :: ys => if x ≤ y then x :: y :: ys else y :: insN x ys
def srtN : List Nat → List Nat
  | [] => []
  | x :: xs => insN x (srtN xs)
theorem insN_perm (x : Nat) : ∀ l, (insN x l).Perm (x :: l)
  | [] => List.Perm.refl _
  | y :: ys => by
    unfold insN
    split
    · exact List.Perm.refl _
    · exact ((insN_perm x ys).cons y).trans (List.Perm.swap x y ys)
theorem srtN_perm : ∀ l, (srtN l).Perm l
  | [] => List.Perm.refl _
  | x :: xs => (insN_perm x _).trans ((srtN_perm xs).cons x)
theorem mdl_perm {n : Nat} (h6 : n ≤ 6) : (mdl n).Perm (allO n) := by
  have h1 : ∀ n : Fin 7, srtN ((mdl n.val).map cd) = (allO n.val).map cd := by decide +kernel
  have h2 : ∀ n : Fin 7, (((mdl n.val).all fun o => dec 7 (cd o) [] == o) && ((allO n.val).all fun o => dec 7 (cd o) [] == o)) = true := by decide +kernel
  have p : ((mdl n).map cd).Perm ((allO n).map cd) := (srtN_perm _).symm.trans (by rw [h1 ⟨n, by omega⟩])
  have p2 := p.map (fun z => dec 7 z [])
  have q := h2 ⟨n, by omega⟩
  rw [Bool.and_eq_true, List.all_eq_true, List.all_eq_true] at q
  have e : ∀ L : List (List Nat), (∀ o ∈ L, (dec 7 (cd o) [] == o) = true) → (L.map cd).map (fun z => dec 7 z []) = L := by
    intro L hL
    rw [List.map_map]
    conv => rhs; rw [← List.map_id L]
    exact List.map_congr_left fun o ho => by simpa using hL o ho
  rwa [e _ q.1, e _ q.2] at p2
theorem mdl_is {n : Nat} (h6 : n ≤ 6) {o : List Nat} (h : o ∈ mdl n) : isO n o = true := allO_is h6 ((mdl_perm h6).mem_iff.1 h)
theorem fct_le {n : Nat} (h : n ≤ 6) : fct n ≤ 720 := by
  have : ∀ n : Fin 7, fct n.val ≤ 720 := by decide
  exact this ⟨n, by omega⟩
theorem mdl_len (n : Nat) : (mdl n).length = fct n := by simp [mdl]
theorem allO_len {n : Nat} (h : n ≤ 6) : (allO n).length = fct n := by rw [← (mdl_perm h).length_eq, mdl_len]
theorem mdl_at {n i : Nat} (h : i < fct n) : (mdl n)[i]? = some (nmL n (turnN n) i) := by simp [mdl, h]
end Rn
end Go.Proofs.Yteiadhfjpohmdaa
