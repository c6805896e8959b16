/-
  Full ways, Redei, Moon, Camion: five texts in one.
-/
import Derived.Test.YtgjogbihadiojaaJ2
import Derived.Test.Ytgjogbihadiojaa8C
namespace Go.Proofs.Ytgjogbihadiojaa
open Go.ChangeShapes Go.WideShapes Go.ChangeAt Go.RowKit
set_option linter.unusedVariables false
namespace Hw

/-- Each one beats the next one. -/
def Chn (f : Nat → Nat) : List Nat → Prop
  | [] => True
  | [_] => True
  | x :: y :: t => (f x).testBit y = true ∧ Chn f (y :: t)
theorem chn_iff {f : Nat → Nat} : ∀ p : List Nat, Chn f p ↔ ∀ i, i + 1 < p.length → (f (p.getD i 0)).testBit (p.getD (i + 1) 0) = true
  | [] => by simp [Chn]
  | [_] => by simp [Chn]
  | x :: y :: t => by
    unfold Chn
    rw [chn_iff (y :: t)]
    constructor
    · rintro ⟨h1, h2⟩ i hi
      cases i with
      | zero => exact h1
      | succ i => exact h2 i (by simpa using hi)
    · intro h
      exact ⟨h 0 (by simp), fun i hi => h (i + 1) (by simpa using hi)⟩
theorem way_iff {f : Nat → Nat} {p : List Nat} : Way f p ↔ p.Nodup ∧ Chn f p := by
  unfold Way; rw [chn_iff]

/-- Put before the first one whom it beats, or at the end. -/
def insW (f : Nat → Nat) (a : Nat) : List Nat → List Nat
  | [] => [a]
  | x :: xs => if (f a).testBit x = true then a :: x :: xs else x :: insW f a xs
theorem insW_perm (f : Nat → Nat) (a : Nat) : ∀ L : List Nat, (insW f a L).Perm (a :: L)
  | [] => List.Perm.refl _
  | x :: xs => by
    unfold insW
    split
    · exact List.Perm.refl _
    · exact ((insW_perm f a xs).cons x).trans (List.Perm.swap a x xs)
theorem insW_chn {f : Nat → Nat} {a : Nat} : ∀ L : List Nat, (∀ x ∈ L, (f a).testBit x = false → (f x).testBit a = true) → Chn f L → Chn f (insW f a L)
  | [], _, _ => trivial
  | [x], h, _ => by
    unfold insW
    split
    · rename_i hb; exact ⟨hb, trivial⟩
    · rename_i hb
      exact ⟨h x (by simp) (by simpa using hb), trivial⟩
  | x :: y :: t, h, hc => by
    have ih := insW_chn (y :: t) (fun z hz => h z (by simp at hz ⊢; exact .inr hz)) hc.2
    unfold insW
    split
    · rename_i hb; exact ⟨hb, hc⟩
    · rename_i hb
      have hxa := h x (by simp) (by simpa using hb)
      unfold insW at ih ⊢
      split
      · rename_i hb2
        rw [if_pos hb2] at ih
        exact ⟨hxa, ih⟩
      · rename_i hb2
        rw [if_neg hb2] at ih
        exact ⟨hc.1, ih⟩
/-- The way through the first k players. -/
def fwL (f : Nat → Nat) : Nat → List Nat
  | 0 => []
  | k + 1 => insW f k (fwL f k)
theorem fwL_perm (f : Nat → Nat) : ∀ k, (fwL f k).Perm (List.range k)
  | 0 => List.Perm.refl _
  | k + 1 => by
    rw [List.range_succ]
    exact ((insW_perm f k _).trans ((fwL_perm f k).cons k)).trans (List.perm_append_singleton k _).symm
theorem fwL_len (f : Nat → Nat) (k : Nat) : (fwL f k).length = k := by have := (fwL_perm f k).length_eq; simpa using this
/-- Of two players one beats the other one. -/
def Tot (f : Nat → Nat) (m : Nat) : Prop := ∀ a b, a < m → b < m → a ≠ b → (f a).testBit b = false → (f b).testBit a = true
theorem fwL_way {f : Nat → Nat} {m : Nat} (ht : Tot f m) : ∀ k, k ≤ m → Way f (fwL f k) := by
  intro k hk
  refine way_iff.2 ⟨(fwL_perm f k).nodup_iff.2 List.nodup_range, ?_⟩
  induction k with
  | zero => trivial
  | succ k ih =>
    refine insW_chn _ (fun x hx => ?_) (ih (by omega))
    have h1 := List.mem_range.1 ((fwL_perm f k).mem_iff.1 hx)
    exact ht k x (by omega) (by omega) (by omega)
theorem fwL_mem {f : Nat → Nat} {k x : Nat} : x ∈ fwL f k ↔ x < k := by rw [(fwL_perm f k).mem_iff, List.mem_range]
theorem fwL_full {f : Nat → Nat} {m : Nat} (ht : Tot f m) (h1 : 1 ≤ m) (h8 : m ≤ 8) : fwL f m ∈ full f m := by
  have hl := fwL_len f m
  obtain ⟨q, r, hqr⟩ : ∃ q r, fwL f m = q :: r := by
    cases h : fwL f m with
    | nil => rw [h] at hl; simp at hl; omega
    | cons q r => exact ⟨q, r, rfl⟩
  have hq : q < m := fwL_mem.1 (by rw [hqr]; simp)
  refine List.mem_flatMap.2 ⟨q, List.mem_range.2 hq, (ways_mem (by omega)).2 ⟨fwL_way ht m (Nat.le_refl _), by rw [hl], fun x hx => by have := fwL_mem.1 hx; omega, r, hqr⟩⟩
theorem full_ne {f : Nat → Nat} {m : Nat} (ht : Tot f m) (h1 : 1 ≤ m) (h8 : m ≤ 8) : full f m ≠ [] := List.ne_nil_of_mem (fwL_full ht h1 h8)

/-- The ways through all players that go on with p. -/
def gx (f : Nat → Nat) (m : Nat) (p : List Nat) : List (List Nat) := if p = [] then full f m else ext f (m : Int) (8 - p.length) p
/-- Those that go on with p and then x, if they may. -/
def gn (f : Nat → Nat) (m : Nat) (p : List Nat) (x : Nat) : List (List Nat) := if p = [] ∨ (f (p.getLastD 0)).testBit x = true then gx f m (p ++ [x]) else []
theorem gx_cons {f : Nat → Nat} {m : Nat} {p : List Nat} (h : p ≠ []) : gx f m p = ext f (m : Int) (8 - p.length) p := if_neg h
theorem elems_all {m : Nat} (hm : m ≤ 8) : elems (2 ^ m - 1) = List.range m := by
  have : ∀ m : Fin 9, elems (2 ^ m.val - 1) = List.range m.val := by decide +kernel
  exact this ⟨m, by omega⟩
theorem flat_filter {α β : Type} (b : α → Bool) (g : α → List β) : ∀ L : List α, (L.filter b).flatMap g = L.flatMap fun x => if b x = true then g x else []
  | [] => rfl
  | x :: L => by
    rw [List.filter_cons, List.flatMap_cons, ← flat_filter b g L]
    split <;> simp
theorem gx_flat {f : Nat → Nat} {m : Nat} {p : List Nat} {s : Nat} (hm : m ≤ 8) (hl : p.length < m) (hf : p ≠ [] → f (p.getLastD 0) < 2 ^ m) (hs : Lf m p s) : gx f m p = (elems s).flatMap (gn f m p) := by
  by_cases hp : p = []
  · subst hp
    have e : s = 2 ^ m - 1 := eq_of_bits fun x => by rw [hs x, Lf.all m x]
    rw [e, elems_all hm]
    unfold gx full
    rw [if_pos rfl]
    congr 1
  · rw [gx_cons hp, show 8 - p.length = (8 - (p.length + 1)) + 1 by omega, ext_on (by omega), ← hs.next (hf hp)]
    have e : elems (s &&& f (p.getLastD 0)) = (elems s).filter fun x => (f (p.getLastD 0)).testBit x := by
      unfold elems elTo
      rw [List.filter_filter]
      apply List.filter_congr
      intro b _
      rw [Nat.testBit_and, Bool.and_comm]
    rw [e, flat_filter]
    congr 1
    funext x
    unfold gn
    by_cases hb : (f (p.getLastD 0)).testBit x = true
    · rw [if_pos hb, if_pos (.inr hb), gx_cons (by simp), List.length_append, List.length_singleton]
    · rw [if_neg hb, if_neg (fun h => h.elim hp hb)]
theorem head_flat {α β : Type} {g : α → List β} {c : α} (hc : g c ≠ []) : ∀ (L : List α) (i : Nat), L[i]? = some c → (∀ j x, j < i → L[j]? = some x → g x = []) → (L.flatMap g).head? = (g c).head? := by
  intro L
  induction L with
  | nil => intro i h; simp at h
  | cons y L ih =>
    intro i h1 h2
    rw [List.flatMap_cons]
    rcases i with _ | i
    · obtain rfl : y = c := by simpa using h1
      rw [List.head?_append]
      cases hh : (g y).head?
      · rw [List.head?_eq_none_iff] at hh; exact absurd hh hc
      · rfl
    · rw [h2 0 y (by omega) (by simp), List.nil_append]
      exact ih i (by simpa using h1) fun j x hj hx => h2 (j + 1) x (by omega) (by simpa using hx)
end Hw
end Go.Proofs.Ytgjogbihadiojaa
namespace Go.Proofs.Ytgjogbihadiojaa
open Go.ChangeShapes Go.WideShapes Go.ChangeAt Go.RowKit
set_option linter.unusedVariables false
namespace Ry

/-- A map without a fixed point that undoes itself: the list is of even length. -/
theorem even_of_swap {α : Type} [DecidableEq α] (σ : α → α) : ∀ (n : Nat) (X : List α), X.length = n → X.Nodup → (∀ x ∈ X, σ x ∈ X ∧ σ x ≠ x ∧ σ (σ x) = x) → X.length % 2 = 0 := by
  intro n
  induction n using Nat.strongRecOn with
  | ind n ih =>
    intro X hn hd hs
    cases X with
    | nil => rfl
    | cons x X =>
      obtain ⟨h1, h2, h3⟩ := hs x (by simp)
      have hy : σ x ∈ X := by
        rcases List.mem_cons.1 h1 with h | h
        · exact absurd h h2
        · exact h
      have hdx := (List.nodup_cons.1 hd)
      have hlen : (X.erase (σ x)).length = X.length - 1 := List.length_erase_of_mem hy
      have hpos : 1 ≤ X.length := List.length_pos_of_mem hy
      have key := ih (X.erase (σ x)).length (by simp at hn; omega) (X.erase (σ x)) rfl (hdx.2.erase _) (fun z hz => by
        have hzX : z ∈ X := List.mem_of_mem_erase hz
        have hne : z ≠ σ x := fun e => by
          rw [e] at hz
          exact (List.Nodup.not_mem_erase hdx.2) hz
        obtain ⟨k1, k2, k3⟩ := hs z (by simp [hzX])
        refine ⟨?_, k2, k3⟩
        have hzx : σ z ≠ x := fun e => hne (by rw [← k3, e])
        have hmem : σ z ∈ X := by
          rcases List.mem_cons.1 k1 with h | h
          · exact absurd h hzx
          · exact h
        have hne2 : σ z ≠ σ x := fun e => by
          have : z = x := by rw [← k3, e, h3]
          exact hdx.1 (this ▸ hzX)
        exact (List.mem_erase_of_ne hne2).2 hmem)
      rw [List.length_cons]
      omega

/-- A chain of a relation. -/
def ch (g : Nat → Nat → Bool) : List Nat → Bool
  | x :: y :: t => g x y && ch g (y :: t)
  | _ => true
/-- No step of the list is of the relation. -/
def no (g : Nat → Nat → Bool) (p : List Nat) : Bool := ch (fun x y => !g x y) p

/-- The list cut into blocks that are chains. -/
def joins (g : Nat → Nat → Bool) (x : Nat) : List Nat → Bool
  | [] => false
  | y :: _ => g x y
def cutS (g : Nat → Nat → Bool) (x : Nat) : List (List Nat) → List (List (List Nat))
  | [] => [[[x]]]
  | b :: L => if joins g x b = true then [[x] :: b :: L, (x :: b) :: L] else [[x] :: b :: L]
def cuts (g : Nat → Nat → Bool) : List Nat → List (List (List Nat))
  | [] => [[]]
  | x :: t => (cuts g t).flatMap (cutS g x)
section
variable {g : Nat → Nat → Bool}
theorem cutS_cons (x : Nat) (b : List Nat) (L : List (List Nat)) : cutS g x (b :: L) = if joins g x b = true then [[x] :: b :: L, (x :: b) :: L] else [[x] :: b :: L] := rfl
theorem mem_cuts : ∀ {p : List Nat} {L : List (List Nat)}, L ∈ cuts g p ↔ L.flatten = p ∧ ∀ b ∈ L, b ≠ [] ∧ ch g b = true := by
  intro p
  induction p with
  | nil =>
    intro L
    unfold cuts
    constructor
    · intro h
      rw [List.mem_singleton] at h
      subst h
      simp
    · rintro ⟨h1, h2⟩
      rw [List.mem_singleton]
      cases L with
      | nil => rfl
      | cons b L =>
        exfalso
        have := (h2 b (by simp)).1
        simp at h1
        exact this h1.1
  | cons x t ih =>
    intro L
    unfold cuts
    rw [List.mem_flatMap]
    constructor
    · rintro ⟨L0, h0, h1⟩
      obtain ⟨h2, h3⟩ := ih.1 h0
      cases L0 with
      | nil =>
        have h1 : L ∈ [[[x]]] := h1
        simp at h1
        subst h1
        simp at h2
        subst h2
        simp [ch]
      | cons b L0 =>
        have hb := h3 b (by simp)
        cases b with
        | nil => exact absurd rfl hb.1
        | cons y b =>
          have h1 : L ∈ (if g x y = true then [[x] :: (y :: b) :: L0, (x :: y :: b) :: L0] else [[x] :: (y :: b) :: L0] : List (List (List Nat))) := h1
          by_cases hg : g x y = true
          · rw [if_pos hg] at h1
            rcases List.mem_cons.1 h1 with h | h
            · subst h
              refine ⟨by simpa using h2, fun c hc => ?_⟩
              rcases List.mem_cons.1 hc with rfl | hc
              · simp [ch]
              · exact h3 c hc
            · rw [List.mem_singleton] at h
              subst h
              refine ⟨by simpa using h2, fun c hc => ?_⟩
              rcases List.mem_cons.1 hc with rfl | hc
              · exact ⟨by simp, by unfold ch; rw [hg, hb.2]; rfl⟩
              · exact h3 c (by simp [hc])
          · rw [if_neg hg, List.mem_singleton] at h1
            subst h1
            refine ⟨by simpa using h2, fun c hc => ?_⟩
            rcases List.mem_cons.1 hc with rfl | hc
            · simp [ch]
            · exact h3 c hc
    · rintro ⟨h1, h2⟩
      cases L with
      | nil => simp at h1
      | cons b L =>
        have hb := h2 b (by simp)
        cases b with
        | nil => exact absurd rfl hb.1
        | cons z b =>
          simp at h1
          obtain ⟨rfl, h1⟩ := h1
          cases b with
          | nil =>
            refine ⟨L, ih.2 ⟨by simpa using h1, fun c hc => h2 c (by simp [hc])⟩, ?_⟩
            cases L with
            | nil => exact List.mem_singleton.2 rfl
            | cons c L =>
              rw [cutS_cons]
              split <;> simp
          | cons y b =>
            refine ⟨(y :: b) :: L, ih.2 ⟨by simpa using h1, fun c hc => ?_⟩, ?_⟩
            · rcases List.mem_cons.1 hc with rfl | hc
              · exact ⟨by simp, by have := hb.2; unfold ch at this; rw [Bool.and_eq_true] at this; exact this.2⟩
              · exact h2 c (by simp [hc])
            · have : g z y = true := by have := hb.2; unfold ch at this; rw [Bool.and_eq_true] at this; exact this.1
              show _ ∈ (if g z y = true then [[z] :: (y :: b) :: L, (z :: y :: b) :: L] else [[z] :: (y :: b) :: L] : List (List (List Nat)))
              rw [if_pos this]
              simp
theorem flat_len {α β : Type} (f : α → List β) (c : Nat) : ∀ E : List α, (∀ e ∈ E, (f e).length = c) → (E.flatMap f).length = c * E.length := by
  intro E
  induction E with
  | nil => intro _; simp
  | cons x E ih =>
    intro h
    rw [List.flatMap_cons, List.length_append, ih (fun e he => h e (by simp [he])), h x (by simp), List.length_cons, Nat.mul_add, Nat.mul_one, Nat.add_comm]
theorem flat_nodup {α β : Type} (f : α → List β) (r : β → α) : ∀ E : List α, E.Nodup → (∀ e ∈ E, (f e).Nodup) → (∀ e ∈ E, ∀ z ∈ f e, r z = e) → (E.flatMap f).Nodup := by
  intro E
  induction E with
  | nil => intro _ _ _; simp
  | cons x E ih =>
    intro h1 h2 h3
    obtain ⟨k1, k2⟩ := List.nodup_cons.1 h1
    rw [List.flatMap_cons, List.nodup_append]
    refine ⟨h2 x (by simp), ih k2 (fun e he => h2 e (by simp [he])) (fun e he => h3 e (by simp [he])), fun a ha b hb hab => ?_⟩
    subst hab
    obtain ⟨e, he, hz⟩ := List.mem_flatMap.1 hb
    have e1 := h3 x (by simp) a ha
    have e2 := h3 e (by simp [he]) a hz
    exact k1 (by rw [← e1, e2]; exact he)
theorem cuts_len : ∀ p : List Nat, (cuts g p).length % 2 = if no g p = true then 1 else 0 := by
  intro p
  induction p with
  | nil => rfl
  | cons x t ih =>
    cases t with
    | nil => rfl
    | cons y t =>
      have hn : no g (x :: y :: t) = (!g x y && no g (y :: t)) := rfl
      have hc : ∀ L ∈ cuts g (y :: t), (cutS g x L).length = if g x y = true then 2 else 1 := by
        intro L hL
        obtain ⟨h1, h2⟩ := mem_cuts.1 hL
        cases L with
        | nil => simp at h1
        | cons b L =>
          cases b with
          | nil => exact absurd rfl (h2 [] (by simp)).1
          | cons z b =>
            simp at h1
            obtain ⟨rfl, _⟩ := h1
            show (if g x z = true then [[x] :: (z :: b) :: L, (x :: z :: b) :: L] else [[x] :: (z :: b) :: L] : List (List (List Nat))).length = _
            split <;> rfl
      have hl : (cuts g (x :: y :: t)).length = (if g x y = true then 2 else 1) * (cuts g (y :: t)).length := flat_len _ _ _ hc
      rw [hl, hn]
      cases hg : g x y
      · rw [if_neg (by simp), Nat.one_mul, ih]; rfl
      · rw [if_pos rfl, Nat.mul_mod_right]; rfl
/-- What a cut was made of. -/
def uncut : List (List Nat) → List (List Nat)
  | [] => []
  | [] :: M => M
  | [_] :: M => M
  | (_ :: y :: b) :: M => (y :: b) :: M
theorem cuts_nodup : ∀ p : List Nat, (cuts g p).Nodup := by
  intro p
  induction p with
  | nil => simp [cuts]
  | cons x t ih =>
    unfold cuts
    refine flat_nodup _ uncut _ ih (fun L hL => ?_) (fun L hL z hz => ?_)
    · cases L with
      | nil => simp [cutS]
      | cons b L =>
        have hb := (mem_cuts.1 hL).2 b (by simp)
        rw [cutS_cons]
        split
        · simp
        · simp
    · cases L with
      | nil =>
        have hz : z ∈ [[[x]]] := hz
        simp at hz
        subst hz
        rfl
      | cons b L =>
        have hb := (mem_cuts.1 hL).2 b (by simp)
        cases b with
        | nil => exact absurd rfl hb.1
        | cons y b =>
          have hz2 : z ∈ (if g x y = true then [[x] :: (y :: b) :: L, (x :: y :: b) :: L] else [[x] :: (y :: b) :: L] : List (List (List Nat))) := hz
          split at hz2
          · rcases List.mem_cons.1 hz2 with h | h
            · subst h; rfl
            · rw [List.mem_singleton] at h
              subst h; rfl
          · rw [List.mem_singleton] at hz2
            subst hz2; rfl
theorem all_same {α : Type} {v : α} : ∀ E : List α, E.Nodup → (∀ z ∈ E, z = v) → E.length ≤ 1 := by
  intro E h1 h2
  match E, h1, h2 with
  | [], _, _ => simp
  | [a], _, _ => simp
  | a :: b :: E, h1, h2 =>
    exfalso
    have e1 := h2 a (by simp)
    have e2 := h2 b (by simp)
    have := (List.nodup_cons.1 h1).1
    exact this (by simp [e1, e2])
/-- The only block. -/
theorem cuts_one {p : List Nat} (hp : p ≠ []) : ((cuts g p).filter fun L => decide (L.length < 2)).length = if ch g p = true then 1 else 0 := by
  have hn : ((cuts g p).filter fun L => decide (L.length < 2)).Nodup := (cuts_nodup p).filter _
  have hall : ∀ z ∈ (cuts g p).filter (fun L => decide (L.length < 2)), z = [p] ∧ ch g p = true := by
    intro z hz
    obtain ⟨h1, h2⟩ := List.mem_filter.1 hz
    rw [decide_eq_true_iff] at h2
    obtain ⟨h3, h4⟩ := mem_cuts.1 h1
    match z, h2, h3, h4 with
    | [], _, h3, _ => exact absurd h3.symm hp
    | [b], _, h3, h4 =>
      have : b = p := by simpa using h3
      subst this
      exact ⟨rfl, (h4 b (by simp)).2⟩
  by_cases hc : ch g p = true
  · rw [if_pos hc]
    have h1 := all_same _ hn (fun z hz => (hall z hz).1)
    have h2 : [p] ∈ (cuts g p).filter (fun L => decide (L.length < 2)) := by
      refine List.mem_filter.2 ⟨mem_cuts.2 ⟨by simp, fun b hb => ?_⟩, by simp⟩
      rw [List.mem_singleton] at hb
      subst hb
      exact ⟨hp, hc⟩
    have := List.length_pos_of_mem h2
    omega
  · rw [if_neg hc]
    cases h : (cuts g p).filter (fun L => decide (L.length < 2)) with
    | nil => rfl
    | cons z E =>
      exfalso
      exact hc (hall z (by rw [h]; simp)).2
theorem flat_odd {α β : Type} (f : α → List β) (c : α → Bool) : ∀ E : List α, (∀ e ∈ E, (f e).length % 2 = if c e = true then 1 else 0) → (E.flatMap f).length % 2 = E.countP c % 2 := by
  intro E
  induction E with
  | nil => intro _; rfl
  | cons x E ih =>
    intro h
    have h1 := ih (fun e he => h e (by simp [he]))
    have h2 := h x (by simp)
    rw [List.flatMap_cons, List.length_append, List.countP_cons]
    split at h2
    · rename_i hc; rw [if_pos hc]; omega
    · rename_i hc; rw [if_neg hc]; omega
/-- The first two blocks exchanged. -/
def swp : List (List Nat) → List (List Nat)
  | a :: b :: r => b :: a :: r
  | L => L
/-- All orders of the players. -/
def P (m : Nat) : List (List Nat) := Hw.full (fun _ => 2 ^ m - 1) m
theorem ch_iff {f : Nat → Nat} : ∀ p : List Nat, Hw.Chn f p ↔ ch (fun x y => (f x).testBit y) p = true
  | [] => by simp [Hw.Chn, ch]
  | [x] => by simp [Hw.Chn, ch]
  | x :: y :: t => by
    have ih := ch_iff (f := f) (y :: t)
    unfold Hw.Chn ch
    rw [Bool.and_eq_true, ih]
theorem chn_low {f : Nat → Nat} {m : Nat} (hf : ∀ x, x < m → f x < 2 ^ m) : ∀ (q : List Nat) (x : Nat), x < m → Hw.Chn f (x :: q) → ∀ y ∈ x :: q, y < m
  | [], x, hx, _, y, hy => by
    obtain rfl : y = x := by simpa using hy
    exact hx
  | z :: q, x, hx, hc, y, hy => by
    have hz : z < m := by
      rcases Nat.lt_or_ge z m with h | h
      · exact h
      · have h2 := hc.1
        rw [Nat.testBit_lt_two_pow (Nat.lt_of_lt_of_le (hf x hx) (Nat.pow_le_pow_right (by decide) h))] at h2
        cases h2
    rcases List.mem_cons.1 hy with rfl | hy
    · exact hx
    · exact chn_low hf q z hz hc.2 y hy
theorem mem_full {f : Nat → Nat} {m : Nat} (hm : m ≤ 8) (h1 : 1 ≤ m) (hf : ∀ x, x < m → f x < 2 ^ m) {w : List Nat} : w ∈ Hw.full f m ↔ w.Nodup ∧ w.length = m ∧ (∀ x ∈ w, x < m) ∧ ch (fun x y => (f x).testBit y) w = true := by
  unfold Hw.full
  rw [List.mem_flatMap]
  constructor
  · rintro ⟨a, ha, hw⟩
    have ha := List.mem_range.1 ha
    obtain ⟨k1, k2, k3, q, rfl⟩ := (Hw.ways_mem (by omega)).1 hw
    have hc := (Hw.way_iff.1 k1).2
    exact ⟨k1.1, by omega, chn_low hf q a ha hc, (ch_iff _).1 hc⟩
  · rintro ⟨k1, k2, k3, k4⟩
    cases w with
    | nil => simp at k2; omega
    | cons a q =>
      have ha := k3 a (by simp)
      refine ⟨a, List.mem_range.2 ha, (Hw.ways_mem (by omega)).2 ⟨Hw.way_iff.2 ⟨k1, (ch_iff _).2 k4⟩, by rw [k2], fun x hx => by have := k3 x hx; omega, q, rfl⟩⟩
theorem ch_all {g : Nat → Nat → Bool} : ∀ p : List Nat, (∀ x ∈ p, ∀ y ∈ p, g x y = true) → ch g p = true
  | [], _ => rfl
  | [_], _ => rfl
  | x :: y :: t, h => by
    unfold ch
    rw [h x (by simp) y (by simp), ch_all (y :: t) (fun a ha b hb => h a (by simp [ha]) b (by simp [hb]))]; rfl
theorem mem_P {m : Nat} (hm : m ≤ 8) (h1 : 1 ≤ m) {w : List Nat} : w ∈ P m ↔ w.Nodup ∧ w.length = m ∧ ∀ x ∈ w, x < m := by
  unfold P
  rw [mem_full hm h1 (fun x _ => by have := Nat.two_pow_pos m; omega)]
  constructor
  · rintro ⟨k1, k2, k3, _⟩; exact ⟨k1, k2, k3⟩
  · rintro ⟨k1, k2, k3⟩
    exact ⟨k1, k2, k3, ch_all w (fun x hx y hy => by rw [Nat.testBit_two_pow_sub_one, decide_eq_true_iff]; exact k3 y hy)⟩
theorem nx_nodup (f : Nat → Nat) (p : List Nat) : (Hw.nx f p).Nodup := by
  unfold Hw.nx elems elTo
  exact ((List.nodup_range).filter _).filter _
theorem ext_nodup {f : Nat → Nat} {k : Int} : ∀ (n : Nat) (p : List Nat), Hw.Way f p → p ≠ [] → (∀ x ∈ p, x < 8) → (Hw.ext f k n p).Nodup := by
  intro n
  induction n with
  | zero =>
    intro p _ _ _
    by_cases h : (p.length : Int) = k
    · rw [Hw.ext_at h]; simp
    · rw [Hw.ext_no h]; simp
  | succ n ih =>
    intro p hw hne h8
    by_cases h : (p.length : Int) = k
    · rw [Hw.ext_at h]; simp
    · rw [Hw.ext_on h]
      have key : ∀ b ∈ Hw.nx f p, Hw.Way f (p ++ [b]) ∧ ∀ x ∈ p ++ [b], x < 8 := fun b hb => by
        obtain ⟨k1, k2, k3⟩ := Hw.mem_nx.1 hb
        refine ⟨hw.snoc k3 (.inr k2), fun x hx => ?_⟩
        rcases List.mem_append.1 hx with h | h
        · exact h8 x h
        · obtain rfl : x = b := by simpa using h
          exact k1
      refine flat_nodup _ (fun w => w.getD p.length 0) _ (nx_nodup f p) (fun b hb => ih _ (key b hb).1 (by simp) (key b hb).2) (fun b hb w hw2 => ?_)
      obtain ⟨_, _, _, q, rfl⟩ := Hw.mem_ext (key b hb).1 (by simp) (key b hb).2 hw2
      simp
theorem full_nodup {f : Nat → Nat} {m : Nat} (hm : m ≤ 8) : (Hw.full f m).Nodup := by
  unfold Hw.full
  refine flat_nodup _ (fun w => w.getD 0 0) _ List.nodup_range (fun a ha => ?_) (fun a ha w hw => ?_)
  · have ha := List.mem_range.1 ha
    exact ext_nodup 7 [a] (Hw.Way.one f a) (by simp) (fun x hx => by
      obtain rfl : x = a := by simpa using hx
      omega)
  · exact Hw.ext_first hw (by simp)
/-- The number of full ways. -/
theorem full_count {f : Nat → Nat} {m : Nat} (hm : m ≤ 8) (h1 : 1 ≤ m) (hf : ∀ x, x < m → f x < 2 ^ m) : (Hw.full f m).length = (P m).countP (ch fun x y => (f x).testBit y) := by
  rw [List.countP_eq_length_filter]
  refine List.Perm.length_eq ((List.perm_ext_iff_of_nodup (full_nodup hm) ((full_nodup hm).filter _)).2 fun w => ?_)
  rw [mem_full hm h1 hf, List.mem_filter, show Hw.full (fun _ => 2 ^ m - 1) m = P m from rfl, mem_P hm h1]
  constructor
  · rintro ⟨a, b, c, d⟩; exact ⟨⟨a, b, c⟩, d⟩
  · rintro ⟨⟨a, b, c⟩, d⟩; exact ⟨a, b, c, d⟩
theorem swp_mem {m : Nat} (hm : m ≤ 8) (h1 : 1 ≤ m) {L : List (List Nat)} (h : L ∈ (P m).flatMap (cuts g)) : swp L ∈ (P m).flatMap (cuts g) := by
  obtain ⟨p, hp, hL⟩ := List.mem_flatMap.1 h
  obtain ⟨k1, k2⟩ := mem_cuts.1 hL
  match L, hL, k1, k2 with
  | [], _, _, _ => exact h
  | [b], _, _, _ => exact h
  | a :: b :: r, _, k1, k2 =>
    have hperm : (b :: a :: r).flatten.Perm p := by
      rw [← k1]
      simp only [List.flatten_cons]
      rw [← List.append_assoc, ← List.append_assoc]
      exact List.Perm.append_right _ List.perm_append_comm
    obtain ⟨e1, e2, e3⟩ := (mem_P hm h1).1 hp
    refine List.mem_flatMap.2 ⟨(b :: a :: r).flatten, (mem_P hm h1).2 ⟨hperm.nodup_iff.2 e1, by rw [hperm.length_eq, e2], fun x hx => e3 x (hperm.mem_iff.1 hx)⟩, mem_cuts.2 ⟨rfl, fun c hc => k2 c ?_⟩⟩
    rcases List.mem_cons.1 hc with h | h
    · rw [h]; simp
    · rcases List.mem_cons.1 h with h | h
      · rw [h]; simp
      · simp [h]
theorem len_split {α : Type} (c : α → Bool) : ∀ E : List α, E.length = E.countP c + E.countP (fun x => !c x) := by
  intro E
  induction E with
  | nil => rfl
  | cons x E ih =>
    rw [List.length_cons, List.countP_cons, List.countP_cons, ih]
    cases c x <;> simp <;> omega
/-- As many orders without a step of a relation as with nothing else: both even, or both odd. -/
theorem parity {m : Nat} (hm : m ≤ 8) (h1 : 1 ≤ m) : (P m).countP (no g) % 2 = (P m).countP (ch g) % 2 := by
  have hX : ((P m).flatMap (cuts g)).length % 2 = (P m).countP (no g) % 2 := flat_odd _ _ _ fun p _ => cuts_len p
  have hnd : ((P m).flatMap (cuts g)).Nodup := flat_nodup _ List.flatten _ (full_nodup hm) (fun p _ => cuts_nodup p) (fun p _ L hL => (mem_cuts.1 hL).1)
  have hone : (((P m).flatMap (cuts g)).filter fun L => decide (L.length < 2)).length % 2 = (P m).countP (ch g) % 2 := by
    rw [List.filter_flatMap]
    refine flat_odd _ _ _ fun p hp => ?_
    have hne : p ≠ [] := fun e => by
      have := ((mem_P hm h1).1 hp).2.1
      rw [e] at this
      simp at this
      omega
    show ((cuts g p).filter fun L => decide (L.length < 2)).length % 2 = _
    rw [cuts_one hne]
    split <;> rfl
  have htwo : (((P m).flatMap (cuts g)).filter fun L => !decide (L.length < 2)).length % 2 = 0 := by
    refine even_of_swap swp _ _ rfl (hnd.filter _) fun L hL => ?_
    obtain ⟨k1, k2⟩ := List.mem_filter.1 hL
    obtain ⟨p, hp, hc⟩ := List.mem_flatMap.1 k1
    obtain ⟨k3, k4⟩ := mem_cuts.1 hc
    match L, k1, k2, k3, k4 with
    | [], _, k2, _, _ => simp at k2
    | [b], _, k2, _, _ => simp at k2
    | a :: b :: r, k1, _, k3, k4 =>
      refine ⟨List.mem_filter.2 ⟨swp_mem hm h1 k1, by show (!decide (r.length + 1 + 1 < 2)) = true; rw [decide_eq_false (by omega)]; rfl⟩, fun e => ?_, rfl⟩
      have hab : b = a := by simp [swp] at e; exact e.1
      have hn := ((mem_P hm h1).1 hp).1
      rw [← k3] at hn
      simp only [List.flatten_cons] at hn
      obtain ⟨x, hx⟩ := List.exists_mem_of_ne_nil a (k4 a (by simp)).1
      have := (List.nodup_append.1 hn).2.2 x hx x (by rw [hab]; simp [hx])
      exact this rfl
  have hsum : ((P m).flatMap (cuts g)).length = (((P m).flatMap (cuts g)).filter fun L => decide (L.length < 2)).length + (((P m).flatMap (cuts g)).filter fun L => !decide (L.length < 2)).length := by
    rw [← List.countP_eq_length_filter, ← List.countP_eq_length_filter]
    exact len_split _ _
  omega

/-- The steps of a list. -/
def steps : List Nat → List (Nat × Nat)
  | x :: y :: t => (x, y) :: steps (y :: t)
  | _ => []
theorem ch_st : ∀ p : List Nat, ch g p = true ↔ ∀ s ∈ steps p, g s.1 s.2 = true
  | [] => by simp [ch, steps]
  | [x] => by simp [ch, steps]
  | x :: y :: t => by
    unfold ch steps
    rw [Bool.and_eq_true, ch_st (y :: t)]
    constructor
    · rintro ⟨h1, h2⟩ s hs
      rcases List.mem_cons.1 hs with rfl | hs
      · exact h1
      · exact h2 s hs
    · intro h
      exact ⟨h (x, y) (by simp), fun s hs => h s (by simp [hs])⟩
theorem steps_iff {x y : Nat} : ∀ p : List Nat, (x, y) ∈ steps p ↔ ∃ q r, p = q ++ x :: y :: r
  | [] => by simp [steps]
  | [z] => by
    simp only [steps, List.not_mem_nil, false_iff]
    rintro ⟨q, r, h⟩
    have := congrArg List.length h
    simp at this
    omega
  | z :: u :: t => by
    unfold steps
    rw [List.mem_cons, steps_iff (u :: t)]
    constructor
    · rintro (h | ⟨q, r, h⟩)
      · obtain ⟨rfl, rfl⟩ := Prod.mk.inj h
        exact ⟨[], t, rfl⟩
      · exact ⟨z :: q, r, by rw [h]; rfl⟩
    · rintro ⟨q, r, h⟩
      cases q with
      | nil =>
        simp at h
        exact .inl (by rw [h.1, h.2.1])
      | cons c q =>
        simp at h
        exact .inr ⟨q, r, h.2⟩
theorem steps_rev {x y : Nat} {p : List Nat} : (x, y) ∈ steps p.reverse ↔ (y, x) ∈ steps p := by
  rw [steps_iff, steps_iff]
  constructor
  · rintro ⟨q, r, h⟩
    refine ⟨r.reverse, q.reverse, ?_⟩
    have := congrArg List.reverse h
    simpa using this
  · rintro ⟨q, r, h⟩
    refine ⟨r.reverse, q.reverse, ?_⟩
    rw [h]; simp
theorem steps_ne {x y : Nat} {p : List Nat} (hn : p.Nodup) (h : (x, y) ∈ steps p) : x ≠ y := by
  obtain ⟨q, r, rfl⟩ := (steps_iff p).1 h
  have := (List.nodup_append.1 hn).2.1
  simp at this
  exact fun e => this.1.1 e
theorem steps_mem {x y : Nat} {p : List Nat} (h : (x, y) ∈ steps p) : x ∈ p ∧ y ∈ p := by
  obtain ⟨q, r, rfl⟩ := (steps_iff p).1 h
  simp
theorem steps_one {x y : Nat} : ∀ {p : List Nat}, p.Nodup → (x, y) ∈ steps p → (y, x) ∉ steps p
  | [], _, h => by simp [steps] at h
  | [z], _, h => by simp [steps] at h
  | z :: u :: t, hn, h => by
    intro h2
    have hz := (List.nodup_cons.1 hn).1
    have hn2 := (List.nodup_cons.1 hn).2
    unfold steps at h h2
    rcases List.mem_cons.1 h with h3 | h3
    · obtain ⟨rfl, rfl⟩ := Prod.mk.inj h3
      rcases List.mem_cons.1 h2 with h4 | h4
      · obtain ⟨e, _⟩ := Prod.mk.inj h4
        exact hz (by simp [e])
      · exact hz (steps_mem h4).2
    · rcases List.mem_cons.1 h2 with h4 | h4
      · obtain ⟨rfl, rfl⟩ := Prod.mk.inj h4
        exact hz (steps_mem h3).2
      · exact steps_one hn2 h3 h4
/-- The order of two players in the other direction. -/
def flp (g : Nat → Nat → Bool) (a b : Nat) : Nat → Nat → Bool := fun x y => if (x = a ∧ y = b) ∨ (x = b ∧ y = a) then !g x y else g x y
/-- Any two players have a game, and one alone wins it. -/
def Tn (g : Nat → Nat → Bool) (m : Nat) : Prop := ∀ x y, x < m → y < m → x ≠ y → g x y = !g y x
theorem Tn.flp {m a b : Nat} (h : Tn g m) (hab : a ≠ b) : Tn (flp g a b) m := by
  intro x y hx hy hxy
  have := h x y hx hy hxy
  unfold Ry.flp
  by_cases h1 : (x = a ∧ y = b) ∨ (x = b ∧ y = a)
  · have h2 : (y = a ∧ x = b) ∨ (y = b ∧ x = a) := by omega
    rw [if_pos h1, if_pos h2, this]
  · have h2 : ¬ ((y = a ∧ x = b) ∨ (y = b ∧ x = a)) := by omega
    rw [if_neg h1, if_neg h2, this]
theorem P_rev {m : Nat} (hm : m ≤ 8) (h1 : 1 ≤ m) (c : List Nat → Bool) : (P m).countP c = (P m).countP (fun p => c p.reverse) := by
  have hp : ((P m).map List.reverse).Perm (P m) := by
    refine (List.perm_ext_iff_of_nodup ?_ (full_nodup hm)).2 fun w => ?_
    · unfold List.Nodup
      rw [List.pairwise_map]
      refine List.Pairwise.imp (fun {a b} hab e => hab ?_) (full_nodup hm (f := fun _ => 2 ^ m - 1) (m := m))
      have := congrArg List.reverse e
      simpa using this
    · rw [List.mem_map, show Hw.full (fun _ => 2 ^ m - 1) m = P m from rfl]
      constructor
      · rintro ⟨p, hp, rfl⟩
        obtain ⟨a, b, c⟩ := (mem_P hm h1).1 hp
        exact (mem_P hm h1).2 ⟨by unfold List.Nodup; rw [List.pairwise_reverse]; exact List.Pairwise.imp (fun h => Ne.symm h) a, by simpa using b, fun x hx => c x (by simpa using hx)⟩
      · intro hw
        obtain ⟨a, b, c⟩ := (mem_P hm h1).1 hw
        exact ⟨w.reverse, (mem_P hm h1).2 ⟨by unfold List.Nodup; rw [List.pairwise_reverse]; exact List.Pairwise.imp (fun h => Ne.symm h) a, by simpa using b, fun x hx => c x (by simpa using hx)⟩, by simp⟩
  rw [← hp.countP_eq c, List.countP_map]
  rfl
theorem count_add {α : Type} {c d e : α → Bool} : ∀ E : List α, (∀ x ∈ E, (c x = true ↔ d x = true ∨ e x = true) ∧ ¬ (d x = true ∧ e x = true)) → E.countP c = E.countP d + E.countP e := by
  intro E
  induction E with
  | nil => intro _; rfl
  | cons x E ih =>
    intro h
    rw [List.countP_cons, List.countP_cons, List.countP_cons, ih (fun y hy => h y (by simp [hy]))]
    obtain ⟨h1, h2⟩ := h x (by simp)
    cases hc : c x <;> cases hd : d x <;> cases he : e x <;> simp [hc, hd, he] at h1 h2 ⊢ <;> omega
theorem count_same {α : Type} {c d : α → Bool} (E : List α) (h : ∀ x ∈ E, c x = true ↔ d x = true) : E.countP c = E.countP d := List.countP_congr h
def has (a b : Nat) (p : List Nat) : Bool := (steps p).contains (a, b)
theorem has_iff {a b : Nat} {p : List Nat} : has a b p = true ↔ (a, b) ∈ steps p := by
  unfold has; rw [List.contains_iff_mem]
/-- One game in the other direction: the number of full ways stays even, or odd. -/
theorem flip_parity {m a b : Nat} (hm : m ≤ 8) (h1 : 1 ≤ m) (ht : Tn g m) (ha : a < m) (hb : b < m) (hab : a ≠ b) (hg : g a b = true) : (P m).countP (ch (flp g a b)) % 2 = (P m).countP (ch g) % 2 := by
  have hgb : g b a = false := by rw [ht b a hb ha (fun e => hab e.symm), hg]; rfl
  obtain ⟨G, hG⟩ : ∃ G : Nat → Nat → Bool, G = fun x y => g x y || (x == b && y == a) := ⟨_, rfl⟩
  have hGi : ∀ x y, G x y = true ↔ g x y = true ∨ (x = b ∧ y = a) := fun x y => by rw [hG]; simp
  have hin : ∀ p ∈ P m, ∀ x y, (x, y) ∈ steps p → x < m ∧ y < m ∧ x ≠ y := fun p hp x y h => by
    obtain ⟨k1, k2, k3⟩ := (mem_P hm h1).1 hp
    exact ⟨k3 x (steps_mem h).1, k3 y (steps_mem h).2, steps_ne k1 h⟩
  -- with the other direction besides
  have e1 : (P m).countP (ch G) = (P m).countP (ch g) + (P m).countP (fun p => ch (flp g a b) p && has b a p) := by
    refine count_add _ fun p hp => ⟨?_, ?_⟩
    · rw [Bool.and_eq_true, has_iff, ch_st, ch_st, ch_st]
      constructor
      · intro h
        by_cases hba : (b, a) ∈ steps p
        · refine .inr ⟨fun s hs => ?_, hba⟩
          have hs1 := (hGi _ _).1 (h s hs)
          have hnab : ¬ (s.1 = a ∧ s.2 = b) := fun e => steps_one ((mem_P hm h1).1 hp).1 hba (by rw [← e.1, ← e.2]; exact hs)
          unfold flp
          by_cases hs2 : s.1 = b ∧ s.2 = a
          · rw [if_pos (.inr hs2), hs2.1, hs2.2, hgb]; rfl
          · rw [if_neg (by rintro (h | h); exact hnab h; exact hs2 h)]
            rcases hs1 with h | h
            · exact h
            · exact absurd h hs2
        · refine .inl fun s hs => ?_
          rcases (hGi _ _).1 (h s hs) with h | h
          · exact h
          · exact absurd (show (b, a) ∈ steps p by rw [← h.1, ← h.2]; exact hs) hba
      · rintro (h | ⟨h, hba⟩) s hs
        · exact (hGi _ _).2 (.inl (h s hs))
        · have h2 := h s hs
          unfold flp at h2
          by_cases hs2 : s.1 = b ∧ s.2 = a
          · exact (hGi _ _).2 (.inr hs2)
          · have hnab : ¬ (s.1 = a ∧ s.2 = b) := fun e => steps_one ((mem_P hm h1).1 hp).1 hba (by rw [← e.1, ← e.2]; exact hs)
            rw [if_neg (by rintro (h | h); exact hnab h; exact hs2 h)] at h2
            exact (hGi _ _).2 (.inl h2)
    · rw [Bool.and_eq_true, has_iff, ch_st]
      rintro ⟨h, _, hba⟩
      have := h _ hba
      rw [hgb] at this
      cases this
  -- without the game
  have e2 : (P m).countP (no G) = (P m).countP (fun p => ch g p && !has a b p) := by
    rw [P_rev hm h1]
    refine count_same _ fun p hp => ?_
    unfold no
    rw [Bool.and_eq_true, Bool.not_eq_true', ← Bool.not_eq_true, has_iff, ch_st, ch_st]
    constructor
    · intro h
      have key : ∀ x y, (x, y) ∈ steps p → g x y = true ∧ ¬ (x = a ∧ y = b) := fun x y hs => by
        have h2 := h (y, x) (steps_rev.2 hs)
        have h3 : ¬ G y x = true := by simpa using h2
        rw [hGi] at h3
        obtain ⟨k1, k2, k3⟩ := hin p hp x y hs
        refine ⟨?_, fun e => h3 (.inr ⟨e.2, e.1⟩)⟩
        rw [ht x y k1 k2 k3]
        cases hyx : g y x
        · rfl
        · exact absurd (.inl hyx) h3
      exact ⟨fun s hs => (key s.1 s.2 hs).1, fun hs => (key a b hs).2 ⟨rfl, rfl⟩⟩
    · rintro ⟨h, hn⟩ s hs
      have hs2 : (s.2, s.1) ∈ steps p := steps_rev.1 hs
      have h2 := h _ hs2
      obtain ⟨k1, k2, k3⟩ := hin p hp _ _ hs2
      have h3 : ¬ G s.1 s.2 = true := by
        rw [hGi]
        rintro (h4 | h4)
        · have := ht _ _ k1 k2 k3
          simp only at h2
          rw [h2, h4] at this
          cases this
        · exact hn (by rw [← h4.1, ← h4.2]; exact hs2)
      simpa using h3
  have e3 : (P m).countP (fun p => ch g p && !has a b p) = (P m).countP (fun p => ch (flp g a b) p && !has b a p) := by
    refine count_same _ fun p hp => ?_
    rw [Bool.and_eq_true, Bool.and_eq_true, Bool.not_eq_true', Bool.not_eq_true', ← Bool.not_eq_true, ← Bool.not_eq_true, has_iff, has_iff, ch_st, ch_st]
    constructor
    · rintro ⟨h, hn⟩
      have hba : (b, a) ∉ steps p := fun hs => by have := h _ hs; rw [hgb] at this; cases this
      refine ⟨fun s hs => ?_, hba⟩
      unfold flp
      rw [if_neg ?_]
      · exact h s hs
      · rintro (e | e)
        · exact hn (by rw [← e.1, ← e.2]; exact hs)
        · exact hba (by rw [← e.1, ← e.2]; exact hs)
    · rintro ⟨h, hn⟩
      have hab2 : (a, b) ∉ steps p := fun hs => by
        have := h _ hs
        unfold flp at this
        rw [if_pos (.inl ⟨rfl, rfl⟩)] at this
        simp only at this
        rw [hg] at this
        cases this
      refine ⟨fun s hs => ?_, hab2⟩
      have h2 := h s hs
      unfold flp at h2
      rw [if_neg ?_] at h2
      · exact h2
      · rintro (e | e)
        · exact hab2 (by rw [← e.1, ← e.2]; exact hs)
        · exact hn (by rw [← e.1, ← e.2]; exact hs)
  have e4 : (P m).countP (ch (flp g a b)) = (P m).countP (fun p => ch (flp g a b) p && has b a p) + (P m).countP (fun p => ch (flp g a b) p && !has b a p) := by
    refine count_add _ fun p hp => ⟨?_, ?_⟩
    · cases ch (flp g a b) p <;> cases has b a p <;> simp
    · cases ch (flp g a b) p <;> cases has b a p <;> simp
  have e5 := parity (g := G) hm h1
  omega

/-- An ascending list. -/
def lt (x y : Nat) : Bool := decide (x < y)
theorem asc_bound {B : Nat} : ∀ (t : List Nat) (x : Nat), ch lt (x :: t) = true → (∀ y ∈ x :: t, y < B) → x + (t.length + 1) ≤ B
  | [], x, _, h => by have := h x (by simp); simp; omega
  | y :: t, x, hc, h => by
    unfold ch at hc
    rw [Bool.and_eq_true] at hc
    have := asc_bound t y hc.2 (fun z hz => h z (by simp [hz]))
    have h2 : x < y := by simpa [lt] using hc.1
    simp
    omega
theorem asc_only : ∀ (p : List Nat) (k : Nat), ch lt p = true → (∀ x ∈ p, k ≤ x ∧ x < k + p.length) → p = List.range' k p.length
  | [], k, _, _ => rfl
  | [x], k, _, h => by
    have := h x (by simp)
    simp at this
    have : x = k := by omega
    simp [this]
  | x :: y :: t, k, hc, h => by
    have hb := asc_bound (y :: t) x hc (fun z hz => (h z hz).2)
    have hx := h x (by simp)
    simp only [List.length_cons] at hb hx h
    have hxk : x = k := by omega
    unfold ch at hc
    rw [Bool.and_eq_true] at hc
    have hxy : x < y := by simpa [lt] using hc.1
    have hlow : ∀ (t : List Nat) (y : Nat), ch lt (y :: t) = true → ∀ z ∈ y :: t, y ≤ z := by
      intro t
      induction t with
      | nil =>
        intro y _ z hz
        obtain rfl : z = y := by simpa using hz
        exact Nat.le_refl _
      | cons u t ih =>
        intro y hc z hz
        unfold ch at hc
        rw [Bool.and_eq_true] at hc
        have h1 : y < u := by simpa [lt] using hc.1
        rcases List.mem_cons.1 hz with rfl | hz
        · exact Nat.le_refl _
        · have := ih u hc.2 z hz; omega
    have ih := asc_only (y :: t) (k + 1) hc.2 (fun z hz => by
      have h1 := hlow t y hc.2 z hz
      have h2 := (h z (by simp [List.mem_cons.1 hz])).2
      simp only [List.length_cons]
      omega)
    rw [List.length_cons, List.range'_succ, ← ih, hxk]
theorem asc_range' : ∀ (n k : Nat), ch lt (List.range' k n) = true
  | 0, k => rfl
  | 1, k => rfl
  | n + 2, k => by
    have ih := asc_range' (n + 1) (k + 1)
    rw [List.range'_succ] at ih ⊢
    rw [List.range'_succ]
    unfold ch
    rw [ih]
    simp [lt]
theorem base {m : Nat} (hm : m ≤ 8) (h1 : 1 ≤ m) : (P m).countP (ch lt) = 1 := by
  rw [List.countP_eq_length_filter]
  have h2 := all_same (v := List.range' 0 m) ((P m).filter (ch lt)) ((full_nodup hm).filter _) (fun z hz => by
    obtain ⟨k1, k2⟩ := List.mem_filter.1 hz
    obtain ⟨a, b, c⟩ := (mem_P hm h1).1 k1
    have := asc_only z 0 k2 (fun x hx => ⟨Nat.zero_le _, by rw [b, Nat.zero_add]; exact c x hx⟩)
    rw [this, b])
  have h3 : List.range' 0 m ∈ (P m).filter (ch lt) := List.mem_filter.2 ⟨(mem_P hm h1).2 ⟨List.nodup_range', by simp, fun x hx => by rw [List.mem_range'_1] at hx; omega⟩, asc_range' m 0⟩
  have := List.length_pos_of_mem h3
  omega
/-- RÉDEI: where any two players have a game, the number of full ways is odd. -/
theorem odd_of {m : Nat} (hm : m ≤ 8) (h1 : 1 ≤ m) : ∀ (E : List (Nat × Nat)) (g : Nat → Nat → Bool), Tn g m → (∀ e ∈ E, e.1 < e.2 ∧ e.2 < m) → (∀ a b, a < b → b < m → (a, b) ∉ E → g a b = true) → (P m).countP (ch g) % 2 = 1 := by
  intro E
  induction E with
  | nil =>
    intro g ht _ h
    have : (P m).countP (ch g) = (P m).countP (ch lt) := by
      refine count_same _ fun p hp => ?_
      obtain ⟨k1, _, k3⟩ := (mem_P hm h1).1 hp
      have key : ∀ s ∈ steps p, g s.1 s.2 = lt s.1 s.2 := fun s hs => by
        have hm1 := k3 _ (steps_mem (x := s.1) (y := s.2) hs).1
        have hm2 := k3 _ (steps_mem (x := s.1) (y := s.2) hs).2
        have hne := steps_ne (x := s.1) (y := s.2) k1 hs
        unfold lt
        rcases Nat.lt_or_ge s.1 s.2 with h2 | h2
        · rw [h _ _ h2 hm2 (by simp), decide_eq_true h2]
        · rw [ht _ _ hm1 hm2 hne, h _ _ (by omega) hm1 (by simp), decide_eq_false (by omega)]; rfl
      rw [ch_st, ch_st]
      exact ⟨fun h2 s hs => (key s hs) ▸ h2 s hs, fun h2 s hs => (key s hs).symm ▸ h2 s hs⟩
    rw [this, base hm h1]
  | cons e E ih =>
    intro g ht hE h
    obtain ⟨he1, he2⟩ := hE e (by simp)
    cases hg : g e.1 e.2
    · have hba : g e.2 e.1 = true := by
        rw [ht e.2 e.1 he2 (by omega) (by omega), hg]; rfl
      have h2 := flip_parity hm h1 ht he2 (by omega) (by omega) hba
      rw [← h2]
      refine ih _ (ht.flp (by omega)) (fun e' h' => hE e' (by simp [h'])) fun a b hab hb hn => ?_
      unfold flp
      by_cases hc : (a = e.2 ∧ b = e.1) ∨ (a = e.1 ∧ b = e.2)
      · rw [if_pos hc]
        rcases hc with hc | hc
        · omega
        · rw [hc.1, hc.2, hg]; rfl
      · rw [if_neg hc]
        refine h a b hab hb fun hm2 => ?_
        rcases List.mem_cons.1 hm2 with h3 | h3
        · exact hc (.inr ⟨by rw [← h3], by rw [← h3]⟩)
        · exact hn h3
    · refine ih g ht (fun e' h' => hE e' (by simp [h'])) fun a b hab hb hn => ?_
      by_cases hc : a = e.1 ∧ b = e.2
      · rw [hc.1, hc.2, hg]
      · refine h a b hab hb fun hm2 => ?_
        rcases List.mem_cons.1 hm2 with h3 | h3
        · exact hc ⟨by rw [← h3], by rw [← h3]⟩
        · exact hn h3
theorem redei {f : Nat → Nat} {m : Nat} (hm : m ≤ 8) (h1 : 1 ≤ m) (hf : ∀ x, x < m → f x < 2 ^ m) (ht : Tn (fun x y => (f x).testBit y) m) : (Hw.full f m).length % 2 = 1 := by
  rw [full_count hm h1 hf]
  refine odd_of hm h1 ((List.range m).flatMap fun b => (List.range b).map fun a => (a, b)) _ ht (fun e he => ?_) (fun a b hab hb hn => ?_)
  · obtain ⟨b, hb, h2⟩ := List.mem_flatMap.1 he
    obtain ⟨a, ha, rfl⟩ := List.mem_map.1 h2
    exact ⟨List.mem_range.1 ha, List.mem_range.1 hb⟩
  · exact absurd (List.mem_flatMap.2 ⟨b, List.mem_range.2 hb, List.mem_map.2 ⟨a, List.mem_range.2 hab, rfl⟩⟩) hn
end
end Ry
end Go.Proofs.Ytgjogbihadiojaa
namespace Go.Proofs.Ytgjogbihadiojaa
open Go.ChangeShapes Go.WideShapes Go.ChangeAt Go.RowKit
set_option linter.unusedVariables false
namespace Ry

/-- Nobody can keep together: a set that nobody leaves by a game won is that of all. -/
def Str (g : Nat → Nat → Bool) (m : Nat) : Prop := ∀ S : Nat → Prop, (∃ x, x < m ∧ S x) → (∀ x y, x < m → y < m → S x → g x y = true → S y) → ∀ y, y < m → S y
/-- A cycle through a, by the players after a. -/
structure Cy (g : Nat → Nat → Bool) (m a : Nat) (t : List Nat) : Prop where
  nd : (a :: t).Nodup
  lo : ∀ x ∈ a :: t, x < m
  cc : ch g (a :: (t ++ [a])) = true
section
variable {g : Nat → Nat → Bool} {m a : Nat}
theorem ins_x {v b : Nat} : ∀ (t : List Nat) (a : Nat), ch g (a :: (t ++ [b])) = true → (∀ z ∈ t, g z v = true ∨ g v z = true) → g a v = true → (∃ y ∈ t ++ [b], g v y = true) → ∃ t', ch g (a :: (t' ++ [b])) = true ∧ t'.Perm (v :: t)
  | [], a, hc, _, ha, ⟨y, hy, hv⟩ => by
    obtain rfl : y = b := by simpa using hy
    refine ⟨[v], ?_, List.Perm.refl _⟩
    simp [ch, ha, hv]
  | z :: t, a, hc, hd, ha, ⟨y, hy, hv⟩ => by
    have hc2 : g a z = true ∧ ch g (z :: (t ++ [b])) = true := by
      have : (g a z && ch g (z :: (t ++ [b]))) = true := hc
      rwa [Bool.and_eq_true] at this
    cases hz : g v z
    · have hzv : g z v = true := by
        rcases hd z (by simp) with h | h
        · exact h
        · rw [hz] at h; cases h
      have hy2 : y ∈ t ++ [b] := by
        rcases List.mem_cons.1 hy with h | h
        · rw [h, hz] at hv; cases hv
        · exact h
      obtain ⟨t', h1, h2⟩ := ins_x t z hc2.2 (fun u hu => hd u (by simp [hu])) hzv ⟨y, hy2, hv⟩
      refine ⟨z :: t', ?_, (h2.cons z).trans (List.Perm.swap v z t)⟩
      show (g a z && ch g (z :: (t' ++ [b]))) = true
      rw [hc2.1, h1]; rfl
    · refine ⟨v :: z :: t, ?_, List.Perm.refl _⟩
      show (g a v && (g v z && ch g (z :: (t ++ [b])))) = true
      rw [ha, hz, hc2.2]; rfl
theorem ins_y {v b : Nat} : ∀ (t : List Nat) (a : Nat), ch g (a :: (t ++ [b])) = true → (∀ z ∈ t, g z v = true ∨ g v z = true) → (∃ x ∈ t, g x v = true) → g v b = true → ∃ t', ch g (a :: (t' ++ [b])) = true ∧ t'.Perm (v :: t)
  | [], a, _, _, ⟨x, hx, _⟩, _ => by simp at hx
  | z :: t, a, hc, hd, ⟨x, hx, hxv⟩, hvb => by
    have hc2 : g a z = true ∧ ch g (z :: (t ++ [b])) = true := by
      have : (g a z && ch g (z :: (t ++ [b]))) = true := hc
      rwa [Bool.and_eq_true] at this
    have key : ∃ t', ch g (z :: (t' ++ [b])) = true ∧ t'.Perm (v :: t) := by
      cases hz : g z v
      · have hx2 : x ∈ t := by
          rcases List.mem_cons.1 hx with h | h
          · rw [h, hz] at hxv; cases hxv
          · exact h
        exact ins_y t z hc2.2 (fun u hu => hd u (by simp [hu])) ⟨x, hx2, hxv⟩ hvb
      · exact ins_x t z hc2.2 (fun u hu => hd u (by simp [hu])) hz ⟨b, by simp, hvb⟩
    obtain ⟨t', h1, h2⟩ := key
    refine ⟨z :: t', ?_, (h2.cons z).trans (List.Perm.swap v z t)⟩
    show (g a z && ch g (z :: (t' ++ [b]))) = true
    rw [hc2.1, h1]; rfl
/-- Someone outside with a game won and a game lost to those of the cycle goes in. -/
theorem Cy.grow {t : List Nat} {v : Nat} (h : Cy g m a t) (ht : Tn g m) (hv : v < m) (hout : v ∉ a :: t) (hin : ∃ x ∈ a :: t, g x v = true) (ho : ∃ y ∈ a :: t, g v y = true) : ∃ t', Cy g m a t' ∧ t'.length = t.length + 1 := by
  have hd : ∀ z ∈ a :: t, g z v = true ∨ g v z = true := fun z hz => by
    have hne : z ≠ v := fun e => hout (e ▸ hz)
    have := ht z v (h.lo z hz) hv hne
    cases hg : g v z
    · rw [hg] at this; exact .inl this
    · exact .inr rfl
  have key : ∃ t', ch g (a :: (t' ++ [a])) = true ∧ t'.Perm (v :: t) := by
    rcases hd a (by simp) with ha | ha
    · obtain ⟨y, hy, hvy⟩ := ho
      exact ins_x t a h.cc (fun z hz => hd z (by simp [hz])) ha ⟨y, by rcases List.mem_cons.1 hy with e | e <;> simp [e], hvy⟩
    · obtain ⟨x, hx, hxv⟩ := hin
      have hxa : x ≠ a := fun e => by
        have h1 := ht a v (h.lo a (by simp)) hv (fun e2 => hout (by simp [e2]))
        rw [← e, hxv] at h1
        rw [e] at h1
        rw [ha] at h1
        cases h1
      have hxt : x ∈ t := by
        rcases List.mem_cons.1 hx with e | e
        · exact absurd e hxa
        · exact e
      exact ins_y t a h.cc (fun z hz => hd z (by simp [hz])) ⟨x, hxt, hxv⟩ ha
  obtain ⟨t', h1, h2⟩ := key
  have hp : (a :: t').Perm (v :: a :: t) := (h2.cons a).trans (List.Perm.swap v a t)
  refine ⟨t', ⟨hp.nodup_iff.2 (List.nodup_cons.2 ⟨hout, h.nd⟩), fun x hx => ?_, h1⟩, by rw [h2.length_eq]; rfl⟩
  rcases List.mem_cons.1 (hp.mem_iff.1 hx) with e | e
  · rw [e]; exact hv
  · exact h.lo x e
theorem sub_len : ∀ (L E : List Nat), L.Nodup → (∀ x ∈ L, x ∈ E) → L.length ≤ E.length
  | [], _, _, _ => Nat.zero_le _
  | x :: L, E, hn, h => by
    have hx := h x (by simp)
    have := sub_len L (E.erase x) (List.nodup_cons.1 hn).2 (fun y hy => (List.mem_erase_of_ne (fun e : y = x => (List.nodup_cons.1 hn).1 (by rw [← e]; exact hy))).2 (h y (by simp [hy])))
    have hl := List.length_erase_of_mem hx
    have hp := List.length_pos_of_mem hx
    simp only [List.length_cons]
    omega
theorem outsider {L : List Nat} (h : L.length < m) : ∃ v, v < m ∧ v ∉ L := by
  by_cases hx : ∃ v, v < m ∧ v ∉ L
  · exact hx
  · exfalso
    have := sub_len (List.range m) L List.nodup_range (fun x hx2 => by
      by_cases h2 : x ∈ L
      · exact h2
      · exact absurd ⟨x, List.mem_range.1 hx2, h2⟩ hx)
    rw [List.length_range] at this
    omega
theorem Cy.step {t : List Nat} (h : Cy g m a t) (ht : Tn g m) (hs : Str g m) (h2 : 2 ≤ t.length) (hk : t.length + 1 < m) : ∃ t', Cy g m a t' ∧ t'.length = t.length + 1 := by
  by_cases hmix : ∃ v, v < m ∧ v ∉ a :: t ∧ (∃ x ∈ a :: t, g x v = true) ∧ ∃ y ∈ a :: t, g v y = true
  · obtain ⟨v, h1, h2, h3, h4⟩ := hmix
    exact h.grow ht h1 h2 h3 h4
  have ham := h.lo a (by simp)
  -- an arc between two uniform ones
  have hor : ∀ x y, x < m → y < m → x ≠ y → g x y = true ∨ g y x = true := fun x y hx hy hxy => by
    have := ht x y hx hy hxy
    cases hg : g y x
    · rw [hg] at this; exact .inl this
    · exact .inr rfl
  have hno : ∀ x y, x < m → y < m → x ≠ y → g x y = true → ¬ g y x = true := fun x y hx hy hxy h1 h2 => by
    have := ht x y hx hy hxy
    rw [h1, h2] at this
    cases this
  have huni : ∀ v, v < m → v ∉ a :: t → (∃ x ∈ a :: t, g x v = true) → ∀ c ∈ a :: t, g c v = true := fun v hv hout hex c hc => by
    rcases hor c v (h.lo c hc) hv (fun e => hout (e ▸ hc)) with h1 | h1
    · exact h1
    · exact absurd ⟨v, hv, hout, hex, ⟨c, hc, h1⟩⟩ hmix
  obtain ⟨v0, hv0, hv0o⟩ := outsider (L := a :: t) (by simpa using hk)
  -- someone whom they all beat
  have hS : ∃ s, s < m ∧ s ∉ a :: t ∧ ∃ x ∈ a :: t, g x s = true := by
    by_cases hex : ∃ s, s < m ∧ s ∉ a :: t ∧ ∃ x ∈ a :: t, g x s = true
    · exact hex
    · exfalso
      have := hs (fun x => x ∈ a :: t) ⟨a, ham, by simp⟩ (fun x y hx hy hxS hg => by
        by_cases hy2 : y ∈ a :: t
        · exact hy2
        · exact absurd ⟨y, hy, hy2, x, hxS, hg⟩ hex) v0 hv0
      exact hv0o this
  have hST : ∃ s u, s < m ∧ u < m ∧ (s ∉ a :: t ∧ ∃ x ∈ a :: t, g x s = true) ∧ (u ∉ a :: t ∧ ¬ ∃ x ∈ a :: t, g x u = true) ∧ g s u = true := by
    by_cases hex : ∃ s u, s < m ∧ u < m ∧ (s ∉ a :: t ∧ ∃ x ∈ a :: t, g x s = true) ∧ (u ∉ a :: t ∧ ¬ ∃ x ∈ a :: t, g x u = true) ∧ g s u = true
    · exact hex
    · exfalso
      obtain ⟨s0, hs0, hs1, hs2⟩ := hS
      have := hs (fun x => x ∉ a :: t ∧ ∃ z ∈ a :: t, g z x = true) ⟨s0, hs0, hs1, hs2⟩ (fun x y hx hy hxS hg => by
        have hyo : y ∉ a :: t := fun hy2 => by
          have h1 := huni x hx hxS.1 hxS.2 y hy2
          exact hno y x hy hx (fun e => hxS.1 (e ▸ hy2)) h1 hg
        refine ⟨hyo, ?_⟩
        by_cases hy3 : ∃ z ∈ a :: t, g z y = true
        · exact hy3
        · exact absurd ⟨x, y, hx, hy, hxS, ⟨hyo, hy3⟩, hg⟩ hex) a ham
      exact this.1 (by simp)
  obtain ⟨s, u, hsm, hum, ⟨hso, hsx⟩, ⟨huo, hux⟩, hsu⟩ := hST
  have hall := huni s hsm hso hsx
  have hbeat : ∀ c ∈ a :: t, g u c = true := fun c hc => by
    rcases hor c u (h.lo c hc) hum (fun e => huo (e ▸ hc)) with h1 | h1
    · exact absurd ⟨c, hc, h1⟩ hux
    · exact h1
  have hsune : s ≠ u := fun e => hux (e ▸ hsx)
  cases t with
  | nil => simp at h2
  | cons z t =>
    have hcz : ch g (z :: (t ++ [a])) = true := by
      have : (g a z && ch g (z :: (t ++ [a]))) = true := h.cc
      rw [Bool.and_eq_true] at this
      exact this.2
    refine ⟨s :: u :: t, ⟨?_, ?_, ?_⟩, by simp⟩
    · have hn := h.nd
      simp only [List.nodup_cons, List.mem_cons, not_or] at hn hso huo ⊢
      exact ⟨⟨fun e => hso.1 e.symm, fun e => huo.1 e.symm, hn.1.2⟩, ⟨hsune, hso.2.2⟩, huo.2.2, hn.2.2⟩
    · intro x hx
      simp only [List.mem_cons] at hx
      rcases hx with rfl | rfl | rfl | hx
      · exact ham
      · exact hsm
      · exact hum
      · exact h.lo x (by simp [hx])
    · have hta : ch g (u :: (t ++ [a])) = true := by
        cases t with
        | nil =>
          show (g u a && true) = true
          rw [hbeat a (by simp)]; rfl
        | cons y t =>
          show (g u y && ch g (y :: (t ++ [a]))) = true
          have : (g z y && ch g (y :: (t ++ [a]))) = true := hcz
          rw [Bool.and_eq_true] at this
          rw [hbeat y (by simp), this.2]; rfl
      show (g a s && (g s u && ch g (u :: (t ++ [a])))) = true
      rw [hall a (by simp), hsu, hta]; rfl
theorem Cy.three (ht : Tn g m) (hi : ∀ x, x < m → g x x = false) (hs : Str g m) (h3 : 3 ≤ m) (ha : a < m) : ∃ t, Cy g m a t ∧ t.length = 2 := by
  have hno : ∀ x y, x < m → y < m → g x y = true → ¬ g y x = true := fun x y hx hy h1 h2 => by
    have hxy : x ≠ y := fun e => by rw [e, hi y hy] at h1; cases h1
    have := ht x y hx hy hxy
    rw [h1, h2] at this
    cases this
  have hout : ∃ y, y < m ∧ g a y = true := by
    by_cases hex : ∃ y, y < m ∧ g a y = true
    · exact hex
    · exfalso
      obtain ⟨v, hv, hva⟩ := outsider (m := m) (L := [a]) (by simp; omega)
      have := hs (fun x => x = a) ⟨a, ha, rfl⟩ (fun x y hx hy hxa hg => by
        subst hxa
        exact absurd ⟨y, hy, hg⟩ hex) v hv
      exact hva (by simp [this])
  obtain ⟨y0, hy0, hy1⟩ := hout
  have harc : ∃ x y, x < m ∧ y < m ∧ g a x = true ∧ g y a = true ∧ g x y = true := by
    by_cases hex : ∃ x y, x < m ∧ y < m ∧ g a x = true ∧ g y a = true ∧ g x y = true
    · exact hex
    · exfalso
      have := hs (fun x => g a x = true) ⟨y0, hy0, hy1⟩ (fun x y hx hy hxa hg => by
        have hya : y ≠ a := fun e => by rw [e] at hg; exact hno a x ha hx hxa hg
        have h1 := ht a y ha hy (fun e => hya e.symm)
        cases h2 : g y a
        · rw [h2] at h1; exact h1
        · exact absurd ⟨x, y, hx, hy, hxa, h2, hg⟩ hex) a ha
      rw [hi a ha] at this
      cases this
  obtain ⟨x, y, hx, hy, h1, h2, h4⟩ := harc
  have n1 : a ≠ x := fun e => by rw [← e, hi a ha] at h1; cases h1
  have n2 : a ≠ y := fun e => by rw [← e, hi a ha] at h2; cases h2
  have n3 : x ≠ y := fun e => by rw [← e, hi x hx] at h4; cases h4
  refine ⟨[x, y], ⟨by simp [n1, n2, n3], fun z hz => ?_, by simp [ch, h1, h2, h4]⟩, rfl⟩
  simp at hz
  rcases hz with rfl | rfl | rfl
  · exact ha
  · exact hx
  · exact hy
/-- MOON. -/
theorem moon (ht : Tn g m) (hi : ∀ x, x < m → g x x = false) (hs : Str g m) (ha : a < m) : ∀ k, 3 ≤ k → k ≤ m → ∃ t, Cy g m a t ∧ t.length + 1 = k := by
  intro k
  induction k with
  | zero => intro h; omega
  | succ k ih =>
    intro h3 hk
    rcases Nat.lt_or_ge k 3 with h | h
    · obtain ⟨t, h1, h2⟩ := Cy.three ht hi hs (by omega) ha
      exact ⟨t, h1, by omega⟩
    · obtain ⟨t, h1, h2⟩ := ih h (by omega)
      obtain ⟨t', h4, h5⟩ := h1.step ht hs (by omega) (by omega)
      exact ⟨t', h4, by omega⟩
end
end Ry
end Go.Proofs.Ytgjogbihadiojaa
namespace Go.Proofs.Ytgjogbihadiojaa
open Go.ChangeShapes Go.WideShapes Go.ChangeAt Go.RowKit
set_option linter.unusedVariables false
namespace Ry
section
variable {g : Nat → Nat → Bool} {m : Nat}
theorem ch_rev (p : List Nat) : ch (fun x y => g y x) p = ch g p.reverse := by
  rw [Bool.eq_iff_iff, ch_st, ch_st]
  constructor
  · intro h s hs
    exact h (s.2, s.1) (steps_rev.1 hs)
  · intro h s hs
    exact h (s.2, s.1) (steps_rev.2 hs)
theorem turn_count (hm : m ≤ 8) (h1 : 1 ≤ m) : (P m).countP (ch fun x y => g y x) = (P m).countP (ch g) := by
  rw [P_rev hm h1 (ch g)]
  exact count_same _ fun p _ => by rw [ch_rev]
/-- Other names. -/
structure Nam (m : Nat) (σ : Nat → Nat) : Prop where
  lo : ∀ x, x < m → σ x < m
  inj : ∀ x y, x < m → y < m → σ x = σ y → x = y
theorem Nam.nodup {σ : Nat → Nat} (h : Nam m σ) : ∀ {p : List Nat}, p.Nodup → (∀ x ∈ p, x < m) → (p.map σ).Nodup
  | [], _, _ => by simp
  | x :: p, hn, hl => by
    obtain ⟨h1, h2⟩ := List.nodup_cons.1 hn
    rw [List.map_cons, List.nodup_cons]
    refine ⟨fun hx => ?_, h.nodup h2 (fun y hy => hl y (by simp [hy]))⟩
    obtain ⟨y, hy, e⟩ := List.mem_map.1 hx
    exact h1 (h.inj y x (hl y (by simp [hy])) (hl x (by simp)) e ▸ hy)
theorem map_inj {σ : Nat → Nat} (h : Nam m σ) : ∀ {p q : List Nat}, (∀ x ∈ p, x < m) → (∀ x ∈ q, x < m) → p.map σ = q.map σ → p = q
  | [], [], _, _, _ => rfl
  | [], y :: q, _, _, e => by simp at e
  | x :: p, [], _, _, e => by simp at e
  | x :: p, y :: q, hp, hq, e => by
    simp only [List.map_cons, List.cons.injEq] at e
    rw [h.inj x y (hp x (by simp)) (hq y (by simp)) e.1, map_inj h (fun z hz => hp z (by simp [hz])) (fun z hz => hq z (by simp [hz])) e.2]
theorem Nam.mem {σ : Nat → Nat} (h : Nam m σ) (hm : m ≤ 8) (h1 : 1 ≤ m) {p : List Nat} (hp : p ∈ P m) : p.map σ ∈ P m := by
  obtain ⟨k1, k2, k3⟩ := (mem_P hm h1).1 hp
  refine (mem_P hm h1).2 ⟨h.nodup k1 k3, by simpa using k2, fun x hx => ?_⟩
  obtain ⟨y, hy, rfl⟩ := List.mem_map.1 hx
  exact h.lo y (k3 y hy)
theorem nodup_map_on {α β : Type} {f : α → β} : ∀ {E : List α}, E.Nodup → (∀ x ∈ E, ∀ y ∈ E, f x = f y → x = y) → (E.map f).Nodup
  | [], _, _ => by simp
  | x :: E, hn, h => by
    obtain ⟨h1, h2⟩ := List.nodup_cons.1 hn
    rw [List.map_cons, List.nodup_cons]
    refine ⟨fun hx => ?_, nodup_map_on h2 (fun a ha b hb => h a (by simp [ha]) b (by simp [hb]))⟩
    obtain ⟨y, hy, e⟩ := List.mem_map.1 hx
    exact h1 (h y (by simp [hy]) x (by simp) e ▸ hy)
/-- A list without repetitions that a map without repetitions sends into itself is sent onto itself. -/
theorem into_onto {α : Type} [DecidableEq α] {f : α → α} {E : List α} (hn : E.Nodup) (hi : ∀ x ∈ E, ∀ y ∈ E, f x = f y → x = y) (hin : ∀ x ∈ E, f x ∈ E) : (E.map f).Perm E := by
  have h1 := nodup_map_on hn hi
  have key : ∀ (A B : List α), A.Nodup → (∀ x ∈ A, x ∈ B) → A.length = B.length → A.Perm B := by
    intro A
    induction A with
    | nil =>
      intro B _ _ hl
      rw [List.length_eq_zero_iff.1 hl.symm]
    | cons x A ih =>
      intro B hA hs hl
      obtain ⟨k1, k2⟩ := List.nodup_cons.1 hA
      have hx := hs x (by simp)
      have hl2 := List.length_erase_of_mem hx
      have := ih (B.erase x) k2 (fun y hy => (List.mem_erase_of_ne (fun e : y = x => k1 (e ▸ hy))).2 (hs y (by simp [hy]))) (by simp at hl; omega)
      exact (this.cons x).trans (List.perm_cons_erase hx).symm
  exact key _ _ h1 (fun x hx => by
    obtain ⟨y, hy, rfl⟩ := List.mem_map.1 hx
    exact hin y hy) (by simp)
theorem Nam.perm {σ : Nat → Nat} (h : Nam m σ) (hm : m ≤ 8) (h1 : 1 ≤ m) : ((P m).map (List.map σ)).Perm (P m) :=
  into_onto (full_nodup hm) (fun p hp q hq e => map_inj h ((mem_P hm h1).1 hp).2.2 ((mem_P hm h1).1 hq).2.2 e) (fun p hp => h.mem hm h1 hp)
theorem ch_map {σ : Nat → Nat} {g' : Nat → Nat → Bool} (hg : ∀ x y, x < m → y < m → g' (σ x) (σ y) = g x y) : ∀ p : List Nat, (∀ x ∈ p, x < m) → ch g' (p.map σ) = ch g p
  | [], _ => rfl
  | [x], _ => rfl
  | x :: y :: t, h => by
    show (g' (σ x) (σ y) && ch g' ((y :: t).map σ)) = (g x y && ch g (y :: t))
    rw [hg x y (h x (by simp)) (h y (by simp)), ch_map hg (y :: t) (fun z hz => h z (by simp [hz]))]
theorem name_count {σ : Nat → Nat} {g' : Nat → Nat → Bool} (h : Nam m σ) (hg : ∀ x y, x < m → y < m → g' (σ x) (σ y) = g x y) (hm : m ≤ 8) (h1 : 1 ≤ m) : (P m).countP (ch g') = (P m).countP (ch g) := by
  rw [← (h.perm hm h1).countP_eq (ch g'), List.countP_map]
  exact count_same _ fun p hp => by
    show ch g' (p.map σ) = true ↔ _
    rw [ch_map hg p ((mem_P hm h1).1 hp).2.2]

/-- A cycle that begins with a. -/
def cl (g : Nat → Nat → Bool) (a : Nat) (p : List Nat) : Bool := p.head? == some a && ch g (p ++ [a])
theorem cl_iff {a : Nat} {p : List Nat} : cl g a p = true ↔ ∃ t, p = a :: t ∧ ch g (a :: (t ++ [a])) = true := by
  unfold cl
  rw [Bool.and_eq_true, beq_iff_eq]
  constructor
  · rintro ⟨h1, h2⟩
    cases p with
    | nil => simp at h1
    | cons x t =>
      obtain rfl : x = a := by simpa using h1
      exact ⟨t, rfl, h2⟩
  · rintro ⟨t, rfl, h⟩
    exact ⟨rfl, h⟩
theorem ch_mid : ∀ (u : List Nat) (x : Nat) (v : List Nat), ch g (u ++ x :: v) = (ch g (u ++ [x]) && ch g (x :: v))
  | [], x, v => by
    show ch g (x :: v) = (ch g [x] && ch g (x :: v))
    simp [ch]
  | [y], x, v => by
    show (g y x && ch g (x :: v)) = ((g y x && true) && ch g (x :: v))
    simp
  | y :: z :: u, x, v => by
    show (g y z && ch g ((z :: u) ++ x :: v)) = ((g y z && ch g ((z :: u) ++ [x])) && ch g (x :: v))
    rw [ch_mid (z :: u) x v, Bool.and_assoc]
/-- The other way round. -/
def back : List Nat → List Nat
  | [] => []
  | a :: t => a :: t.reverse
theorem back_back (p : List Nat) : back (back p) = p := by
  cases p <;> simp [back]
theorem back_mem (hm : m ≤ 8) (h1 : 1 ≤ m) {p : List Nat} (hp : p ∈ P m) : back p ∈ P m := by
  cases p with
  | nil => exact hp
  | cons a t =>
    have hperm : (a :: t.reverse).Perm (a :: t) := (List.reverse_perm t).cons a
    obtain ⟨k1, k2, k3⟩ := (mem_P hm h1).1 hp
    exact (mem_P hm h1).2 ⟨hperm.nodup_iff.2 k1, by rw [← k2]; exact hperm.length_eq, fun x hx => k3 x (hperm.mem_iff.1 hx)⟩
theorem turn_cyc (hm : m ≤ 8) (h1 : 1 ≤ m) (a : Nat) : (P m).countP (cl (fun x y => g y x) a) = (P m).countP (cl g a) := by
  have hp : ((P m).map back).Perm (P m) := into_onto (full_nodup hm) (fun p _ q _ e => by rw [← back_back p, e, back_back]) (fun p hp => back_mem hm h1 hp)
  rw [← hp.countP_eq (cl g a), List.countP_map]
  refine count_same _ fun p _ => ?_
  show _ ↔ cl g a (back p) = true
  rw [cl_iff, cl_iff]
  constructor
  · rintro ⟨t, rfl, h⟩
    refine ⟨t.reverse, rfl, ?_⟩
    rw [ch_rev] at h
    simpa using h
  · rintro ⟨t, h2, h⟩
    cases p with
    | nil => simp [back] at h2
    | cons x u =>
      simp only [back, List.cons.injEq] at h2
      obtain ⟨rfl, rfl⟩ := h2
      refine ⟨u, rfl, ?_⟩
      rw [ch_rev]
      simpa using h
/-- Begun elsewhere. -/
def rot (b : Nat) (p : List Nat) : List Nat := p.dropWhile (fun x => x != b) ++ p.takeWhile (fun x => x != b)
theorem rot_at {b : Nat} : ∀ (q r : List Nat), b ∉ q → rot b (q ++ b :: r) = b :: r ++ q
  | [], r, _ => by simp [rot]
  | x :: q, r, h => by
    have hx : x ≠ b := fun e => h (by simp [e])
    unfold rot
    have hb : (x != b) = true := by simp [hx]
    rw [List.cons_append, List.dropWhile_cons, List.takeWhile_cons, hb]
    simp only [if_true]
    have h2 : (q ++ b :: r).takeWhile (fun x => x != b) = q := by
      rw [List.takeWhile_append_of_pos (fun y hy => by
        have : y ≠ b := fun e => h (by simp [← e, hy])
        simp [this])]
      simp
    have h3 : (q ++ b :: r).dropWhile (fun x => x != b) = b :: r := by
      rw [List.dropWhile_append_of_pos (fun y hy => by
        have : y ≠ b := fun e => h (by simp [← e, hy])
        simp [this])]
      simp
    rw [h2, h3]
theorem cut_at {b : Nat} : ∀ {p : List Nat}, b ∈ p → ∃ q r, p = q ++ b :: r ∧ b ∉ q
  | [], h => by simp at h
  | x :: p, h => by
    by_cases hx : x = b
    · exact ⟨[], p, by rw [hx]; rfl, by simp⟩
    · have h2 : b ∈ p := by
        rcases List.mem_cons.1 h with e | e
        · exact absurd e.symm hx
        · exact e
      obtain ⟨q, r, h3, h4⟩ := cut_at h2
      exact ⟨x :: q, r, by rw [h3]; rfl, by simp [h4]; exact fun e => hx e.symm⟩
theorem rot_spec {a b : Nat} {p : List Nat} (hn : p.Nodup) (hb : b ∈ p) (hc : cl g a p = true) : cl g b (rot b p) = true ∧ (rot b p).Perm p ∧ rot a (rot b p) = p := by
  obtain ⟨q, r, rfl, hq⟩ := cut_at hb
  rw [rot_at q r hq]
  have hperm : (b :: r ++ q).Perm (q ++ b :: r) := List.perm_append_comm
  obtain ⟨t, ht, h⟩ := cl_iff.1 hc
  cases q with
  | nil =>
    simp at ht
    obtain ⟨rfl, rfl⟩ := ht
    refine ⟨by simpa using hc, hperm, ?_⟩
    have := rot_at (b := b) [] r (by simp)
    simpa using this
  | cons x q =>
    simp at ht
    obtain ⟨rfl, rfl⟩ := ht
    refine ⟨cl_iff.2 ⟨r ++ x :: q, rfl, ?_⟩, hperm, ?_⟩
    · have e1 : b :: ((r ++ x :: q) ++ [b]) = (b :: r) ++ x :: (q ++ [b]) := by simp
      have e2 : x :: ((q ++ b :: r) ++ [x]) = (x :: q) ++ b :: (r ++ [x]) := by simp
      rw [e2, ch_mid, Bool.and_eq_true] at h
      rw [e1, ch_mid, Bool.and_eq_true]
      exact ⟨h.2, h.1⟩
    · have hxr : x ∉ b :: r := fun hx => by
        have := (List.nodup_append.1 hn).2.2 x (by simp) x hx
        exact this rfl
      have := rot_at (b := x) (b :: r) q hxr
      simpa using this
theorem rot_count (hm : m ≤ 8) (h1 : 1 ≤ m) {a b : Nat} (ha : a < m) (hb : b < m) : (P m).countP (cl g a) = (P m).countP (cl g b) := by
  have hall : ∀ p ∈ P m, ∀ x, x < m → x ∈ p := fun p hp x hx => by
    obtain ⟨k1, k2, k3⟩ := (mem_P hm h1).1 hp
    exact Hw.way_all k1 k3 k2 hx
  have hle : ∀ a b, a < m → b < m → (P m).countP (cl g a) ≤ (P m).countP (cl g b) := by
    intro a b ha hb
    rw [List.countP_eq_length_filter, List.countP_eq_length_filter]
    have h2 : (((P m).filter (cl g a)).map (rot b)).Nodup := nodup_map_on ((full_nodup hm).filter _) (fun p hp q hq e => by
      obtain ⟨k1, k2⟩ := List.mem_filter.1 hp
      obtain ⟨k3, k4⟩ := List.mem_filter.1 hq
      rw [← (rot_spec ((mem_P hm h1).1 k1).1 (hall p k1 b hb) k2).2.2, e, (rot_spec ((mem_P hm h1).1 k3).1 (hall q k3 b hb) k4).2.2])
    have sub : ∀ (L E : List (List Nat)), L.Nodup → (∀ x ∈ L, x ∈ E) → L.length ≤ E.length := by
      intro L
      induction L with
      | nil => intro _ _ _; exact Nat.zero_le _
      | cons x L ih =>
        intro E hn h
        have hx := h x (by simp)
        have := ih (E.erase x) (List.nodup_cons.1 hn).2 (fun y hy => (List.mem_erase_of_ne (fun e : y = x => (List.nodup_cons.1 hn).1 (by rw [← e]; exact hy))).2 (h y (by simp [hy])))
        have hl := List.length_erase_of_mem hx
        have hp := List.length_pos_of_mem hx
        simp only [List.length_cons]
        omega
    have := sub _ ((P m).filter (cl g b)) h2 (fun x hx => by
      obtain ⟨p, hp, rfl⟩ := List.mem_map.1 hx
      obtain ⟨k1, k2⟩ := List.mem_filter.1 hp
      obtain ⟨e1, e2, e3⟩ := (mem_P hm h1).1 k1
      obtain ⟨s1, s2, _⟩ := rot_spec e1 (hall p k1 b hb) k2
      exact List.mem_filter.2 ⟨(mem_P hm h1).2 ⟨s2.nodup_iff.2 e1, by rw [s2.length_eq, e2], fun y hy => e3 y (s2.mem_iff.1 hy)⟩, s1⟩)
    rwa [List.length_map] at this
  exact Nat.le_antisymm (hle a b ha hb) (hle b a hb ha)
theorem name_cyc {σ : Nat → Nat} {g' : Nat → Nat → Bool} (h : Nam m σ) (hg : ∀ x y, x < m → y < m → g' (σ x) (σ y) = g x y) (hm : m ≤ 8) (h1 : 1 ≤ m) {a : Nat} (ha : a < m) : (P m).countP (cl g' a) = (P m).countP (cl g a) := by
  rw [rot_count hm h1 ha (h.lo a ha), ← (h.perm hm h1).countP_eq (cl g' (σ a)), List.countP_map]
  refine count_same _ fun p hp => ?_
  obtain ⟨k1, k2, k3⟩ := (mem_P hm h1).1 hp
  show cl g' (σ a) (p.map σ) = true ↔ _
  have hch : ∀ t : List Nat, (∀ x ∈ t, x < m) → ch g' (σ a :: (t.map σ ++ [σ a])) = ch g (a :: (t ++ [a])) := fun t ht => by
    have := ch_map hg (a :: (t ++ [a])) (fun x hx => by
      rcases List.mem_cons.1 hx with e | e
      · rw [e]; exact ha
      · rcases List.mem_append.1 e with e | e
        · exact ht x e
        · rw [List.mem_singleton.1 e]; exact ha)
    rw [← this]; simp
  rw [cl_iff, cl_iff]
  constructor
  · rintro ⟨t, h2, h3⟩
    cases p with
    | nil => simp at h2
    | cons x u =>
      simp only [List.map_cons, List.cons.injEq] at h2
      obtain rfl : x = a := h.inj x a (k3 x (by simp)) ha h2.1
      refine ⟨u, rfl, ?_⟩
      rw [← hch u (fun y hy => k3 y (by simp [hy])), h2.2]
      exact h3
  · rintro ⟨t, rfl, h3⟩
    refine ⟨t.map σ, rfl, ?_⟩
    rw [hch t (fun y hy => k3 y (by simp [hy]))]
    exact h3
end
end Ry
end Go.Proofs.Ytgjogbihadiojaa
namespace Go.Proofs.Ytgjogbihadiojaa
open Go.ChangeShapes Go.WideShapes Go.ChangeAt Go.RowKit
set_option linter.unusedVariables false
namespace Ry
section
variable {g : Nat → Nat → Bool} {m : Nat}
theorem ch_stay {S : Nat → Prop} (hS : ∀ x y, x < m → y < m → S x → g x y = true → S y) : ∀ (r : List Nat) (x : Nat), (∀ y ∈ x :: r, y < m) → ch g (x :: r) = true → S x → ∀ y ∈ x :: r, S y
  | [], x, _, _, hx, y, hy => by
    obtain rfl : y = x := by simpa using hy
    exact hx
  | z :: r, x, hl, hc, hx, y, hy => by
    have hc2 : g x z = true ∧ ch g (z :: r) = true := by
      have : (g x z && ch g (z :: r)) = true := hc
      rwa [Bool.and_eq_true] at this
    have hz := hS x z (hl x (by simp)) (hl z (by simp)) hx hc2.1
    rcases List.mem_cons.1 hy with rfl | hy
    · exact hx
    · exact ch_stay hS r z (fun u hu => hl u (by simp [List.mem_cons.1 hu])) hc2.2 hz y hy
/-- Where there is a full cycle, the tour is strong. -/
theorem cyc_str (hm : m ≤ 8) (h1 : 1 ≤ m) {a : Nat} {p : List Nat} (hp : p ∈ P m) (hc : cl g a p = true) : Str g m := by
  intro S ⟨x, hx, hxS⟩ hS y hy
  obtain ⟨k1, k2, k3⟩ := (mem_P hm h1).1 hp
  have hall : ∀ x, x < m → x ∈ p := fun x hx => Hw.way_all k1 k3 k2 hx
  obtain ⟨t, ht, h⟩ := cl_iff.1 hc
  obtain ⟨q, r, hq⟩ := List.append_of_mem (hall x hx)
  have ham : a < m := k3 a (by rw [ht]; simp)
  have e : a :: (t ++ [a]) = q ++ x :: (r ++ [a]) := by
    rw [← List.cons_append, ← ht, hq]; simp
  have hxr : ch g (x :: (r ++ [a])) = true := by
    rw [e, ch_mid, Bool.and_eq_true] at h
    exact h.2
  have haS : S a := ch_stay hS (r ++ [a]) x (fun u hu => by
    rcases List.mem_cons.1 hu with e | e
    · rw [e]; exact hx
    · rcases List.mem_append.1 e with e | e
      · exact k3 u (by rw [hq]; simp [e])
      · rw [List.mem_singleton.1 e]; exact ham) hxr hxS a (by simp)
  have hat : ch g (a :: t) = true := by
    cases t with
    | nil => rfl
    | cons z t =>
      have := ch_mid (g := g) (a :: z :: t) a []
      have e2 : a :: ((z :: t) ++ [a]) = (a :: z :: t) ++ [a] := rfl
      rw [ch_st] at h ⊢
      intro s hs
      refine h s ?_
      obtain ⟨u, v, huv⟩ := (steps_iff (x := s.1) (y := s.2) _).1 hs
      refine (steps_iff (x := s.1) (y := s.2) _).2 ⟨u, v ++ [a], ?_⟩
      rw [← List.cons_append, huv]; simp
  have hy2 := hall y hy
  rw [ht] at hy2
  exact ch_stay hS t a (fun u hu => k3 u (by rw [ht]; exact hu)) hat haS y hy2
/-- CAMION. -/
theorem camion (hm : m ≤ 8) (h3 : 3 ≤ m) (ht : Tn g m) (hi : ∀ x, x < m → g x x = false) : 0 < (P m).countP (cl g 0) ↔ Str g m := by
  rw [List.countP_pos_iff]
  constructor
  · rintro ⟨p, hp, hc⟩
    exact cyc_str hm (by omega) hp hc
  · intro hs
    obtain ⟨t, h1, h2⟩ := moon ht hi hs (a := 0) (by omega) m h3 (Nat.le_refl _)
    exact ⟨0 :: t, (mem_P hm (by omega)).2 ⟨h1.nd, by simpa using h2, h1.lo⟩, cl_iff.2 ⟨t, rfl, h1.cc⟩⟩
/-- Strong, in the words of those who can be reached. -/
theorem str_iff {ws : Nat → Nat} (hw : ∀ c, c < m → ws c < 2 ^ m) : Str (fun x y => (ws x).testBit y) m ↔ ∀ a, a < m → Rc.rs m ws a = 2 ^ m - 1 := by
  constructor
  · intro hs a ha
    refine Nat.eq_of_testBit_eq fun x => ?_
    rw [Nat.testBit_two_pow_sub_one]
    by_cases hx : x < m
    · rw [decide_eq_true hx]
      rw [Rc.rs_bit hw ha]
      exact hs (fun x => Rc.R ws a x) ⟨a, ha, .refl a⟩ (fun x y _ _ h k => h.step k) x hx
    · rw [decide_eq_false hx]
      exact Nat.testBit_lt_two_pow (Nat.lt_of_lt_of_le (Rc.rs_lt m ws a) (Nat.pow_le_pow_right (by decide) (by omega)))
  · intro h S ⟨a, ha, haS⟩ hS y hy
    have h1 : (Rc.rs m ws a).testBit y = true := by
      rw [h a ha, Nat.testBit_two_pow_sub_one, decide_eq_true hy]
    have h2 := (Rc.rs_bit hw ha y).1 h1
    have key : ∀ y, Rc.R ws a y → S y ∧ y < m := by
      intro y hR
      induction hR with
      | refl => exact ⟨haS, ha⟩
      | @step b c hab hbc ih =>
        have hc : c < m := by
          rcases Nat.lt_or_ge c m with h | h
          · exact h
          · rw [Nat.testBit_lt_two_pow (Nat.lt_of_lt_of_le (hw b ih.2) (Nat.pow_le_pow_right (by decide) h))] at hbc
            cases hbc
        exact ⟨hS b c ih.2 hc ih.1 hbc, hc⟩
    exact (key y h2).1
/-- The full cycles that begin with 0, counted among the ways. -/
theorem cyc_count {f : Nat → Nat} (hm : m ≤ 8) (h3 : 3 ≤ m) (hf : ∀ x, x < m → f x < 2 ^ m) : (Hw.ways f (m : Int) 0).countP (Hw.cyc f) = (P m).countP (cl (fun x y => (f x).testBit y) 0) := by
  rw [List.countP_eq_length_filter, List.countP_eq_length_filter]
  have hn : (Hw.ways f (m : Int) 0).Nodup := ext_nodup 7 [0] (Hw.Way.one f 0) (by simp) (by simp)
  refine List.Perm.length_eq ((List.perm_ext_iff_of_nodup (hn.filter _) ((full_nodup hm).filter _)).2 fun w => ?_)
  have hlast : ∀ (t : List Nat) (a : Nat), ch (fun x y => (f x).testBit y) (a :: (t ++ [0])) = (ch (fun x y => (f x).testBit y) (a :: t) && (f ((a :: t).getLastD 0)).testBit 0) := by
    intro t
    induction t with
    | nil => intro a; simp [ch]
    | cons z t ih =>
      intro a
      show ((f a).testBit z && ch _ (z :: (t ++ [0]))) = (((f a).testBit z && ch _ (z :: t)) && _)
      rw [ih z, Bool.and_assoc]
      simp
  rw [List.mem_filter, List.mem_filter, show Hw.full (fun _ => 2 ^ m - 1) m = P m from rfl]
  constructor
  · rintro ⟨h1, h2⟩
    have hfull : w ∈ Hw.full f m := List.mem_flatMap.2 ⟨0, List.mem_range.2 (by omega), h1⟩
    obtain ⟨k1, k2, k3, k4⟩ := (mem_full hm (by omega) hf).1 hfull
    obtain ⟨_, _, _, q, rfl⟩ := (Hw.ways_mem (by omega)).1 h1
    refine ⟨(mem_P hm (by omega)).2 ⟨k1, k2, k3⟩, cl_iff.2 ⟨q, rfl, ?_⟩⟩
    unfold Hw.cyc at h2
    rw [Bool.and_eq_true] at h2
    rw [hlast, k4, Bool.true_and]
    exact h2.2
  · rintro ⟨h1, h2⟩
    obtain ⟨k1, k2, k3⟩ := (mem_P hm (by omega)).1 h1
    obtain ⟨t, rfl, h⟩ := cl_iff.1 h2
    rw [hlast, Bool.and_eq_true] at h
    refine ⟨(Hw.ways_mem (by omega)).2 ⟨Hw.way_iff.2 ⟨k1, (ch_iff _).2 h.1⟩, by rw [k2], fun x hx => by have := k3 x hx; omega, t, rfl⟩, ?_⟩
    unfold Hw.cyc
    rw [Bool.and_eq_true, decide_eq_true_iff]
    exact ⟨by omega, h.2⟩
/-- Few players: no cycle. -/
theorem cyc_few {f : Nat → Nat} (hm : m < 3) : (Hw.ways f (m : Int) 0).countP (Hw.cyc f) = 0 := by
  rw [List.countP_eq_zero]
  intro w hw h
  obtain ⟨_, h2, _, _⟩ := (Hw.ways_mem (by omega)).1 hw
  unfold Hw.cyc at h
  rw [Bool.and_eq_true, decide_eq_true_iff] at h
  omega
/-- Before, where they first differ. -/
def Bf (u v : List Nat) : Prop := ∃ p b c u' v', u = p ++ b :: u' ∧ v = p ++ c :: v' ∧ b < c
theorem flat_pair {α β : Type} {A : α → α → Prop} {R : β → β → Prop} (f : α → List β) : ∀ E : List α, E.Pairwise A → (∀ e ∈ E, (f e).Pairwise R) → (∀ d ∈ E, ∀ e ∈ E, A d e → ∀ y ∈ f d, ∀ z ∈ f e, R y z) → (E.flatMap f).Pairwise R := by
  intro E
  induction E with
  | nil => intro _ _ _; simp
  | cons x E ih =>
    intro h1 h2 h3
    obtain ⟨k1, k2⟩ := List.pairwise_cons.1 h1
    rw [List.flatMap_cons, List.pairwise_append]
    refine ⟨h2 x (by simp), ih k2 (fun e he => h2 e (by simp [he])) (fun d hd e he => h3 d (by simp [hd]) e (by simp [he])), fun y hy z hz => ?_⟩
    obtain ⟨e, he, hz2⟩ := List.mem_flatMap.1 hz
    exact h3 x (by simp) e (by simp [he]) (k1 e he) y hy z hz2
theorem nx_up (f : Nat → Nat) (p : List Nat) : (Hw.nx f p).Pairwise (· < ·) := by
  unfold Hw.nx elems elTo
  exact ((List.pairwise_lt_range).filter _).filter _
theorem ext_up {f : Nat → Nat} {k : Int} : ∀ (n : Nat) (p : List Nat), Hw.Way f p → p ≠ [] → (∀ x ∈ p, x < 8) → (Hw.ext f k n p).Pairwise Bf := by
  intro n
  induction n with
  | zero =>
    intro p _ _ _
    by_cases h : (p.length : Int) = k
    · rw [Hw.ext_at h]; simp
    · rw [Hw.ext_no h]; simp
  | succ n ih =>
    intro p hw hne h8
    by_cases h : (p.length : Int) = k
    · rw [Hw.ext_at h]; simp
    · rw [Hw.ext_on h]
      have key : ∀ b ∈ Hw.nx f p, Hw.Way f (p ++ [b]) ∧ ∀ x ∈ p ++ [b], x < 8 := fun b hb => by
        obtain ⟨k1, k2, k3⟩ := Hw.mem_nx.1 hb
        refine ⟨hw.snoc k3 (.inr k2), fun x hx => ?_⟩
        rcases List.mem_append.1 hx with h | h
        · exact h8 x h
        · obtain rfl : x = b := by simpa using h
          exact k1
      refine flat_pair _ _ (nx_up f p) (fun b hb => ih _ (key b hb).1 (by simp) (key b hb).2) fun b hb c hc hbc y hy z hz => ?_
      obtain ⟨_, _, _, q, rfl⟩ := Hw.mem_ext (key b hb).1 (by simp) (key b hb).2 hy
      obtain ⟨_, _, _, r, rfl⟩ := Hw.mem_ext (key c hc).1 (by simp) (key c hc).2 hz
      exact ⟨p, b, c, q, r, by simp, by simp, hbc⟩
/-- The full ways stand in their order. -/
theorem full_up {f : Nat → Nat} (hm : m ≤ 8) : (Hw.full f m).Pairwise Bf := by
  unfold Hw.full
  refine flat_pair _ _ List.pairwise_lt_range (fun a ha => ?_) fun a ha b hb hab y hy z hz => ?_
  · have ha := List.mem_range.1 ha
    exact ext_up 7 [a] (Hw.Way.one f a) (by simp) (fun x hx => by
      obtain rfl : x = a := by simpa using hx
      omega)
  · have ha := List.mem_range.1 ha
    have hb := List.mem_range.1 hb
    obtain ⟨_, _, _, q, rfl⟩ := (Hw.ways_mem (by omega)).1 hy
    obtain ⟨_, _, _, r, rfl⟩ := (Hw.ways_mem (by omega)).1 hz
    exact ⟨[], a, b, q, r, rfl, rfl, hab⟩
/-- The first one is before every other one. -/
theorem full_first {f : Nat → Nat} (hm : m ≤ 8) {w v : List Nat} (h : (Hw.full f m).head? = some w) (hv : v ∈ Hw.full f m) : v = w ∨ Bf w v := by
  have hp := full_up (f := f) hm
  cases hF : Hw.full f m with
  | nil => rw [hF] at h; simp at h
  | cons x E =>
    rw [hF] at h hv hp
    obtain rfl : x = w := by simpa using h
    rcases List.mem_cons.1 hv with e | e
    · exact .inl e
    · exact .inr ((List.pairwise_cons.1 hp).1 v e)
theorem full_sum (f : Nat → Nat) (m : Nat) : (Hw.full f m).length = ((List.range m).map fun a => (Hw.ways f (m : Int) a).length).sum := by
  unfold Hw.full
  rw [List.length_flatMap]
end
end Ry
end Go.Proofs.Ytgjogbihadiojaa
