/-
  The best orders of a set, reckoned by their first player and by their last one: plain mathematics. No program, no conditions.
-/
import Derived.Test.YteegbkbphfmooaaQs
namespace Go.Proofs.Yteegbkbphfmooaa
open Go.ChangeShapes Go.WideShapes Go.ChangeAt Go.RowKit
set_option linter.unusedVariables false
namespace Rv

theorem pc_take {s a : Nat} (hs : s < 256) (ha : a < 8) (h : s.testBit a = true) : pc s = pc (s - 2 ^ a) + 1 := by
  have : ∀ s : Fin 256, ∀ b : Fin 8, s.val.testBit b.val = true → pc s.val = pc (s.val - 2 ^ b.val) + 1 := by decide +kernel
  exact this ⟨s, hs⟩ ⟨a, ha⟩ h
theorem pc_len {s : Nat} (hs : s < 256) : pc s = (elems s).length := by
  have : ∀ s : Fin 256, pc s.val = (elems s.val).length := by decide +kernel
  exact this ⟨s, hs⟩
theorem sub_lt {s a : Nat} (hs : s < 256) : s - 2 ^ a < 256 := Nat.lt_of_le_of_lt (Nat.sub_le _ _) hs
theorem ors_perm {s : Nat} (hs : s < 256) {l : List Nat} (h : l ∈ ors (pc s) s) : l.Perm (elems s) := by
  obtain ⟨h1, h2, h3⟩ := (mem_ors hs).1 h
  rw [List.perm_ext_iff_of_nodup h2 (elems_nd s)]
  intro x
  constructor
  · exact fun hx => Hw.mem_elems.2 (h3 x hx)
  · intro hx
    refine Decidable.byContradiction fun hn => ?_
    have hnd : (x :: l).Nodup := List.nodup_cons.2 ⟨hn, h2⟩
    have := hnd.length_le_of_subset (l₂ := elems s) (fun y hy => by
      rcases List.mem_cons.1 hy with rfl | hy
      · exact hx
      · exact Hw.mem_elems.2 (h3 y hy))
    rw [List.length_cons, h1, pc_len hs] at this
    omega

/-- All orders of a set: the fewest reversals, how many have them, and the first one's number. -/
def G (f : Nat → Nat → Bool) (s : Nat) : Option (Nat × Nat × Nat) := sm ((ors (pc s) s).map fun l => some (rv f l, 1, vl l))
def sh (c : Nat) (g : Nat → Nat) (x : Nat × Nat × Nat) : Nat × Nat × Nat := (x.1 + c, x.2.1, g x.2.2)
theorem sh_cm (c : Nat) (g : Nat → Nat) (hg : ∀ u v, min (g u) (g v) = g (min u v)) (x y : Nat × Nat × Nat) : cm (sh c g x) (sh c g y) = sh c g (cm x y) := by
  obtain ⟨a, b, d⟩ := x
  obtain ⟨p, q, r⟩ := y
  unfold cm sh
  simp only
  rcases Nat.lt_trichotomy a p with h | rfl | h
  · rw [if_pos h, if_pos (by omega)]
  · rw [if_neg (Nat.lt_irrefl _), if_neg (Nat.lt_irrefl _), if_neg (Nat.lt_irrefl _), if_neg (Nat.lt_irrefl _), hg]
  · rw [if_neg (show ¬ a < p by omega), if_pos h, if_neg (by omega), if_pos (by omega)]
theorem sh_co (c : Nat) (g : Nat → Nat) (hg : ∀ u v, min (g u) (g v) = g (min u v)) (x y : Option (Nat × Nat × Nat)) : co (x.map (sh c g)) (y.map (sh c g)) = (co x y).map (sh c g) := by
  cases x <;> cases y <;> first | rfl | exact congrArg some (sh_cm c g hg _ _)
theorem sm_sh (c : Nat) (g : Nat → Nat) (hg : ∀ u v, min (g u) (g v) = g (min u v)) : ∀ l : List (Option (Nat × Nat × Nat)), sm (l.map (Option.map (sh c g))) = (sm l).map (sh c g)
  | [] => rfl
  | x :: l => by
    show co (x.map (sh c g)) (sm (l.map _)) = (co x (sm l)).map (sh c g)
    rw [sm_sh c g hg l, sh_co c g hg]
theorem mono1 (n : Nat) (u v : Nat) : min (n + u) (n + v) = n + min u v := by omega
theorem mono2 (a : Nat) (u v : Nat) : min (u * 8 + a) (v * 8 + a) = min u v * 8 + a := by omega

theorem G_zero (f : Nat → Nat → Bool) : G f 0 = some (0, 1, 0) := rfl
theorem G_first (f : Nat → Nat → Bool) {s k : Nat} (hs : s < 256) (hk : pc s = k + 1) :
    G f s = sm ((elems s).map fun a => (G f (s - 2 ^ a)).map (sh ((elems (s - 2 ^ a)).countP fun b => f b a) (a * 8 ^ k + ·))) := by
  unfold G
  rw [hk]
  simp only [ors]
  rw [List.map_flatMap, sm_flat]
  refine sm_same _ _ _ fun a ha => ?_
  obtain ⟨ha8, hat⟩ := Hw.mem_elems.1 ha
  have hpc := pc_take hs ha8 hat
  have hk2 : pc (s - 2 ^ a) = k := by omega
  rw [hk2, ← sm_sh _ _ (mono1 _), List.map_map, List.map_map]
  congr 1
  refine List.map_congr_left fun l hl => ?_
  have hp := ors_perm (sub_lt hs) (hk2 ▸ hl)
  have hll := ((mem_ors (sub_lt hs)).1 hl).1
  show some (rv f (a :: l), 1, vl (a :: l)) = some (rv f l + _, 1, a * 8 ^ k + vl l)
  rw [vl_cons, hll]
  have : rv f (a :: l) = rv f l + (elems (s - 2 ^ a)).countP (fun b => f b a) := by
    show l.countP (fun b => f b a) + rv f l = _
    rw [hp.countP_eq]; omega
  rw [this]
theorem last_perm {s k : Nat} (hs : s < 256) : (ors (k + 1) s).Perm ((elems s).flatMap fun a => (ors k (s - 2 ^ a)).map (· ++ [a])) := by
  have hnd : ((elems s).flatMap fun a => (ors k (s - 2 ^ a)).map (· ++ [a])).Nodup := by
    unfold List.flatMap List.Nodup
    rw [List.pairwise_flatten]
    refine ⟨fun p hp => ?_, ?_⟩
    · obtain ⟨a, _, rfl⟩ := List.mem_map.1 hp
      rw [List.pairwise_map]
      exact (ors_nd (k := k) (s := s - 2 ^ a)).imp fun {x y} hxy e => hxy (by simpa using e)
    · rw [List.pairwise_map]
      refine (elems_nd s).imp fun {a b} hab => ?_
      intro x hx y hy e
      obtain ⟨p, _, rfl⟩ := List.mem_map.1 hx
      obtain ⟨q, _, rfl⟩ := List.mem_map.1 hy
      have := List.append_inj' e rfl
      exact hab (by simpa using this.2)
  rw [List.perm_ext_iff_of_nodup ors_nd hnd]
  intro l
  rw [mem_ors hs, List.mem_flatMap]
  constructor
  · rintro ⟨h1, h2, h3⟩
    rcases List.eq_nil_or_concat l with rfl | ⟨p, a, rfl⟩
    · simp at h1
    · rw [List.concat_eq_append] at *
      have ha := h3 a (by simp)
      have hnd2 := List.nodup_append.1 h2
      refine ⟨a, Hw.mem_elems.2 ha, List.mem_map.2 ⟨p, (mem_ors (sub_lt hs)).2 ⟨by simpa using h1, hnd2.1, fun x hx => ?_⟩, rfl⟩⟩
      have hx2 := h3 x (by simp [hx])
      refine ⟨hx2.1, ?_⟩
      rw [sub_tb hs ha.1 ha.2, hx2.2]
      have : x ≠ a := hnd2.2.2 x hx a (by simp)
      simp [this]
  · rintro ⟨a, ha, hl⟩
    obtain ⟨p, hp, rfl⟩ := List.mem_map.1 hl
    obtain ⟨ha8, hat⟩ := Hw.mem_elems.1 ha
    obtain ⟨h1, h2, h3⟩ := (mem_ors (sub_lt hs)).1 hp
    refine ⟨by simpa using h1, ?_, fun x hx => ?_⟩
    · rw [List.nodup_append]
      refine ⟨h2, by simp, fun x hx y hy e => ?_⟩
      obtain rfl := List.mem_singleton.1 hy
      subst e
      have := (h3 x hx).2
      rw [sub_tb hs ha8 hat] at this; simp at this
    · rcases List.mem_append.1 hx with hx | hx
      · have := h3 x hx
        rw [sub_tb hs ha8 hat, Bool.and_eq_true] at this
        exact ⟨this.1, this.2.1⟩
      · obtain rfl := List.mem_singleton.1 hx
        exact ⟨ha8, hat⟩
theorem G_last (f : Nat → Nat → Bool) {s k : Nat} (hs : s < 256) (hk : pc s = k + 1) :
    G f s = sm ((elems s).map fun a => (G f (s - 2 ^ a)).map (sh ((elems (s - 2 ^ a)).countP fun b => f a b) (· * 8 + a))) := by
  unfold G
  rw [hk, sm_perm ((last_perm hs).map _), List.map_flatMap, sm_flat]
  refine sm_same _ _ _ fun a ha => ?_
  obtain ⟨ha8, hat⟩ := Hw.mem_elems.1 ha
  have hpc := pc_take hs ha8 hat
  have hk2 : pc (s - 2 ^ a) = k := by omega
  rw [hk2, ← sm_sh _ _ (mono2 _), List.map_map, List.map_map]
  congr 1
  refine List.map_congr_left fun l hl => ?_
  have hp := ors_perm (sub_lt hs) (hk2 ▸ hl)
  show some (rv f (l ++ [a]), 1, vl (l ++ [a])) = some (rv f l + _, 1, vl l * 8 + a)
  rw [vl_snoc, rv_snoc, hp.countP_eq]
theorem sm_some : ∀ {l : List (Option (Nat × Nat × Nat))}, (∃ x ∈ l, x.isSome = true) → (sm l).isSome = true
  | [], h => by obtain ⟨_, h, _⟩ := h; cases h
  | x :: l, h => by
    show (co x (sm l)).isSome = true
    obtain ⟨y, hy, hs⟩ := h
    rcases List.mem_cons.1 hy with rfl | hy
    · cases y with
      | none => cases hs
      | some y => cases sm l <;> rfl
    · have := sm_some ⟨y, hy, hs⟩
      cases x
      · exact this
      · cases hq : sm l with
        | none => rfl
        | some q => rfl
theorem G_some (f : Nat → Nat → Bool) : ∀ (k s : Nat), s < 256 → pc s = k → (G f s).isSome = true
  | 0, s, hs, hk => by
    have h0 : elems s = [] := List.eq_nil_of_length_eq_zero (by rw [← pc_len hs]; exact hk)
    unfold G
    rw [hk]
    rfl
  | k + 1, s, hs, hk => by
    rw [G_last f hs hk]
    have hne : elems s ≠ [] := fun e => by
      have := pc_len hs
      rw [e, hk] at this; simp at this
    obtain ⟨a, l, e⟩ := List.exists_cons_of_ne_nil hne
    have ha : a ∈ elems s := by rw [e]; simp
    obtain ⟨ha8, hat⟩ := Hw.mem_elems.1 ha
    have hpc := pc_take hs ha8 hat
    refine sm_some ⟨_, List.mem_map.2 ⟨a, ha, rfl⟩, ?_⟩
    rw [Option.isSome_map]
    exact G_some f k _ (sub_lt hs) (by omega)
end Rv
end Go.Proofs.Yteegbkbphfmooaa
