/-
  'isOrderOf' and 'l02Perm': whether a list has each number below m once; the names as numbers; the renamed rows. No conditions but the bounds that Go gives a slice.
-/
import Derived.Test.YteiadhfjpohmdaaO
namespace Go.Proofs.Yteiadhfjpohmdaa
open Go.ChangeShapes Go.WideShapes Go.ChangeAt Go.RowKit Go.Shelf
set_option linter.unusedVariables false

theorem infoBool : (Try.prog.info? 4).map (fun i => (i.zero, i.size, i.bytes)) = some (some (.bool false), 1, 1) := by kernel_rfl
/-- Whether v is among the first k names. -/
def among (ns : List Int) (k : Nat) (v : Nat) : Bool := (ns.take k).any fun z => z == (v : Int)
def seenL (ns : List Int) (m k : Nat) : List Value := (List.range m).map fun v => Value.bool (among ns k v)
theorem seenL_len (ns : List Int) (m k : Nat) : (seenL ns m k).length = m := by simp [seenL]
theorem seenL_zero (ns : List Int) (m : Nat) : (madeCells #[Value.bool false] m).toList = seenL ns m 0 := by
  rw [toList_madeCells_one]
  apply List.ext_getElem
  · simp [seenL]
  · intro i h1 h2; simp [seenL, among]
theorem seenL_at (ns : List Int) (m k v : Nat) (hv : v < m) : (seenL ns m k)[v]? = some (.bool (among ns k v)) := by simp [seenL, hv]
theorem seenL_set (ns : List Int) (m k v : Nat) (hv : v < m) (hk : k < ns.length) (he : ns.getD k 0 = (v : Int)) : (seenL ns m k).set v (.bool true) = seenL ns m (k + 1) := by
  have hk' : ns[k]? = some (v : Int) := by rw [List.getD_eq_getElem?_getD, List.getElem?_eq_getElem hk] at he; rw [List.getElem?_eq_getElem hk]; exact congrArg some he
  apply List.ext_getElem
  · simp [seenL]
  · intro i h1 h2
    have hi : i < m := by simpa [seenL] using h2
    rw [List.getElem_set]
    by_cases e : v = i
    · subst e; simp [seenL, among, take_snoc ns k _ hk', List.any_append]
    · rw [if_neg e]
      have : ¬ (v : Int) = (i : Int) := by omega
      simp [seenL, among, take_snoc ns k _ hk', List.any_append, this]
/-- The first k names are different numbers below m. -/
def okTo (ns : List Int) (m k : Nat) : Prop := ∀ i, i < k → 0 ≤ ns.getD i 0 ∧ ns.getD i 0 < m ∧ among ns i (ns.getD i 0).toNat = false
noncomputable def permB (m : Nat) (ns : List Int) : Bool := by classical exact decide (ns.length = m ∧ okTo ns m ns.length)
theorem permB_no {m : Nat} {ns : List Int} (h : ¬ (ns.length = m ∧ okTo ns m ns.length)) : permB m ns = false := by simp only [permB, h, decide_false]
theorem permB_yes {m : Nat} {ns : List Int} (h : ns.length = m ∧ okTo ns m ns.length) : permB m ns = true := by simp only [permB, decide_eq_true_eq]; exact h
theorem permB_iff {m : Nat} {ns : List Int} : permB m ns = true ↔ (ns.length = m ∧ okTo ns m ns.length) := by simp [permB]

set_option maxHeartbeats 1000000 in
theorem isOrder_any (m : Nat) (a : Option Addr) (ns : List Int) (cap : Nat) (w : World) (hm : m ≤ 8) (hrow : IntRow w a ns) (hl : ns.length ≤ maxLen) :
    Calls Try.prog 109 #[.slice a ns.length cap, .int .i64 m] w fun e w' => e = .returned (.bool (permB m ns)) ∧ Below w.heap.size w w' := by
  unfold maxLen at hl
  by_cases hlen : ns.length = m
  case neg =>
    have HE : Hid (permB m ns = false) := permB_no (fun h => hlen h.1)
    have hne : ((ns.length : Int) == (m : Int)) = false := by
      rw [beq_eq_false_iff_ne]; intro e; exact hlen (by omega)
    clear hlen
    go_enter Try.func109, Try.ntmps109
    go_wp2
    go_ret
    exact ⟨by rw [HE.out]; rfl, Below.refl _ _⟩
  obtain ⟨i0, hi, hz0, hz1, hz2⟩ := info_parts infoBool
  subst hlen
  go_enter Try.func109, Try.ntmps109
  go_wp2_with (refine wpList_make_full _ rfl _ _ 124 rfl w.heap.size 4 i0 (.bool false) 1 Try.underlying124 hi hz0 hz1 .i64 .i64 _ _ ns.length rfl rfl rfl rfl ?c1 ?c2 ?c3 ?_)
  case c1 => rw [hz2]; omega
  case c2 => unfold maxLen; omega
  case c3 => exact Nat.le_refl _
  intro w1 hown hg
  have hb1 : Below w.heap.size w w1 := (Below.refl _ w).grown hg (Nat.le_refl _) (fun k hk => by cases hk)
  have hown1 : w1.ownsRow w.heap.size 4 1 (.slice (some ⟨w.heap.size, 0, none⟩) ns.length ns.length) ns.length (seenL ns ns.length 0) := by
    rw [← seenL_zero]; exact hown
  clear hown hg
  go_wp2
  go_loopw [16] (fun i wr => ∃ k : Nat, k ≤ ns.length ∧ i = .int .i64 k ∧ Hid (okTo ns ns.length k) ∧ wr.ownsRow w.heap.size 4 1 (.slice (some ⟨w.heap.size, 0, none⟩) ns.length ns.length) ns.length (seenL ns ns.length k) ∧ Below w.heap.size w wr) (fun i _ => ns.length - (intOf i).toNat)
  case atStart => exact ⟨0, Nat.zero_le _, rfl, fun i h => absurd h (Nat.not_lt_zero _), hown1, hb1⟩
  case round =>
    clear hown1 hb1
    obtain ⟨k, hk, rfl, hto, hown, hb⟩ := hrel
    by_cases hlt : k < ns.length
    · obtain ⟨b, off, rfl, hbb, hc⟩ := hrow.at hlt
      obtain ⟨z, hz⟩ : ∃ z, z = ns.getD k 0 := ⟨_, rfl⟩
      rw [← hz] at hc
      have hcr := (hb.cell (p := ⟨b, off + k, none⟩) hbb).trans hc
      have hib : (k : Int) < (ns.length : Int) := by omega
      have HZ := Lib.hid hz
      clear hz hc
      by_cases hneg : z < 0
      · have HE : Hid (permB ns.length ns = false) := permB_no (fun h => by have := h.2 k hlt; rw [← HZ.out] at this; omega)
        go_wp2
        go_ret
        exact ⟨by rw [HE.out]; rfl, hb⟩
      by_cases hge : (ns.length : Int) ≤ z
      · have HE : Hid (permB ns.length ns = false) := permB_no (fun h => by have := h.2 k hlt; rw [← HZ.out] at this; omega)
        go_wp2
        go_ret
        exact ⟨by rw [HE.out]; rfl, hb⟩
      obtain ⟨v, rfl⟩ : ∃ v : Nat, z = v := ⟨z.toNat, by omega⟩
      have hv : v < ns.length := by omega
      have hcy : wr.cell? ⟨w.heap.size, v, none⟩ = some (.bool (among ns k v)) := by rw [hown.cellAt v (by omega), seenL_at ns _ k v hv]
      have hfr := hown.frozenAt v
      cases hs : among ns k v
      · rw [hs] at hcy
        have hst := (hown.stored v (.bool true)).1
        rw [seenL_set ns _ k v hv hlt HZ.out.symm] at hst
        have hto2 : Hid (okTo ns ns.length (k + 1)) := by
          intro i hi'
          by_cases e : i = k
          · subst e; rw [← HZ.out]; exact ⟨by omega, by omega, hs⟩
          · exact hto.out i (by omega)
        have H2 := Lib.hid hst
        have hb2 : Below w.heap.size w (wr.setCell ⟨w.heap.size, v, none⟩ (.bool true)) := hb.setCell (p := ⟨w.heap.size, v, none⟩) (Nat.le_refl _) _
        clear hst hown hs
        go_wp2
        go_roundw
        case rel => exact ⟨k + 1, by omega, by go_num, hto2, H2.out, hb2⟩
        case measure => simp [intOf]; omega
      · rw [hs] at hcy
        have HE : Hid (permB ns.length ns = false) := permB_no (fun h => by have := (h.2 k hlt).2.2; rw [← HZ.out] at this; rw [show (v : Int).toNat = v from rfl, hs] at this; cases this)
        clear hs hown
        go_wp2
        go_ret
        exact ⟨by rw [HE.out]; rfl, hb⟩
    · obtain rfl : k = ns.length := by omega
      have HE : Hid (permB ns.length ns = true) := permB_yes ⟨rfl, hto.out⟩
      go_wp2
      go_ret
      exact ⟨by rw [HE.out]; rfl, hb⟩

set_option maxHeartbeats 1000000 in
theorem l02Perm_any (m : Nat) (a : Option Addr) (ns : List Int) (cap : Nat) (w : World) (hm : m ≤ 8) (hrow : IntRow w a ns) (hl : ns.length ≤ maxLen) :
    Calls Try.prog 139 #[.int .i64 m, .slice a ns.length cap] w fun e w' => e = .returned (.bool (permB m ns)) ∧ Below w.heap.size w w' := by
  unfold maxLen at hl
  by_cases hlen : ns.length = m
  case neg =>
    have HE : Hid (permB m ns = false) := permB_no (fun h => hlen h.1)
    have hne : ((ns.length : Int) == (m : Int)) = false := by
      rw [beq_eq_false_iff_ne]; intro e; exact hlen (by omega)
    clear hlen
    go_enter Try.func139, Try.ntmps139
    go_wp2
    go_ret
    exact ⟨by rw [HE.out]; rfl, Below.refl _ _⟩
  obtain ⟨i0, hi, hz0, hz1, hz2⟩ := info_parts infoBool
  subst hlen
  have HB : Hid (∀ z w, Calls Try.prog 78 #[.int .i64 z, .int .i64 0, .int .i64 ((ns.length : Int) - 1)] w fun e w' => e = .returned (.bool (pl ns.length z)) ∧ w = w') := fun z w => by rw [← pl_le]; exact l01In_any z 0 _ w
  go_enter Try.func139, Try.ntmps139
  go_wp2_with (refine wpList_make_full _ rfl _ _ 124 rfl w.heap.size 4 i0 (.bool false) 1 Try.underlying124 hi hz0 hz1 .i64 .i64 _ _ ns.length rfl rfl rfl rfl ?c1 ?c2 ?c3 ?_)
  case c1 => rw [hz2]; omega
  case c2 => unfold maxLen; omega
  case c3 => exact Nat.le_refl _
  intro w1 hown hg
  have hb1 : Below w.heap.size w w1 := (Below.refl _ w).grown hg (Nat.le_refl _) (fun k hk => by cases hk)
  have hown1 : w1.ownsRow w.heap.size 4 1 (.slice (some ⟨w.heap.size, 0, none⟩) ns.length ns.length) ns.length (seenL ns ns.length 0) := by
    rw [← seenL_zero]; exact hown
  clear hown hg
  go_wp2
  go_loopw [16] (fun i wr => ∃ k : Nat, k ≤ ns.length ∧ i = .int .i64 k ∧ Hid (okTo ns ns.length k) ∧ wr.ownsRow w.heap.size 4 1 (.slice (some ⟨w.heap.size, 0, none⟩) ns.length ns.length) ns.length (seenL ns ns.length k) ∧ Below w.heap.size w wr) (fun i _ => ns.length - (intOf i).toNat)
  case atStart => exact ⟨0, Nat.zero_le _, rfl, fun i h => absurd h (Nat.not_lt_zero _), hown1, hb1⟩
  case round =>
    clear hown1 hb1
    obtain ⟨k, hk, rfl, hto, hown, hb⟩ := hrel
    by_cases hlt : k < ns.length
    · obtain ⟨b, off, rfl, hbb, hc⟩ := hrow.at hlt
      obtain ⟨z, hz⟩ : ∃ z, z = ns.getD k 0 := ⟨_, rfl⟩
      rw [← hz] at hc
      have hcr := (hb.cell (p := ⟨b, off + k, none⟩) hbb).trans hc
      have hib : (k : Int) < (ns.length : Int) := by omega
      have HZ := Lib.hid hz
      clear hz hc
      cases hin : pl ns.length z
      · have HE : Hid (permB ns.length ns = false) := permB_no (fun h => by have := h.2 k hlt; rw [← HZ.out] at this; rw [pl_iff.2 ⟨this.1, this.2.1⟩] at hin; cases hin)
        have HIN := Lib.hid hin
        clear hin
        go_wp2_with fail
        refine (HB.out z _).mono ?_
        rintro e w' ⟨rfl, rfl⟩
        rw [HIN.out]
        go_wp2
        go_ret
        exact ⟨by rw [HE.out]; rfl, hb⟩
      have hin2 := pl_iff.1 hin
      have HIN := Lib.hid hin
      clear hin
      obtain ⟨v, rfl⟩ : ∃ v : Nat, z = v := ⟨z.toNat, by omega⟩
      have hv : v < ns.length := by omega
      clear hin2
      have hcy : wr.cell? ⟨w.heap.size, v, none⟩ = some (.bool (among ns k v)) := by rw [hown.cellAt v (by omega), seenL_at ns _ k v hv]
      have hfr := hown.frozenAt v
      cases hs : among ns k v
      · rw [hs] at hcy
        have hst := (hown.stored v (.bool true)).1
        rw [seenL_set ns _ k v hv hlt HZ.out.symm] at hst
        have hto2 : Hid (okTo ns ns.length (k + 1)) := by
          intro i hi'
          by_cases e : i = k
          · subst e; rw [← HZ.out]; exact ⟨by omega, by omega, hs⟩
          · exact hto.out i (by omega)
        have H2 := Lib.hid hst
        have hb2 : Below w.heap.size w (wr.setCell ⟨w.heap.size, v, none⟩ (.bool true)) := hb.setCell (p := ⟨w.heap.size, v, none⟩) (Nat.le_refl _) _
        clear hst hown hs
        go_wp2_with fail
        refine (HB.out _ _).mono ?_
        rintro e w' ⟨rfl, rfl⟩
        rw [HIN.out]
        go_wp2
        go_roundw
        case rel => exact ⟨k + 1, by omega, by go_num, hto2, H2.out, hb2⟩
        case measure => simp [intOf]; omega
      · rw [hs] at hcy
        have HE : Hid (permB ns.length ns = false) := permB_no (fun h => by have := (h.2 k hlt).2.2; rw [← HZ.out] at this; rw [show (v : Int).toNat = v from rfl, hs] at this; cases this)
        clear hs hown
        go_wp2_with fail
        refine (HB.out _ _).mono ?_
        rintro e w' ⟨rfl, rfl⟩
        rw [HIN.out]
        go_wp2
        go_ret
        exact ⟨by rw [HE.out]; rfl, hb⟩
    · obtain rfl : k = ns.length := by omega
      have HE : Hid (permB ns.length ns = true) := permB_yes ⟨rfl, hto.out⟩
      go_wp2
      go_ret
      exact ⟨by rw [HE.out]; rfl, hb⟩
end Go.Proofs.Yteiadhfjpohmdaa
