/-
  'FnExactJoin': the program's Join answers as the model's, for every slice of strings and every separator, and leaves the slice as it was. No conditions.
-/
import Derived.Test.YtocjbllblggplaaD
import Derived.Deep.QuietTactic
import Derived.BigQuiet
import Derived.SliceStrings
import Derived.WalkSmall
import Derived.Carry
namespace Go.Proofs.Ytocjbllblggplaa
open Go.ChangeShapes Go.WideShapes Go.ChangeAt Go.RowKit
open Go.ChangeMaps (open_string shut_string)
set_option linter.unusedVariables false

theorem data_append (A B : ByteArray) : (A ++ B).data.toList = A.data.toList ++ B.data.toList := by simp
theorem of_data {A : ByteArray} {l : List UInt8} (h : A.data.toList = l) : A = ⟨l.toArray⟩ := by
  subst h; exact (Lib.mk_data A).symm

set_option maxHeartbeats 2000000 in
/-- The model's 'Join'. -/
theorem specJoin (y : ByteArray) (a : Option Addr) (cap : Nat) (l : List ByteArray) (w : World) (hl : l.length ≤ 8796093022208) (hrow : StrRow w a l) (hsz : (jnTo y l l.length).length ≤ 140737488355328) :
    Calls Try.prog 21 #[.slice a l.length cap, .string y] w fun e w' => e = .returned (.string ⟨(jnTo y l l.length).toArray⟩) ∧ w = w' := by
  go_enter Try.func21, Try.ntmps21
  go_wp2
  go_loop [5, 10] (fun s i => ∃ (k : Nat) (A : ByteArray), k ≤ l.length ∧ i = .int .i64 k ∧ s = .string A ∧ Hid (A.data.toList = jnTo y l k)) (fun _ i => l.length - (intOf i).toNat)
  case atStart => exact ⟨0, _, Nat.zero_le _, rfl, rfl, rfl⟩
  case round =>
    obtain ⟨k, A, hk, rfl, rfl, hA⟩ := hrel
    by_cases hlt : k < l.length
    · rcases hrow with he | ⟨b, off, rfl, hbl, hc⟩
      · exfalso; rw [he] at hlt; simp at hlt
      · obtain ⟨x, hx⟩ : ∃ x, x = l.getD k ByteArray.empty := ⟨_, rfl⟩
        have hcx : w.cell? ⟨b, off + k, none⟩ = some (.string x) := by rw [hx]; exact hc k hlt
        have hm1 := jn_mono y l (k + 1) l.length hlt
        have HS : Hid (jnTo y l (k + 1) = (if k = 0 then [] else jnTo y l k ++ y.data.toList) ++ x.data.toList) := by rw [hx]; rfl
        have hz : (jnTo y l (k + 1)).length = (if k = 0 then 0 else A.size + y.size) + x.size := by
          rw [HS.out, Lib.size_eq x, Lib.size_eq A, Lib.size_eq y, hA.out]; split <;> simp <;> omega
        clear hc hx
        by_cases hk0 : k = 0
        · rw [if_pos hk0] at hz
          have hk1 : ¬ (0 : Int) < (k : Int) := by omega
          have hk2 : ¬ 0 < k := by omega
          have hA0 : A.data.toList = [] := by rw [hA.out, hk0]; rfl
          have hAz : A.size = 0 := by rw [Lib.size_eq, hA0]; rfl
          have hsx : ¬ 9223372036854775807 < A.size + x.size := by omega
          have hR : Hid ((A ++ x).data.toList = jnTo y l (k + 1)) := by
            rw [HS.out, if_pos hk0, data_append, hA0]; exact rfl
          clear hk0 hz hm1 hA0 hAz
          go_wp2
          go_round
          case rel => exact ⟨k + 1, _, by omega, by go_num, rfl, hR⟩
          case measure => simp [intOf]; omega
        · rw [if_neg hk0] at hz
          have hk1 : (0 : Int) < (k : Int) := by omega
          have hk2 : 0 < k := by omega
          have hsy : ¬ 9223372036854775807 < A.size + y.size := by omega
          have hsx : ¬ 9223372036854775807 < (A ++ y).size + x.size := by rw [ByteArray.size_append]; omega
          have hsx2 : ¬ 9223372036854775807 < A.size + y.size + x.size := by omega
          have hR : Hid ((A ++ y ++ x).data.toList = jnTo y l (k + 1)) := by
            rw [HS.out, if_neg hk0, data_append, data_append, hA.out]; exact rfl
          clear hk0 hz hm1
          go_wp2
          go_round
          case rel => exact ⟨k + 1, _, by omega, by go_num, rfl, hR⟩
          case measure => simp [intOf]; omega
    · obtain rfl : k = l.length := by omega
      have hE : Hid (A = ⟨(jnTo y l l.length).toArray⟩) := of_data hA.out
      go_wp2
      go_ret
      exact ⟨by rw [← hE.out]; rfl, rfl⟩

theorem getD_mem {l : List ByteArray} {k : Nat} (h : k < l.length) : l.getD k ByteArray.empty ∈ l := by
  rw [List.getD_eq_getElem?_getD, List.getElem?_eq_getElem h]; exact List.getElem_mem h

def szTo (l : List ByteArray) : Nat → Int
  | 0 => 0
  | k + 1 => szTo l k + (l.getD k ByteArray.empty).size
theorem szTo_pos (l : List ByteArray) : ∀ k, 0 ≤ szTo l k
  | 0 => Int.le_refl _
  | k + 1 => by have := szTo_pos l k; simp only [szTo]; omega
theorem szTo_mono (l : List ByteArray) (k : Nat) : ∀ m, k ≤ m → szTo l k ≤ szTo l m := by
  intro m h
  induction m with
  | zero => obtain rfl : k = 0 := (by omega); exact Int.le_refl _
  | succ m ih =>
    by_cases e : k = m + 1
    · subst e; exact Int.le_refl _
    · have := ih (by omega); simp only [szTo]; omega
/-- What 'szStringS' answers at the bound that the laws give it. -/
def szR (l : List ByteArray) : Int := if 1048576 < l.length + szTo l l.length then -1 else 1048576 - (l.length + szTo l l.length)

set_option maxHeartbeats 2000000 in
theorem szStr (a : Option Addr) (cap : Nat) (l : List ByteArray) (w : World) (hl : l.length ≤ maxLen) (hrow : StrRow w a l) (hss : ∀ s ∈ l, s.size ≤ maxLen) :
    Calls Try.prog 20 #[.slice a l.length cap, .int .i64 1048576] w fun e w' => e = .returned (.int .i64 (szR l)) ∧ w = w' := by
  unfold maxLen at hl hss
  have hp := szTo_pos l l.length
  by_cases h0 : (1048576 : Int) - l.length < 0
  · have hR : Hid (szR l = -1) := by unfold szR; exact if_pos (by omega)
    clear hp
    go_enter Try.func20, Try.ntmps20
    go_wp2
    go_ret
    exact ⟨by rw [hR.out]; rfl, rfl⟩
  · have h0' : ¬ (1048576 : Int) < l.length := by omega
    clear hp
    go_enter Try.func20, Try.ntmps20
    go_wp2
    go_loop [1, 5] (fun t i => ∃ (k : Nat) (q : Int), k ≤ l.length ∧ i = .int .i64 k ∧ t = .int .i64 q ∧ 0 ≤ q ∧ q ≤ 1048576 ∧ Hid (q = 1048576 - (l.length + szTo l k))) (fun _ i => l.length - (intOf i).toNat)
    case atStart => exact ⟨0, _, Nat.zero_le _, rfl, rfl, by omega, by omega, by simp [Hid, szTo]⟩
    case round =>
      obtain ⟨k, q, hk, rfl, rfl, hq0, hq1, hq⟩ := hrel
      by_cases hlt : k < l.length
      · rcases hrow with he | ⟨b, off, rfl, hbl, hc⟩
        · exfalso; rw [he] at hlt; simp at hlt
        · obtain ⟨x, hx⟩ : ∃ x, x = l.getD k ByteArray.empty := ⟨_, rfl⟩
          have hcx : w.cell? ⟨b, off + k, none⟩ = some (.string x) := by rw [hx]; exact hc k hlt
          have hxs : x.size ≤ 9223372036854775807 := by
            have : x ∈ l := by rw [hx]; exact getD_mem hlt
            have := hss x this; omega
          have HS : Hid (szTo l (k + 1) = szTo l k + x.size) := by rw [hx]; rfl
          have hm1 := szTo_mono l (k + 1) l.length hlt
          clear hc hx
          by_cases hneg : q - x.size < 0
          · have hR : Hid (szR l = -1) := by
              have := HS.out; have := hq.out
              unfold szR; exact if_pos (by omega)
            have hneg' : q < x.size := by omega
            go_wp2
            go_ret
            exact ⟨by rw [hR.out]; rfl, rfl⟩
          · have hR : Hid (q - x.size = 1048576 - (l.length + szTo l (k + 1))) := by
              have := HS.out; have := hq.out
              show q - x.size = _; omega
            have hneg' : ¬ q < x.size := by omega
            go_wp2
            go_round
            case rel => exact ⟨k + 1, _, by omega, by go_num, rfl, by omega, by omega, hR⟩
            case measure => simp [intOf]; omega
      · obtain rfl : k = l.length := by omega
        have hE : Hid (szR l = q) := by
          have := hq.out
          unfold szR; rw [if_neg (by omega)]; exact this.symm
        go_wp2
        go_ret
        exact ⟨by rw [hE.out]; rfl, rfl⟩

theorem infoStr : (Try.prog.info? 9).map (fun i => (i.zero, i.size, i.bytes)) = some (some (.string ⟨#[]⟩), 1, 16) := by kernel_rfl

/-- The cells of a new row while the strings of l are copied into it one by one. -/
def cpTo (l : List ByteArray) (k : Nat) : List Value := (l.take k).map Value.string ++ List.replicate (l.length - k) (.string ⟨#[]⟩)
theorem cpTo_set (l : List ByteArray) (k : Nat) (h : k < l.length) : (cpTo l k).set k (.string (l.getD k ByteArray.empty)) = cpTo l (k + 1) := by
  unfold cpTo
  rw [List.set_append, if_neg (by simp; omega)]
  have e1 : k - ((l.take k).map Value.string).length = 0 := by simp; omega
  have e2 : l.length - k = (l.length - (k + 1)) + 1 := by omega
  rw [e1, e2, List.replicate_succ, List.set_cons_zero, List.take_succ_eq_append_getElem h, List.map_append, List.append_assoc, List.getD_eq_getElem?_getD, List.getElem?_eq_getElem h]
  rfl
theorem cpTo_all (l : List ByteArray) : cpTo l l.length = l.map Value.string := by simp [cpTo]

set_option maxHeartbeats 2000000 in
/-- A copy of a slice of strings: a new row, the call's own. -/
theorem toStr (a : Option Addr) (cap : Nat) (l : List ByteArray) (w : World) (hl : l.length ≤ 1048576) (hrow : StrRow w a l) :
    Calls Try.prog 22 #[.slice a l.length cap] w fun e w' => (∃ g, e = .returned (.slice (some ⟨g, 0, none⟩) l.length l.length) ∧ w'.ownsRow w.heap.size 9 1 (.slice (some ⟨g, 0, none⟩) l.length l.length) l.length (l.map Value.string)) ∧ Below w.heap.size w w' := by
  obtain ⟨i0, hi, hz0, hz1, hz2⟩ := info_parts infoStr
  go_enter Try.func22, Try.ntmps22
  go_wp2_with (refine wpList_make_full _ rfl _ _ 23 rfl w.heap.size 9 i0 (.string ⟨#[]⟩) 1 Try.underlying23 hi hz0 hz1 .i64 .i64 _ _ l.length rfl rfl rfl rfl ?c1 ?c2 ?c3 ?_)
  case c1 => rw [hz2]; omega
  case c2 => unfold maxLen; omega
  case c3 => exact Nat.le_refl _
  intro w1 hown hg
  have hb1 : Below w.heap.size w w1 := (Below.refl _ w).grown hg (Nat.le_refl _) (fun k hk => by cases hk)
  have hown1 : w1.ownsRow w.heap.size 9 1 (.slice (some ⟨w.heap.size, 0, none⟩) l.length l.length) l.length (cpTo l 0) := by
    have e : (madeCells #[Value.string ⟨#[]⟩] l.length).toList = cpTo l 0 := by
      rw [toList_madeCells_one]; simp [cpTo]
    rw [e] at hown; exact hown
  clear hown hg
  go_wp2
  go_loopw [4] (fun i wr => ∃ k : Nat, k ≤ l.length ∧ i = .int .i64 k ∧ wr.ownsRow w.heap.size 9 1 (.slice (some ⟨w.heap.size, 0, none⟩) l.length l.length) l.length (cpTo l k) ∧ Below w.heap.size w wr) (fun i _ => l.length - (intOf i).toNat)
  case atStart => exact ⟨0, Nat.zero_le _, rfl, hown1, hb1⟩
  case round =>
    obtain ⟨k, hk, rfl, hown, hb⟩ := hrel
    by_cases hlt : k < l.length
    · rcases hrow with he | ⟨b, off, rfl, hbl, hc⟩
      · exfalso; rw [he] at hlt; simp at hlt
      · have hst := hown.stored k (.string (l.getD k ByteArray.empty))
        rw [cpTo_set l k hlt] at hst
        obtain ⟨x, hx⟩ : ∃ x, x = l.getD k ByteArray.empty := ⟨_, rfl⟩
        rw [← hx] at hst
        have hcx : wr.cell? ⟨b, off + k, none⟩ = some (.string x) := by rw [hx]; exact (hb.cell hbl).trans (hc k hlt)
        have hcy := hown.cellAt k (by omega)
        have hfr := hown.frozenAt k
        obtain ⟨u, hu⟩ : ∃ u, (cpTo l k)[k]? = some u := by
          refine ⟨_, List.getElem?_eq_getElem ?_⟩
          have : (cpTo l k).length = l.length := by simp [cpTo]; omega
          omega
        rw [hu] at hcy
        obtain ⟨ho2, hg2⟩ := hst
        have H2 := Lib.hid ho2
        have hb2 : Below w.heap.size w (wr.setCell ⟨w.heap.size, k, none⟩ (.string x)) := hb.setCell (p := ⟨w.heap.size, k, none⟩) (Nat.le_refl _) _
        clear hc hx hu ho2 hg2
        go_wp2
        go_roundw
        case rel => exact ⟨k + 1, by omega, by go_num, H2.out, hb2⟩
        case measure => simp [intOf]; omega
    · obtain rfl : k = l.length := by omega
      rw [cpTo_all] at hown
      go_wp2
      go_ret
      exact ⟨⟨_, rfl, hown⟩, hb⟩

theorem StrRow.of_own {w : World} {B g : Nat} {l : List ByteArray} (h : w.ownsRow B 9 1 (.slice (some ⟨g, 0, none⟩) l.length l.length) l.length (l.map Value.string)) : StrRow w (some ⟨g, 0, none⟩) l := by
  refine .inr ⟨g, 0, rfl, (h.lt g rfl).2, fun j hj => ?_⟩
  rw [Nat.zero_add, h.cellAt j (by omega)]
  simp [List.getElem?_eq_getElem hj]

set_option maxHeartbeats 2000000 in
/-- Two slices with the same strings are equal. -/
theorem eqStr_same (a b : Option Addr) (ca cb : Nat) (l : List ByteArray) (w : World) (hl : l.length ≤ maxLen) (ha : StrRow w a l) (hb : StrRow w b l) :
    Calls Try.prog 15 #[.slice a l.length ca, .slice b l.length cb] w fun e w' => e = .returned (.bool true) ∧ Below w.heap.size w w' := by
  unfold maxLen at hl
  go_enter Try.func15, Try.ntmps15
  go_wp2
  go_loopw [5] (fun i wr => ∃ k : Nat, k ≤ l.length ∧ i = .int .i64 k ∧ Below w.heap.size w wr) (fun i _ => l.length - (intOf i).toNat)
  case atStart => exact ⟨0, Nat.zero_le _, rfl, Below.refl _ _⟩
  case round =>
    obtain ⟨k, hk, rfl, hb1⟩ := hrel
    by_cases hlt : k < l.length
    · rcases ha with he | ⟨b1, o1, rfl, hl1, hc1⟩
      · exfalso; rw [he] at hlt; simp at hlt
      · rcases hb with he | ⟨b2, o2, rfl, hl2, hc2⟩
        · exfalso; rw [he] at hlt; simp at hlt
        · obtain ⟨x, hx⟩ : ∃ x, x = l.getD k ByteArray.empty := ⟨_, rfl⟩
          have hx1 : wr.cell? ⟨b1, o1 + k, none⟩ = some (.string x) := by rw [hx]; exact (hb1.cell hl1).trans (hc1 k hlt)
          have hx2 : wr.cell? ⟨b2, o2 + k, none⟩ = some (.string x) := by rw [hx]; exact (hb1.cell hl2).trans (hc2 k hlt)
          have hi0 : (0 : Int) ≤ (k : Int) ∧ (k : Int) < (l.length : Int) := by omega
          clear hc1 hc2 hx
          go_wp2
          go_quiet (fail)
          go_wp2
          exact ⟨⟨k + 1, by omega, by go_num, below_drewN hb1 _⟩, by simp [intOf]; omega⟩
    · obtain rfl : k = l.length := by omega
      go_wp2
      go_ret
      exact ⟨rfl, hb1⟩

/-- A slice of strings that came in. -/
theorem openStr {H : Type} {enc : TypeId × Value → H} {P : Program} {w : World} {base : Nat} {spare : Nat → Bool} {held : Bool} {t e : TypeId} {a : Option Addr} {len cap : Nat} {d : DataW H} {ps : List MemPlace}
    (ht : P.underlying t = some (.slice e)) (he : P.underlying e = some .string) (hc : P.cellsOf e = 1)
    (h : DataW.Trod enc P w base spare held t (.slice a len cap) d ps) : ∃ l : List ByteArray, len = l.length ∧ l.length ≤ maxLen ∧ StrRow w a l ∧ ∀ s ∈ l, s.size ≤ maxLen := by
  obtain ⟨fuel, hf⟩ := h
  rcases open_strings ht he hc hf with ⟨hcs, _⟩ | ⟨x, n, c, ss, hcs, _, hl, hm, hz, _, hcell, hss⟩
  · simp [Value.cells] at hcs
    obtain ⟨rfl, rfl, rfl⟩ := hcs
    exact ⟨[], rfl, by simp, .inl rfl, by simp⟩
  · simp [Value.cells] at hcs
    obtain ⟨rfl, rfl, rfl⟩ := hcs
    have hge : len ≤ ss.length := by rw [hz]; split <;> omega
    have hle : (ss.take len).length = len := by simp; omega
    refine ⟨ss.take len, hle.symm, by omega, ?_, fun s hs => hss s (List.mem_of_mem_take hs)⟩
    by_cases h0 : len = 0
    · subst h0; exact .inl rfl
    · obtain ⟨b, off, spot⟩ := x
      have hspot : spot = none := by simpa [Addr.add] using World.cell?_spot (hcell 0 (by omega))
      subst hspot
      have hb : b < w.heap.size := by
        have := hcell 0 (by omega)
        rcases Nat.lt_or_ge b w.heap.size with h' | h'
        · exact h'
        · simp [World.cell?, Addr.add, Array.getElem?_eq_none h'] at this
      refine .inr ⟨b, off, rfl, hb, fun j hj => ?_⟩
      have := hcell j (by omega)
      rw [show (ss.take len).getD j ByteArray.empty = ss.getD j ByteArray.empty by
        rw [List.getD_eq_getElem?_getD, List.getD_eq_getElem?_getD, List.getElem?_take, if_pos (by omega)]]
      by_cases hj0 : j = 0
      · subst hj0; simpa [Addr.add] using this
      · simpa [Addr.add, hj0] using this

theorem implJoin (y : ByteArray) (a : Option Addr) (cap : Nat) (l : List ByteArray) (w : World) (hl : l.length ≤ 8796093022208) (hrow : StrRow w a l) (hsz : (jnTo y l l.length).length ≤ 140737488355328) :
    Calls Try.prog 23 #[.slice a l.length cap, .string y] w fun e w' => e = .returned (.string ⟨(jnTo y l l.length).toArray⟩) ∧ Below w.heap.size w w' := by
  go_enter Try.func23, Try.ntmps23
  go_wp2_with fail
  refine (joinParts_any y a cap l w hl hrow hsz).mono ?_
  rintro e w' ⟨rfl, hb⟩
  go_wp2
  go_ret
  exact ⟨rfl, hb⟩

theorem jn_size (y : ByteArray) (l : List ByteArray) : ∀ k, ((jnTo y l k).length : Int) ≤ (k * y.size : Nat) + szTo l k
  | 0 => by simp [jnTo, szTo]
  | k + 1 => by
    have ih := jn_size y l k
    have hp := szTo_pos l k
    by_cases hk : k = 0
    · subst hk
      rw [jn_one]
      simp only [szTo]
      rw [← Lib.size_eq]
      omega
    · rw [jn_more _ _ _ hk]
      simp only [szTo, List.length_append]
      rw [← Lib.size_eq, ← Lib.size_eq, Nat.succ_mul]
      omega

set_option maxHeartbeats 4000000 in
theorem walkJoin (a : Option Addr) (cap : Nat) (l : List ByteArray) (y : ByteArray) (w : World) (hl : l.length ≤ maxLen) (hrow : StrRow w a l) (hss : ∀ s ∈ l, s.size ≤ maxLen) (hy : y.size ≤ maxLen) :
    Calls Try.prog 7 #[.slice a l.length cap, .string y] w fun e w' => e = .returned (.bool true) ∧ Below w.heap.size w w' := by
  by_cases hbig : (1048576 : Int) < (y.size : Int)
  · unfold maxLen at hy
    go_enter Try.func7, Try.ntmps7
    go_wp2
    go_ret
    exact ⟨rfl, Below.refl _ _⟩
  · have H1 := Lib.hid hl
    have H2 := Lib.hid hss
    by_cases hneg : szR l < 0
    · unfold maxLen at hl hy
      clear hss
      go_enter Try.func7, Try.ntmps7
      go_wp2_with fail
      refine (szStr a cap l w H1.out hrow H2.out).mono ?_
      rintro e w' ⟨rfl, rfl⟩
      go_wp2
      go_ret
      exact ⟨rfl, Below.refl _ _⟩
    · have hp := szTo_pos l l.length
      have hle : l.length + szTo l l.length ≤ 1048576 := by
        unfold szR at hneg; split at hneg
        · omega
        · omega
      have hjn : (jnTo y l l.length).length ≤ 140737488355328 := by
        have h1 := jn_size y l l.length
        have h2 : l.length * y.size ≤ 1048576 * 1048576 := Nat.mul_le_mul (by omega) (by omega)
        omega
      have hl20 : l.length ≤ 1048576 := by omega
      have hl43 : l.length ≤ 8796093022208 := by omega
      clear hp hle hss hl hy
      go_enter Try.func7, Try.ntmps7
      go_wp2_with fail
      refine (szStr a cap l w H1.out hrow H2.out).mono ?_
      rintro e w' ⟨rfl, rfl⟩
      go_wp2_with fail
      refine (toStr a cap l w hl20 hrow).mono ?_
      rintro e w1 ⟨⟨g1, rfl, ho1⟩, hb1⟩
      go_wp2_with fail
      refine (specJoin y _ _ l w1 hl43 (StrRow.of_own ho1) hjn).mono ?_
      rintro e w' ⟨rfl, rfl⟩
      clear ho1
      have hrow1 := hrow.below hb1
      go_wp2_with fail
      refine (toStr a cap l w1 hl20 hrow1).mono ?_
      rintro e w2 ⟨⟨g2, rfl, ho2⟩, hb2⟩
      have hrow2 := hrow1.below hb2
      have hx2 := StrRow.of_own ho2
      clear ho2
      go_wp2_with fail
      refine (implJoin y _ _ l w2 hl43 hx2 hjn).mono ?_
      rintro e w3 ⟨rfl, hb3⟩
      have hrow3 := hrow2.below hb3
      have hx3 := hx2.below hb3
      go_wp2_with fail
      refine (toStr a cap l w3 hl20 hrow3).mono ?_
      rintro e w4 ⟨⟨g4, rfl, ho4⟩, hb4⟩
      have hx4 := hx3.below hb4
      have hz4 := StrRow.of_own ho4
      clear ho4
      go_wp2_with fail
      refine (eqStr_same _ _ _ _ l w4 H1.out hx4 hz4).mono ?_
      rintro e w5 ⟨rfl, hb5⟩
      go_wp2
      go_ret
      refine ⟨rfl, ?_⟩
      have b2 := hb1.trans (hb2.mono hb1.size)
      have b3 := b2.trans (hb3.mono b2.size)
      have b4 := b3.trans (hb4.mono b3.size)
      exact b4.trans (hb5.mono b4.size)
end Go.Proofs.Ytocjbllblggplaa
namespace Go.Proofs.Ytocjbllblggplaa.fnExactJoin
open Go.ChangeShapes Go.WideShapes Go.ChangeAt Go.RowKit
open Go.ChangeMaps (open_string shut_string)
set_option linter.unusedVariables false
set_option maxRecDepth 100000 in
theorem lifted (os : Os) (started : os.Started) (H : Type) (enc : TypeId × Value → H) :
    ReturnsInHanded {} Try.checked os 7 .any (Rows.fnExactJoinSpec.pre6 enc Try.prog Try.f7 Rows.fnExactJoinRow.domain false) (Rows.fnExactJoinSpec.post enc Try.prog Try.f7 false true false false) := by
  refine returnsInHanded_of_change (C := Try.checked) own started (by kernel_rfl) Try.func7
    (ChangeSpec.witness6 (enc := enc) (C := Try.checked) false ⟨#[], #[.slice none 0 0, .string ⟨#[]⟩], []⟩ 8 (by kernel_rfl) (by kernel_rfl) (by kernel_rfl) (by kernel_rfl)) ?_
  intro W base args ds gs before hval0 hW hcnd _
  have hval : ∀ (j : Nat) t v, Try.f7.params[j]? = some t → args[j]? = some v → Value.okWide Try.prog W .any base t v := hval0
  have hW' := hW
  obtain ⟨p, q, hA0, hV, rfl, hfz, hnd⟩ := hW
  have hA : DataW.TrodAll enc Try.prog W 0 (fun _ => true) true Try.f7.params.toList args.toList ds p := hA0
  rw [Try.params7] at hA hval
  obtain ⟨v0, vs0, d0, ds0, p0, q0, hargs, rfl, rfl, h0, r0⟩ := trodAll_cons hA
  obtain ⟨v1, vs1, d1, ds1, p1, q1, rfl, rfl, rfl, h1, r1⟩ := trodAll_cons r0
  obtain ⟨rfl, rfl, rfl⟩ := trodAll_nil r1
  obtain rfl : args = #[v0, v1] := by cases args; simp_all
  obtain ⟨rfl, rfl⟩ := trodVars_none hV
  obtain ⟨a0, len0, cap0, rfl⟩ := okWide_slice Try.underlying23 (hval 0 23 v0 rfl rfl)
  have k0 := h0
  have lt0 : ∀ x ∈ p0, x.block < W.heap.size := by obtain ⟨m, hm⟩ := k0; exact DataW.trod_lt m _ _ _ hm
  obtain ⟨l0, rfl, hs0⟩ := openStr Try.underlying23 Try.underlying9 (by kernel_rfl) h0
  obtain ⟨s1, rfl, rfl, rfl, hs1⟩ := open_string Try.underlying9 (hval 1 9 v1 rfl rfl) h1
  clear hA0 hval0
  refine (walkJoin a0 cap0 l0 s1 W hs0.1 hs0.2.1 hs0.2.2 hs1).mono fun e W' ⟨he, bel⟩ => ?_
  subst he
  exact ⟨_, rfl, _, _, _, [], _, [], hW', trodAll_mk1 (shut_bool Try.underlying4 _), (trodAll_cons_mk (Below.trod laidOut (by kernel_rfl) (of_decide_eq_true (by kernel_rfl)) k0 bel lt0) (trodAll_cons_mk (shut_string Try.underlying9 hs1) trodAll_mk0)), rfl, bel.frame _, fun h => by cases h⟩

theorem proved : Rows.FnExactJoinSaid :=
  OpenClaim.holds_of_wide 7 Try.f7 rfl rfl rfl rfl rfl rfl rfl ⟨rfl, rfl, rfl, rfl, rfl⟩ rfl rfl rfl rfl rfl (by kernel_rfl) Try.func7 (by kernel_rfl)
    (of_decide_eq_true (by kernel_rfl)) (by unfold Func.isWrapper; first | (rw [if_pos (by decide +kernel)]; kernel_rfl) | (rw [if_neg (by decide +kernel)]; exact ⟨rfl, rfl⟩))
    (fun os started H enc _ => lifted os started H enc)
end Go.Proofs.Ytocjbllblggplaa.fnExactJoin
