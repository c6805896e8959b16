/-
  'FnExactPadZeros': the program's PadZeros answers as the model's, for every string and every int. No conditions.
-/
import Derived.Test.YtocjbllblggplaaL
namespace Go.Proofs.Ytocjbllblggplaa
open Go.ChangeShapes Go.WideShapes Go.ChangeAt Go.RowKit
open Go.ChangeMaps (open_string shut_string)
set_option linter.unusedVariables false

/-- What both 'PadZeros' answer. -/
def padL (s : ByteArray) (n : Int) : List UInt8 := (if (s.size : Int) < n ∧ n ≤ 2000 then zer (n - s.size).toNat else []) ++ s.data.toList
theorem padL_no {s : ByteArray} {n : Int} (h : ¬ ((s.size : Int) < n ∧ n ≤ 2000)) : (⟨(padL s n).toArray⟩ : ByteArray) = s := by
  unfold padL; rw [if_neg h, List.nil_append]

set_option maxHeartbeats 1000000 in
set_option maxRecDepth 1000000 in
theorem repeatOne (w : World) :
    Calls Try.prog 33 #[.string ⟨#[48]⟩, .int .i64 1] w fun e w' => e = .returned (.string ⟨(zer 1).toArray⟩) ∧ Below w.heap.size w w' := by
  go_enter Try.func33, Try.ntmps33
  go_wp2
  go_ret
  exact ⟨rfl, Below.refl _ _⟩
theorem repeatAny (m : Nat) (w : World) (h1 : 1 ≤ m) (h2 : m ≤ 2000) :
    Calls Try.prog 33 #[.string ⟨#[48]⟩, .int .i64 m] w fun e w' => e = .returned (.string ⟨(zer m).toArray⟩) ∧ Below w.heap.size w w' := by
  by_cases h : m = 1
  · subst h; exact repeatOne w
  · exact repeatZeros m w (by omega) h2

set_option maxHeartbeats 1000000 in
theorem specPadZeros (s : ByteArray) (n : Int) (w : World) (hs : s.size ≤ 1048576) (hn : -9223372036854775808 ≤ n) (hn2 : n ≤ 9223372036854775807) :
    Calls Try.prog 24 #[.string s, .int .i64 n] w fun e w' => e = .returned (.string ⟨(padL s n).toArray⟩) ∧ w = w' := by
  by_cases hbig : 2000 < n
  · have hE := Lib.hid (padL_no (s := s) (n := n) (by omega))
    go_enter Try.func24, Try.ntmps24
    go_wp2
    go_ret
    exact ⟨by rw [hE.out]; rfl, rfl⟩
  · go_enter Try.func24, Try.ntmps24
    go_wp2
    go_loop [0] (fun t => ∃ (k : Nat) (A : ByteArray), t = .string A ∧ A.size = k + s.size ∧ (k = 0 ∨ (k : Int) + s.size ≤ n) ∧ Hid (A.data.toList = zer k ++ s.data.toList)) (fun t => match t with | .string A => (n - A.size).toNat | _ => 0)
    case atStart => exact ⟨0, _, rfl, by omega, .inl rfl, rfl⟩
    case round =>
      obtain ⟨k, A, rfl, hAz, hkn, hA⟩ := hrel
      have HZ := Lib.hid hAz
      by_cases hlt : (A.size : Int) < n
      · have hA1 : Hid ((⟨#[48]⟩ ++ A : ByteArray).data.toList = zer (k + 1) ++ s.data.toList) := by
          show _ = _
          rw [data_append, hA.out, Nat.add_comm k 1, ← zer_add, List.append_assoc]; rfl
        have hz1 : Hid ((⟨#[48]⟩ ++ A : ByteArray).size = k + 1 + s.size) := by
          show _ = _
          rw [ByteArray.size_append, hAz]; show 1 + _ = _; omega
        have hle : A.size ≤ 2000 := by omega
        have hk1 : (k : Int) + 1 + s.size ≤ n := by omega
        have hfit : ¬ 9223372036854775807 < (⟨#[48]⟩ : ByteArray).size + A.size := by show ¬ _ < 1 + _; omega
        clear hAz
        go_wp2
        refine ⟨⟨k + 1, _, rfl, hz1.out, .inr (by omega), hA1⟩, ?_⟩
        show (n - ((⟨#[48]⟩ ++ A : ByteArray).size : Int)).toNat < (n - (A.size : Int)).toNat
        have e1 := hz1.out
        have e2 := HZ.out
        omega
      · have hE : Hid (A = ⟨(padL s n).toArray⟩) := by
          refine of_data ?_
          rw [hA.out]
          unfold padL
          by_cases hc : (s.size : Int) < n ∧ n ≤ 2000
          · rw [if_pos hc]; congr 2; omega
          · rw [if_neg hc]
            have : k = 0 := by omega
            subst this; rfl
        clear hAz
        go_wp2
        go_ret
        exact ⟨by rw [← hE.out]; rfl, rfl⟩

theorem pair_row (w : World) (z s : ByteArray) : StrRow (w.alloc (.cells #[.string z, .string s] 9)) (some ⟨w.heap.size, 0, none⟩) [z, s] := by
  refine .inr ⟨w.heap.size, 0, rfl, by simp, fun j hj => ?_⟩
  rw [cell_of_row _ _ _ _ _ _ (heap_alloc_new w _)]
  match j, hj with
  | 0, _ => rfl
  | 1, _ => rfl
theorem jn_pair (z s : ByteArray) : jnTo ⟨#[]⟩ [z, s] [z, s].length = z.data.toList ++ s.data.toList := by
  show jnTo ⟨#[]⟩ [z, s] (1 + 1) = _
  rw [jn_more _ _ _ (by decide), jn_one]
  show z.data.toList ++ [] ++ s.data.toList = _
  rw [List.append_nil]

set_option maxHeartbeats 1000000 in
theorem implPadZeros (s : ByteArray) (n : Int) (w : World) (hs : s.size ≤ 1048576) (hn : -9223372036854775808 ≤ n) (hn2 : n ≤ 9223372036854775807) :
    Calls Try.prog 25 #[.string s, .int .i64 n] w fun e w' => e = .returned (.string ⟨(padL s n).toArray⟩) ∧ Below w.heap.size w w' := by
  by_cases hc : (s.size : Int) < n ∧ n ≤ 2000
  · obtain ⟨hc1, hc2⟩ := hc
    obtain ⟨m, hm⟩ : ∃ m : Nat, m = (n - s.size).toNat := ⟨_, rfl⟩
    have hmi : n - (s.size : Int) = (m : Int) := by omega
    have hE : Hid (padL s n = zer m ++ s.data.toList) := by
      show _ = _
      unfold padL; rw [if_pos ⟨hc1, hc2⟩, ← hm]
    have HM := Lib.hid hmi
    have hm1 : 1 ≤ m := by omega
    have hm2 : m ≤ 2000 := by omega
    clear hm hmi
    go_enter Try.func25, Try.ntmps25
    go_wp2_with fail
    rw [HM.out]
    refine (repeatAny m w hm1 hm2).mono ?_
    rintro e w1 ⟨rfl, hb1⟩
    go_wp2_with fail
    have hj := joinParts_any ⟨#[]⟩ (some ⟨w1.heap.size, 0, none⟩) 2 [⟨(zer m).toArray⟩, s] (w1.alloc (.cells #[.string ⟨(zer m).toArray⟩, .string s] 9)) (by simp) (pair_row w1 _ s) (by rw [jn_pair]; simp [zer]; have := hs; rw [Lib.size_eq] at this; simp at this; omega)
    refine hj.mono ?_
    rintro e w2 ⟨rfl, hb2⟩
    rw [jn_pair]
    have hb3 : Below w.heap.size w w2 := (hb1.alloc hb1.size _).trans (hb2.mono (by have := hb1.size; simp; omega))
    go_wp2
    go_ret
    exact ⟨by rw [hE.out]; rfl, hb3⟩
  · have hE : Hid (padL s n = s.data.toList) := by
      show _ = _
      unfold padL; rw [if_neg hc]; rfl
    have hj := joinParts_any ⟨#[]⟩ (some ⟨w.heap.size, 0, none⟩) 2 [⟨#[]⟩, s] (w.alloc (.cells #[.string ⟨#[]⟩, .string s] 9)) (by simp) (pair_row w _ s) (by rw [jn_pair]; simp; have := hs; rw [Lib.size_eq] at this; simp at this; omega)
    have HJ := Lib.hid hj
    clear hj
    by_cases hc1 : (s.size : Int) < n
    · have hc2 : ¬ n ≤ 2000 := fun h => hc ⟨hc1, h⟩
      clear hc
      go_enter Try.func25, Try.ntmps25
      go_wp2_with fail
      refine HJ.out.mono ?_
      rintro e w2 ⟨rfl, hb2⟩
      rw [jn_pair]
      have hb3 : Below w.heap.size w w2 := ((Below.refl _ w).alloc (Nat.le_refl _) _).trans (hb2.mono (by simp))
      clear HJ
      go_wp2
      go_ret
      exact ⟨by rw [hE.out]; rfl, hb3⟩
    · clear hc
      go_enter Try.func25, Try.ntmps25
      go_wp2_with fail
      refine HJ.out.mono ?_
      rintro e w2 ⟨rfl, hb2⟩
      rw [jn_pair]
      have hb3 : Below w.heap.size w w2 := ((Below.refl _ w).alloc (Nat.le_refl _) _).trans (hb2.mono (by simp))
      clear HJ
      go_wp2
      go_ret
      exact ⟨by rw [hE.out]; rfl, hb3⟩

set_option maxHeartbeats 1000000 in
theorem walkPadZeros (s : ByteArray) (n : Int) (w : World) (hs : s.size ≤ maxLen) (hn : (Lit.int .i64 n).wf = true) :
    Calls Try.prog 8 #[.string s, .int .i64 n] w fun e w' => e = .returned (.bool true) ∧ Below w.heap.size w w' := by
  have hx : -9223372036854775808 ≤ n ∧ n ≤ 9223372036854775807 := by
    simpa [Lit.wf, IntKind.min, IntKind.max, IntKind.signed, IntKind.bits] using hn
  obtain ⟨hx1, hx2⟩ := hx
  clear hn
  by_cases hbig : (1048576 : Int) < (s.size : Int)
  · unfold maxLen at hs
    go_enter Try.func8, Try.ntmps8
    go_wp2
    go_ret
    exact ⟨rfl, Below.refl _ _⟩
  · have hs20 : s.size ≤ 1048576 := by omega
    unfold maxLen at hs
    go_enter Try.func8, Try.ntmps8
    go_wp2_with fail
    refine (specPadZeros s n _ hs20 hx1 hx2).mono ?_
    rintro e w' ⟨rfl, rfl⟩
    go_wp2_with fail
    refine (implPadZeros s n _ hs20 hx1 hx2).mono ?_
    rintro e w' ⟨rfl, hb⟩
    go_wp2
    go_ret
    exact ⟨rfl, hb⟩
end Go.Proofs.Ytocjbllblggplaa
namespace Go.Proofs.Ytocjbllblggplaa.fnExactPadZeros
open Go.ChangeShapes Go.WideShapes Go.ChangeAt Go.RowKit
open Go.ChangeMaps (open_string shut_string)
set_option linter.unusedVariables false
set_option maxRecDepth 100000 in
theorem lifted (os : Os) (started : os.Started) (H : Type) (enc : TypeId × Value → H) :
    ReturnsInHanded {} Try.checked os 8 .any (Rows.fnExactPadZerosSpec.pre6 enc Try.prog Try.f8 Rows.fnExactPadZerosRow.domain false) (Rows.fnExactPadZerosSpec.post enc Try.prog Try.f8 false true false false) := by
  refine returnsInHanded_of_change (C := Try.checked) own started (by kernel_rfl) Try.func8
    (ChangeSpec.witness6 (enc := enc) (C := Try.checked) false ⟨#[], #[.string ⟨#[]⟩, .int .i64 0], []⟩ 8 (by kernel_rfl) (by kernel_rfl) (by kernel_rfl) (by kernel_rfl)) ?_
  intro W base args ds gs before hval0 hW hcnd _
  have hval : ∀ (j : Nat) t v, Try.f8.params[j]? = some t → args[j]? = some v → Value.okWide Try.prog W .any base t v := hval0
  have hW' := hW
  obtain ⟨p, q, hA0, hV, rfl, hfz, hnd⟩ := hW
  have hA : DataW.TrodAll enc Try.prog W 0 (fun _ => true) true Try.f8.params.toList args.toList ds p := hA0
  rw [Try.params8] at hA hval
  obtain ⟨v0, vs0, d0, ds0, p0, q0, hargs, rfl, rfl, h0, r0⟩ := trodAll_cons hA
  obtain ⟨v1, vs1, d1, ds1, p1, q1, rfl, rfl, rfl, h1, r1⟩ := trodAll_cons r0
  obtain ⟨rfl, rfl, rfl⟩ := trodAll_nil r1
  obtain rfl : args = #[v0, v1] := by cases args; simp_all
  obtain ⟨rfl, rfl⟩ := trodVars_none hV
  obtain ⟨s0, rfl, rfl, rfl, hs0⟩ := open_string Try.underlying9 (hval 0 9 v0 rfl rfl) h0
  obtain ⟨a1, rfl, rfl, rfl, hs1⟩ := open_int Try.underlying3 (hval 1 3 v1 rfl rfl) h1
  clear hA0 hval0
  refine (walkPadZeros s0 a1 W hs0 hs1).mono fun e W' ⟨he, bel⟩ => ?_
  subst he
  exact ⟨_, rfl, _, _, _, [], _, [], hW', trodAll_mk1 (shut_bool Try.underlying4 _), (trodAll_cons_mk (shut_string Try.underlying9 hs0) (trodAll_cons_mk (shut_int Try.underlying3 hs1) trodAll_mk0)), rfl, bel.frame _, fun h => by cases h⟩

theorem proved : Rows.FnExactPadZerosSaid :=
  OpenClaim.holds_of_wide 8 Try.f8 rfl rfl rfl rfl rfl rfl rfl ⟨rfl, rfl, rfl, rfl, rfl⟩ rfl rfl rfl rfl rfl (by kernel_rfl) Try.func8 (by kernel_rfl)
    (of_decide_eq_true (by kernel_rfl)) (by unfold Func.isWrapper; first | (rw [if_pos (by decide +kernel)]; kernel_rfl) | (rw [if_neg (by decide +kernel)]; exact ⟨rfl, rfl⟩))
    (fun os started H enc _ => lifted os started H enc)
end Go.Proofs.Ytocjbllblggplaa.fnExactPadZeros
