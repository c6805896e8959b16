/-
  'CountKings' of the model. No conditions.
-/
import Derived.Test.YtgjogbihadiojaaUq
import Derived.Test.YtgjogbihadiojaaV5C
import Derived.Test.YtgjogbihadiojaaU4
namespace Go.Proofs.Ytgjogbihadiojaa
open Go.ChangeShapes Go.WideShapes Go.ChangeAt Go.RowKit
set_option linter.unusedVariables false

theorem l02Of_tour (N b : Nat) (w : World) (h1 : 1 ≤ N) (h8 : N ≤ 8) (hb2 : b < 2 ^ 62) :
    Calls Try.prog 104 #[.int .i64 N, .int .i64 (b : Int)] w fun e w' => (∃ g, e = .returned (.agg #[.int .i64 N, .slice (some ⟨g, 0, none⟩) N N]) ∧ IntRow w' (some ⟨g, 0, none⟩) ((tourL N b).map Int.ofNat)) ∧ Below w.heap.size w w' := by
  have hk := tourL_ok N b h1 h8
  refine (l02Of_text _ N b w h8 hb2 (tourL_text N b h1 h8)).mono ?_
  rintro e w' ⟨⟨g, ys, rfl, hys, ho⟩, hb⟩
  have hN : ((tourL N b).map Int.ofNat).length = N := by simp [tourL_len]
  have e := hys _ (text_L hk)
  have h2 := tellL_end hk
  rw [hN] at h2
  rw [e, nv_iv, h2] at ho
  exact ⟨⟨g, rfl, IntRow.of_ownN ho hN⟩, hb⟩

set_option maxHeartbeats 2000000 in
theorem specCountKings (n k : Int) (w : World) :
    Calls Try.prog 53 #[.int .i64 n, .int .i64 k] w fun e w' => e = .returned (.int .i64 (cntR n k)) ∧ Below w.heap.size w w' := by
  cases h15 : (decide (1 ≤ n) && decide (n ≤ 5))
  · have HE : Hid (cntR n k = -1) := cntR_no (by intro h; simp at h15; omega)
    have HS := Lib.hid h15
    clear h15
    go_enter Try.func53, Try.ntmps53
    go_wp2_with fail
    refine (l01In_any n 1 5 _).mono ?_
    rintro e w' ⟨rfl, rfl⟩
    rw [HS.out]
    go_wp2
    go_ret
    exact ⟨by rw [HE.out]; rfl, Below.refl _ _⟩
  have HS := Lib.hid h15
  have h15b : 1 ≤ n ∧ n ≤ 5 := by simpa using h15
  cases hkn : (decide (0 ≤ k) && decide (k ≤ n))
  · have HE : Hid (cntR n k = -1) := cntR_no (by intro h; simp at hkn; omega)
    have HK := Lib.hid hkn
    clear h15 hkn
    go_enter Try.func53, Try.ntmps53
    go_wp2_with fail
    refine (l01In_any n 1 5 _).mono ?_
    rintro e w' ⟨rfl, rfl⟩
    rw [HS.out]
    go_wp2_with fail
    refine (l01In_any k 0 n _).mono ?_
    rintro e w' ⟨rfl, rfl⟩
    rw [HK.out]
    go_wp2
    go_ret
    exact ⟨by rw [HE.out]; rfl, Below.refl _ _⟩
  have HK := Lib.hid hkn
  have hkn2 : 0 ≤ k ∧ k ≤ n := by simpa using hkn
  obtain ⟨m, rfl⟩ : ∃ m : Nat, n = m := ⟨n.toNat, by omega⟩
  obtain ⟨j, rfl⟩ : ∃ j : Nat, k = j := ⟨k.toNat, by omega⟩
  have hm1 : 1 ≤ m := by omega
  have hm5 : m ≤ 5 := by omega
  obtain ⟨P, hP⟩ : ∃ P, P = 2 ^ Tmpm.prN m := ⟨_, rfl⟩
  have hP10 : P ≤ 1024 := by
    rw [hP]
    have : ∀ m : Fin 6, 2 ^ Tmpm.prN m.val ≤ 1024 := by decide +kernel
    exact this ⟨m, by omega⟩
  obtain ⟨pr, hpr⟩ : ∃ pr : Nat → Bool, pr = fun c => kc m (tourL m c) == j := ⟨_, rfl⟩
  have HPQ : Hid (∀ c, (((kc m (tourL m c) : Nat) : Int) == (j : Int)) = pr c) := fun c => by rw [hpr, Bool.eq_iff_iff, beq_iff_eq, beq_iff_eq]; omega
  have HE : Hid (cntR m j = ((Kk.cn pr P : Nat) : Int)) := by show _ = _; rw [cntR_yes hm1 hm5 (by omega), hpr, hP]; rfl
  have hw := (wrapPow10 _ (prN_le hm5)).1
  have hw1 : wrap64 ((m : Int) * ((m : Int) - 1)) = ((m * (m - 1) : Nat) : Int) := by
    have : ∀ x : Fin 6, 1 ≤ x.val → wrap64 ((x.val : Int) * ((x.val : Int) - 1)) = ((x.val * (x.val - 1) : Nat) : Int) := by decide +kernel
    exact this ⟨m, by omega⟩ hm1
  have hw2 : ((m * (m - 1) : Nat) : Int).tdiv 2 = ((Tmpm.prN m : Nat) : Int) := by
    have : ∀ x : Fin 6, 1 ≤ x.val → ((x.val * (x.val - 1) : Nat) : Int).tdiv 2 = ((Tmpm.prN x.val : Nat) : Int) := by decide +kernel
    exact this ⟨m, by omega⟩ hm1
  rw [← hP] at hw
  obtain ⟨pn, hpn⟩ : ∃ pn, pn = Tmpm.prN m := ⟨_, rfl⟩
  obtain ⟨mm, hmm⟩ : ∃ mm, mm = m * (m - 1) := ⟨_, rfl⟩
  rw [← hpn] at hw hw2
  rw [← hmm] at hw1 hw2
  have hmm20 : mm ≤ 20 := by
    rw [hmm]
    have : ∀ x : Fin 6, x.val * (x.val - 1) ≤ 20 := by decide +kernel
    exact this ⟨m, by omega⟩
  have hpn10 : pn ≤ 10 := by rw [hpn]; exact prN_le hm5
  have HT : Hid (∀ W c, c < P → Calls Try.prog 104 #[.int .i64 (m : Int), .int .i64 (c : Int)] W fun e w' => (∃ g, e = .returned (.agg #[.int .i64 (m : Int), .slice (some ⟨g, 0, none⟩) m m]) ∧ IntRow w' (some ⟨g, 0, none⟩) ((tourL m c).map Int.ofNat)) ∧ Below W.heap.size W w') := fun W c hc => l02Of_tour m c W hm1 (by omega) (by omega)
  have HKG : Hid (∀ (W : World) c g, IntRow W (some ⟨g, 0, none⟩) ((tourL m c).map Int.ofNat) → ∃ x : Nat, x < 256 ∧ pc x = kc m (tourL m c) ∧ Calls Try.prog 94 #[.agg #[.int .i64 (m : Int), .slice (some ⟨g, 0, none⟩) m m]] W fun e w' => e = .returned (.int .i64 (x : Int)) ∧ Below W.heap.size W w') := by
    intro W c g hr
    have hok := tourL_ok m c hm1 (by omega)
    have hlen : ((tourL m c).map Int.ofNat).length = m := by simp [tourL_len]
    have h := l07Kings_any _ (some ⟨g, 0, none⟩) _ m W hr hok
    rw [hlen] at h
    refine ⟨_, kings_lt _ _ m (Nat.le_refl _) (by omega), ?_, h⟩
    have := pc_kings (f := ww ((tourL m c).map Int.ofNat)) (m := m) (by omega)
    unfold Kk.kings at this
    rw [this, kc_map]
  clear h15 hkn hpr hP hpn hmm
  go_enter Try.func53, Try.ntmps53
  go_wp2_with fail
  refine (l01In_any _ 1 5 _).mono ?_
  rintro e w' ⟨rfl, rfl⟩
  rw [HS.out]
  go_wp2_with fail
  refine (l01In_any _ 0 _ _).mono ?_
  rintro e w' ⟨rfl, rfl⟩
  rw [HK.out]
  go_wp2
  go_loopw [5, 6] (fun s i wr => ∃ c q : Nat, c ≤ P ∧ i = .int .i64 (c : Int) ∧ s = .int .i64 (q : Int) ∧ q ≤ c ∧ Hid (q = Kk.cn pr c) ∧ Below w.heap.size w wr) (fun _ i _ => P - (intOf i).toNat)
  case atStart => exact ⟨0, 0, Nat.zero_le _, rfl, rfl, Nat.le_refl _, rfl, Below.refl _ _⟩
  case round =>
    obtain ⟨c, q, hc, rfl, rfl, hqc, hq, hb⟩ := hrel
    by_cases hlt : c < P
    · have hcb : (c : Int) < (P : Int) := by omega
      go_wp2_with fail
      refine (HT.out _ c hlt).mono ?_
      rintro e w2 ⟨⟨g, rfl, hr2⟩, hb2⟩
      obtain ⟨x, hx8, hxp, hcall⟩ := HKG.out w2 c g hr2
      have HCL := Lib.hid hcall
      have b2 := hb.trans (hb2.mono hb.size)
      have HPX : Hid (((pc x : Nat) : Int) = ((kc m (tourL m c) : Nat) : Int)) := by show _ = _; rw [hxp]
      clear hcall hxp hb2 hb
      go_wp2_with fail
      refine HCL.out.mono ?_
      rintro e w3 ⟨rfl, hb3⟩
      have b3 := b2.trans (hb3.mono b2.size)
      cases hp : pr c
      · have hn : Hid (q = Kk.cn pr (c + 1)) := by show _ = _; simp only [Kk.cn]; rw [hp, hq.out]; rfl
        have hbe : (((pc x : Nat) : Int) == (j : Int)) = false := by rw [HPX.out, HPQ.out c, hp]
        clear hp hq
        go_wp2_with fail
        refine (l02Bits_any x hx8 _).mono ?_
        rintro e w' ⟨rfl, rfl⟩
        go_wp2
        go_roundw
        case rel => exact ⟨c + 1, q, by omega, by go_num, rfl, by omega, hn, b3⟩
        case measure => simp [intOf]; omega
      · have hn : Hid (q + 1 = Kk.cn pr (c + 1)) := by show _ = _; simp only [Kk.cn]; rw [hp, hq.out]; rfl
        have hbe : (((pc x : Nat) : Int) == (j : Int)) = true := by rw [HPX.out, HPQ.out c, hp]
        clear hp hq
        go_wp2_with fail
        refine (l02Bits_any x hx8 _).mono ?_
        rintro e w' ⟨rfl, rfl⟩
        go_wp2
        go_roundw
        case rel => exact ⟨c + 1, q + 1, by omega, by go_num, by go_num, by omega, hn, b3⟩
        case measure => simp [intOf]; omega
    · obtain rfl : c = P := by omega
      go_wp2
      go_ret
      exact ⟨by rw [HE.out, ← hq.out]; rfl, hb⟩
end Go.Proofs.Ytgjogbihadiojaa
