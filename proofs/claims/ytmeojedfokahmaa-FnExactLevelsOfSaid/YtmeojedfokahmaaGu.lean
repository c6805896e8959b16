/-
  The library's sort that keeps equals in order ('stableCmpFunc', 'SortStableFunc'), walked: at most forty places.
-/
import Derived.Test.YtmeojedfokahmaaGt
namespace Go.Proofs.Ytmeojedfokahmaa
open Go.ChangeShapes Go.WideShapes Go.ChangeAt Go.RowKit Go.Sort Go.Shelf Go.Lib
set_option linter.unusedVariables false

set_option maxHeartbeats 4000000 in
set_option maxRecDepth 1000000 in
theorem stable_any (n : Nat) (g : Nat) (cb : Array Value) (cf : Nat → Nat → Int) (lt' : Nat → Nat → Bool) (hS : SWO lt') (eg : ∀ args w, (callFunc g args).run Try.prog w = .ok (.enter g args) w)
    (blk off cap : Nat) (d : Array Nat) (w : World) (hcmp : CmpLays1 Try.prog g cb (encM n) cf blk off d.size w) (R : Row1 (encM n) w blk off d) (h40 : d.size ≤ 40) (h : ∀ p q, p < q → q < d.size → ltOf cf d[q]! d[p]! = lt' d[q]! d[p]!) :
    Calls Try.prog 125 #[.slice (some ⟨blk, off, none⟩) d.size cap, .int .i64 d.size, .func (.func g) #[] cb] w fun e w' => e = .returned (.tuple #[]) ∧ ∃ d', PermIn 0 d.size d d' ∧ Gm.Up (leO lt') d' 0 d.size ∧ SW (encM n) w blk off d' w' := by
  have HIn : Hid (∀ (a b : Nat) (dk : Array Nat) (W : World), dk.size = d.size → a ≤ b → b ≤ d.size → SW (encM n) w blk off dk W → Calls Try.prog 138 #[.slice (some ⟨blk, off, none⟩) d.size cap, .int .i64 a, .int .i64 b, .func (.func g) #[] cb] W fun e w' => e = .returned (.tuple #[]) ∧ SW (encM n) w blk off (insertionSort (ltOf cf) dk a b) w') := by
    intro a b dk W hk hab hb hS
    have := Try.insertionSortCmpFunc_s (encM n) cf g cb blk off cap a b d dk w W eg hcmp R hk.symm hS hab (by omega) (by omega)
    rw [hk] at this
    exact this
  have HMg : Hid (∀ (m : Nat) (dk : Array Nat) (W : World), dk.size = d.size → 0 < m → m < d.size → SW (encM n) w blk off dk W → Gm.Pre (leO lt') (cq cf) dk 0 m d.size → Calls Try.prog 139 #[.slice (some ⟨blk, off, none⟩) d.size cap, .int .i64 (0 : Nat), .int .i64 m, .int .i64 d.size, .func (.func g) #[] cb] W fun e w' => e = .returned (.tuple #[]) ∧ ∃ d', PermIn 0 d.size dk d' ∧ Gm.Up (leO lt') d' 0 d.size ∧ SW (encM n) w blk off d' w') :=
    fun m dk W hk h0 hm hSW hP => symMerge_any n g cb cf (leO lt') (leO_trans hS) (leO_total hS) eg blk off cap d w hcmp R (by omega) d.size 0 m d.size dk W (by omega) h0 hm (Nat.le_refl _) hk hSW hP
  have S0 : Hid (SW (encM n) w blk off d w) := SW.start R.hH
  have H1 := Lib.hid fun hm => one_block (lt := ltOf cf) hS d 0 d.size hm (Nat.le_refl _) (fun p q _ h2 h3 => h p q h2 h3)
  have H2 := Lib.hid fun m hm => two_blocks (cf := cf) hS d m hm h
  have Hsz : Hid (∀ (dk : Array Nat) (a b : Nat), dk.size = d.size → a ≤ b → b ≤ d.size → (insertionSort (ltOf cf) dk a b).size = d.size) := fun dk a b hk hab hb => by
    have e : (insertionSort (ltOf cf) dk a b).size = dk.size := by
      have : ∀ (m i : Nat) (D : Array Nat), b - i = m → a < i → b ≤ D.size → (insOuter (ltOf cf) a b i D).size = D.size := by
        intro m
        induction m with
        | zero => intro i D h1 h2 h3; rw [insOuter_stop _ _ _ _ _ (by omega)]
        | succ m ih =>
          intro i D h1 h2 h3
          rw [insOuter_go _ _ _ _ _ (by omega)]
          have hp := insInner_perm (ltOf cf) a i D (by omega) (by omega)
          rw [ih (i + 1) _ (by omega) (by omega) (by rw [hp.1]; exact h3), hp.1]
      exact this _ (a + 1) dk rfl (by omega) (by omega)
    omega
  clear h hcmp
  obtain ⟨D, hD⟩ : ∃ D, D = d.size := ⟨_, rfl⟩
  rw [← hD] at HIn HMg H1 H2 Hsz h40 ⊢
  have HDD := Lib.hid hD
  clear hD
  by_cases c1 : D < 20
  · have c1i : (D : Int) < 20 := by omega
    have c2i : ¬ (20 : Int) ≤ (D : Int) := by omega
    have c3i : ¬ (20 : Int) < (D : Int) := by omega
    have hC := HIn.out 0 D d w HDD.out.symm (Nat.zero_le _) (Nat.le_refl _) S0.out
    rw [show ((0 : Nat) : Int) = 0 from rfl] at hC
    have HC := Lib.hid hC
    clear hC
    go_enter Try.func125, Try.ntmps125
    go_wp2
    refine wp_loop_rounds 1 ?_
    rw [rounds_succ]
    go_wp2_with (go_at_call 138; refine HC.out.mono ?_; rintro e w1 ⟨rfl, hS1⟩; have S1 := Lib.hid hS1; clear hS1)
    refine wp_loop_rounds 1 ?_
    rw [rounds_succ]
    go_wp2
    go_end0
    exact ⟨rfl, _, (H1.out (Nat.zero_le _)).1, (H1.out (Nat.zero_le _)).2, S1.out⟩
  · have hins0 : Hid (∀ (dk : Array Nat) (a : Nat), insertionSort (ltOf cf) dk a a = dk) := fun dk a => by unfold insertionSort; exact insOuter_stop _ _ _ _ _ (by omega)
    by_cases c2 : D = 20
    · subst c2
      have hC := HIn.out 0 20 d w HDD.out.symm (by omega) (by omega) S0.out
      have HC2 : Hid (∀ W, SW (encM n) w blk off (insertionSort (ltOf cf) d 0 20) W → _) := fun W hW => HIn.out 20 20 (insertionSort (ltOf cf) d 0 20) W (Hsz.out d 0 20 HDD.out.symm (by omega) (by omega)) (by omega) (by omega) hW
      rw [show ((0 : Nat) : Int) = 0 from rfl, show ((20 : Nat) : Int) = 20 from rfl] at hC
      simp only [show ((20 : Nat) : Int) = 20 from rfl] at HC2
      have HC := Lib.hid hC
      clear hC
      rw [show ((20 : Nat) : Int) = 20 from rfl]
      go_enter Try.func125, Try.ntmps125
      go_wp2
      refine wp_loop_rounds 2 ?_
      rw [rounds_succ]
      go_wp2_with fail
      refine HC.out.mono ?_
      rintro e w1 ⟨rfl, hS1⟩
      have HC3 := Lib.hid (HC2.out w1 hS1)
      clear hS1
      go_wp2
      rw [rounds_succ]
      go_wp2_with fail
      refine HC3.out.mono ?_
      rintro e w2 ⟨rfl, hS2⟩
      rw [hins0.out] at hS2
      have S2 := Lib.hid hS2
      clear hS2
      go_wp2
      refine wp_loop_rounds 1 ?_
      rw [rounds_succ]
      go_wp2
      go_end0
      exact ⟨rfl, _, (H1.out (by omega)).1, (H1.out (by omega)).2, S2.out⟩
    · by_cases c3 : D = 40
      · subst c3
        obtain ⟨d1, hd1⟩ : ∃ d1, d1 = insertionSort (ltOf cf) d 0 20 := ⟨_, rfl⟩
        obtain ⟨d2, hd2⟩ : ∃ d2, d2 = insertionSort (ltOf cf) d1 20 40 := ⟨_, rfl⟩
        have hz1 : d1.size = d.size := by rw [hd1]; exact (Hsz.out d 0 20 HDD.out.symm (by omega) (by omega)).trans HDD.out
        have hz2 : d2.size = d.size := by rw [hd2]; exact (Hsz.out d1 20 40 (hz1.trans HDD.out.symm) (by omega) (by omega)).trans HDD.out
        have hP := H2.out 20 (by omega)
        rw [← hd1, ← hd2] at hP
        have HP := Lib.hid hP
        have hC := HIn.out 0 20 d w HDD.out.symm (by omega) (by omega) S0.out
        rw [← hd1, show ((0 : Nat) : Int) = 0 from rfl, show ((20 : Nat) : Int) = 20 from rfl] at hC
        have HC2 : Hid (∀ W, SW (encM n) w blk off d1 W → _) := fun W hW => HIn.out 20 40 d1 W (hz1.trans HDD.out.symm) (by omega) (by omega) hW
        have HC3 : Hid (∀ W, SW (encM n) w blk off d2 W → _) := fun W hW => HIn.out 40 40 d2 W (hz2.trans HDD.out.symm) (by omega) (by omega) hW
        have HC4 : Hid (∀ W, SW (encM n) w blk off d2 W → _) := fun W hW => HMg.out 20 d2 W (hz2.trans HDD.out.symm) (by omega) (by omega) hW hP.2
        simp only [← hd2, hins0.out, show ((20 : Nat) : Int) = 20 from rfl, show ((40 : Nat) : Int) = 40 from rfl, show ((0 : Nat) : Int) = 0 from rfl] at HC2 HC3 HC4
        have HC := Lib.hid hC
        clear hC hP
        rw [show ((40 : Nat) : Int) = 40 from rfl]
        go_enter Try.func125, Try.ntmps125
        go_wp2
        refine wp_loop_rounds 3 ?_
        rw [rounds_succ]
        go_wp2_with fail
        refine HC.out.mono ?_
        rintro e w1 ⟨rfl, hS1⟩
        have HC2' := Lib.hid (HC2.out w1 hS1)
        clear hS1
        go_wp2
        rw [rounds_succ]
        go_wp2_with fail
        refine HC2'.out.mono ?_
        rintro e w2 ⟨rfl, hS2⟩
        have HC3' := Lib.hid (HC3.out w2 hS2)
        clear hS2
        go_wp2
        rw [rounds_succ]
        go_wp2_with fail
        refine HC3'.out.mono ?_
        rintro e w3 ⟨rfl, hS3⟩
        have HC4' := Lib.hid (HC4.out w3 hS3)
        clear hS3
        go_wp2
        refine wp_loop_rounds 2 ?_
        rw [rounds_succ]
        go_wp2
        refine wp_loop_rounds 2 ?_
        rw [rounds_succ]
        go_wp2_with fail
        refine HC4'.out.mono ?_
        rintro e w4 ⟨rfl, d4, hp4, hu4, hS4⟩
        have HF := Lib.hid (And.intro (permIn_trans _ _ _ _ _ (show PermIn 0 40 d d2 from HP.out.1) hp4) (And.intro hu4 hS4))
        clear hp4 hu4 hS4
        go_wp2
        rw [rounds_succ]
        go_wp2
        rw [rounds_succ]
        go_wp2
        go_end0
        exact ⟨rfl, _, HF.out.1, HF.out.2.1, HF.out.2.2⟩
      · have e1 : (20 : Int) ≤ (D : Int) := by omega
        have e2 : (20 : Int) < (D : Int) := by omega
        have e3 : ¬ (40 : Int) ≤ (D : Int) := by omega
        have e4 : ¬ (40 : Int) < (D : Int) := by omega
        obtain ⟨d1, hd1⟩ : ∃ d1, d1 = insertionSort (ltOf cf) d 0 20 := ⟨_, rfl⟩
        obtain ⟨d2, hd2⟩ : ∃ d2, d2 = insertionSort (ltOf cf) d1 20 D := ⟨_, rfl⟩
        have hz1 : d1.size = d.size := by rw [hd1]; exact (Hsz.out d 0 20 HDD.out.symm (by omega) (by omega)).trans HDD.out
        have hz2 : d2.size = d.size := by rw [hd2]; exact (Hsz.out d1 20 D (hz1.trans HDD.out.symm) (by omega) (by omega)).trans HDD.out
        have hP := H2.out 20 (by omega)
        rw [← hd1, ← hd2] at hP
        have HP := Lib.hid hP
        have hC := HIn.out 0 20 d w HDD.out.symm (by omega) (by omega) S0.out
        rw [← hd1, show ((0 : Nat) : Int) = 0 from rfl, show ((20 : Nat) : Int) = 20 from rfl] at hC
        have HC2 : Hid (∀ W, SW (encM n) w blk off d1 W → _) := fun W hW => HIn.out 20 D d1 W (hz1.trans HDD.out.symm) (by omega) (by omega) hW
        have HC4 : Hid (∀ W, SW (encM n) w blk off d2 W → _) := fun W hW => HMg.out 20 d2 W (hz2.trans HDD.out.symm) (by omega) (by omega) hW hP.2
        simp only [← hd2, show ((20 : Nat) : Int) = 20 from rfl, show ((0 : Nat) : Int) = 0 from rfl] at HC2 HC4
        have HC := Lib.hid hC
        clear hC hP
        go_enter Try.func125, Try.ntmps125
        go_wp2
        refine wp_loop_rounds 2 ?_
        rw [rounds_succ]
        go_wp2_with fail
        refine HC.out.mono ?_
        rintro e w1 ⟨rfl, hS1⟩
        have HC2' := Lib.hid (HC2.out w1 hS1)
        clear hS1
        go_wp2
        rw [rounds_succ]
        go_wp2_with fail
        refine HC2'.out.mono ?_
        rintro e w2 ⟨rfl, hS2⟩
        have HC4' := Lib.hid (HC4.out w2 hS2)
        clear hS2
        go_wp2
        refine wp_loop_rounds 2 ?_
        rw [rounds_succ]
        go_wp2
        refine wp_loop_rounds 1 ?_
        rw [rounds_succ]
        go_wp2_with fail
        refine HC4'.out.mono ?_
        rintro e w4 ⟨rfl, d4, hp4, hu4, hS4⟩
        have HF := Lib.hid (And.intro (permIn_trans _ _ _ _ _ (show PermIn 0 D d d2 from HP.out.1) hp4) (And.intro hu4 hS4))
        clear hp4 hu4 hS4
        go_wp2
        rw [rounds_succ]
        go_wp2
        go_end0
        exact ⟨rfl, _, HF.out.1, HF.out.2.1, HF.out.2.2⟩

set_option maxHeartbeats 400000 in
theorem sortStable_any (n : Nat) (g : Nat) (cb : Array Value) (cf : Nat → Nat → Int) (lt' : Nat → Nat → Bool) (hS : SWO lt') (eg : ∀ args w, (callFunc g args).run Try.prog w = .ok (.enter g args) w)
    (blk off cap : Nat) (d : Array Nat) (w : World) (hcmp : CmpLays1 Try.prog g cb (encM n) cf blk off d.size w) (R : Row1 (encM n) w blk off d) (h40 : d.size ≤ 40) (h : ∀ p q, p < q → q < d.size → ltOf cf d[q]! d[p]! = lt' d[q]! d[p]!) :
    Calls Try.prog 90 #[.slice (some ⟨blk, off, none⟩) d.size cap, .func (.func g) #[] cb] w fun e w' => e = .returned (.tuple #[]) ∧ ∃ d', PermIn 0 d.size d d' ∧ Gm.Up (leO lt') d' 0 d.size ∧ SW (encM n) w blk off d' w' := by
  have HC := Lib.hid (stable_any n g cb cf lt' hS eg blk off cap d w hcmp R h40 h)
  clear hcmp R h
  go_enter Try.func90, Try.ntmps90
  go_wp2_with fail
  refine HC.out.mono ?_
  rintro e w1 ⟨rfl, hd⟩
  have HD := Lib.hid hd
  clear hd
  go_wp2
  go_end0
  exact ⟨rfl, HD.out⟩
end Go.Proofs.Ytmeojedfokahmaa
