/-
  The library's merge of two sorted runs ('symMergeCmpFunc'): the row is sorted between its ends. Conditions: at most a thousand places; the question tells of a left one and a right one which stands first.
-/
import Derived.Test.YtmeojedfokahmaaGq
namespace Go.Proofs.Ytmeojedfokahmaa
open Go.ChangeShapes Go.WideShapes Go.ChangeAt Go.RowKit Go.Sort Go.Shelf Go.Lib
set_option linter.unusedVariables false

theorem Gm.skip {α : Type} [Inhabited α] {le : α → α → Prop} {c : α → α → Bool} {d : Array α} {a s b : Nat} (P : Gm.Pre le c d a s b) (h : ¬ (a < s ∧ s < b)) (h1 : a ≤ s) (h2 : s ≤ b) : Gm.Up le d a b := by
  rcases Nat.lt_or_ge a s with h3 | h3
  · obtain rfl : s = b := by omega
    exact P.l
  · obtain rfl : a = s := by omega
    exact P.r

/-- What is known of the merge at shorter stretches. -/
def SmS (n : Nat) (g : Nat) (cb : Array Value) (cf : Nat → Nat → Int) (le : Nat → Nat → Prop) (blk off cap D : Nat) (w0 : World) (M : Nat) : Prop :=
  ∀ (a m b : Nat) (d : Array Nat) (w : World), b - a ≤ M → a < m → m < b → b ≤ D → d.size = D → SW (encM n) w0 blk off d w → Gm.Pre le (cq cf) d a m b →
    Calls Try.prog 139 #[.slice (some ⟨blk, off, none⟩) D cap, .int .i64 a, .int .i64 m, .int .i64 b, .func (.func g) #[] cb] w fun e w' => e = .returned (.tuple #[]) ∧ ∃ d', PermIn a b d d' ∧ Gm.Up le d' a b ∧ SW (encM n) w0 blk off d' w'

set_option maxHeartbeats 8000000 in
set_option maxRecDepth 1000000 in
theorem symMerge_big (n : Nat) (g : Nat) (cb : Array Value) (cf : Nat → Nat → Int) (le : Nat → Nat → Prop) (hT : ∀ x y z, le x y → le y z → le x z) (htot : ∀ x y, le x y ∨ le y x) (eg : ∀ args w, (callFunc g args).run Try.prog w = .ok (.enter g args) w)
    (blk off cap a m b mid : Nat) (d0 d : Array Nat) (w0 w : World) (hcmp : CmpLays1 Try.prog g cb (encM n) cf blk off d0.size w0) (R : Row1 (encM n) w0 blk off d0) (hs : d.size = d0.size) (S : SW (encM n) w0 blk off d w) (h1 : a + 1 < m) (h2 : m + 1 < b) (hb : b ≤ d.size) (hsz : d.size ≤ 1000) (P : Gm.Pre le (cq cf) d a m b)
    (hmid : mid = (a + b) / 2) (hbig : mid < m) (M : Nat) (hM : b - a ≤ M + 1) (hI : SmS n g cb cf le blk off cap d.size w0 M) :
    Calls Try.prog 139 #[.slice (some ⟨blk, off, none⟩) d.size cap, .int .i64 a, .int .i64 m, .int .i64 b, .func (.func g) #[] cb] w fun e w' => e = .returned (.tuple #[]) ∧ ∃ d', PermIn a b d d' ∧ Gm.Up le d' a b ∧ SW (encM n) w0 blk off d' w' := by
  have S0 := Lib.hid S
  have HP := Lib.hid P
  have HC := Lib.hid hcmp
  have HI := Lib.hid hI
  obtain ⟨D, hD⟩ : ∃ D, D = d.size := ⟨_, rfl⟩
  have HD := Lib.hid hD
  obtain ⟨lo, hi, hlh⟩ : ∃ lo hi, lo = mid + m - b ∧ hi = mid := ⟨_, _, rfl, rfl⟩
  have HLH : Hid (if m > mid then lo = mid + m - b ∧ hi = mid else lo = a ∧ hi = m) := by show (if _ then _ else _); rw [if_pos hbig]; exact hlh
  obtain ⟨N, hN⟩ : ∃ N, N = mid + m := ⟨_, rfl⟩
  obtain ⟨Q, hQ⟩ : ∃ Q, Q = N - 1 := ⟨_, rfl⟩
  have hlo1 : a ≤ lo := by omega
  have hhi1 : hi ≤ m := by omega
  have hhi2 : hi ≤ mid := by omega
  have hlohi : lo ≤ hi := by omega
  have hNb : N ≤ b + lo := by omega
  have HM3 : Hid (Gm.Mono (Gm.p3 (cq cf) d Q) lo hi) := Gm.mono3 hT htot P Q lo hi hlo1 hhi1 (by omega) (by omega)
  have HQ : Hid (Q = mid + m - 1) := by show _ = _; omega
  have HMID := Lib.hid hmid
  rw [← hD] at hsz hb HI ⊢
  have mixed : Try.prog.follows .mixedOrders = true := by kernel_rfl
  have hm0 : ((m : Int) - (a : Int) == 1) = false := by rw [beq_eq_false_iff_ne]; omega
  have hm1 : ((b : Int) - (m : Int) == 1) = false := by rw [beq_eq_false_iff_ne]; omega
  have hm0' : ¬ (m : Int) - (a : Int) = 1 := by omega
  have hm1' : ¬ (b : Int) - (m : Int) = 1 := by omega
  have q1 : IntKind.u64.wrap ((a : Int) + (b : Int)) = (a : Int) + (b : Int) := by rw [IntKind.wrap_u64]; omega
  have q2 : IntKind.i64.wrap ((a : Int) + (b : Int)) = (a : Int) + (b : Int) := by rw [IntKind.wrap_i64]; omega
  have q3 : ((a : Int) + (b : Int)) / 2 = (mid : Int) := by omega
  have zg : (mid : Int) < (m : Int) := by omega
  have zh : hi = mid := hlh.2
  have hQ1 : Q + 1 = mid + m := by omega
  have HLO := Lib.hid hlh
  clear S hD P hcmp hI hmid hlh hQ
  go_enter Try.func139, Try.ntmps139
  go_wp2
  go_loopw [20, 21] (fun u v wr => ∃ i j : Nat, u = .int .i64 (i : Int) ∧ v = .int .i64 (j : Int) ∧ Hid (Gm.Bs (Gm.p3 (cq cf) d Q) lo hi i j) ∧ Hid (SW (encM n) w0 blk off d wr)) (fun u v _ => (intOf v).toNat - (intOf u).toNat)
  case atStart => exact ⟨lo, hi, by have := HLO.out; congr 1; omega, by have := HLO.out; congr 1; omega, Gm.Bs.start _ _ _ hlohi, S0⟩
  case round =>
    clear S0
    obtain ⟨i, j, rfl, rfl, B, S1⟩ := hrel
    have b1 := B.out.li
    have b2 := B.out.ij
    have b3 := B.out.jh
    by_cases hlt : i < j
    · have hlti : (i : Int) < (j : Int) := by omega
      obtain ⟨h, hh⟩ : ∃ h, h = (i + j) / 2 := ⟨_, rfl⟩
      obtain ⟨pq, hpq⟩ : ∃ pq, pq = Q - h := ⟨_, rfl⟩
      have r1 : IntKind.u64.wrap ((i : Int) + (j : Int)) = (i : Int) + (j : Int) := by rw [IntKind.wrap_u64]; omega
      have r2 : IntKind.i64.wrap ((i : Int) + (j : Int)) = (i : Int) + (j : Int) := by rw [IntKind.wrap_i64]; omega
      have r3 : ((i : Int) + (j : Int)) / 2 = (h : Int) := by omega
      have hhj : i ≤ h ∧ h < j := by omega
      have e1 : ((mid : Int) + (m : Int) - 1 - (h : Int)).toNat = pq := by omega
      have e2 : (0 : Int) ≤ (mid : Int) + (m : Int) - 1 - (h : Int) := by omega
      have e3 : (mid : Int) + (m : Int) - 1 - (h : Int) < (D : Int) := by omega
      have e5 : (h : Int) ≤ (mid : Int) + (m : Int) - 1 := by omega
      have e6 : ¬ ((mid : Int) + (m : Int) - 1 < (h : Int)) := by omega
      have e7 : ¬ ((D : Int) ≤ (mid : Int) + (m : Int) - 1 - (h : Int)) := by omega
      have e8 : (mid : Int) + (m : Int) - 1 < (D : Int) + (h : Int) := by omega
      have e9 : ¬ ((mid : Int) + (m : Int) - 1 - (h : Int) < 0) := by omega
      have e4 : IntKind.i64.wrap ((mid : Int) + (m : Int) - 1 - (h : Int)) = (mid : Int) + (m : Int) - 1 - (h : Int) := by rw [IntKind.wrap_i64]; omega
      obtain ⟨x, y, l1, l2, hc⟩ := cmp_facts HC.out S1.out R (HD.out.symm.trans (HD.out.trans hs)) pq h (by have := HD.out; omega) (by have := HD.out; omega)
      have hQ : Hid (Gm.p3 (cq cf) d Q h = !decide (cf d[pq]! d[h]! < 0)) := by show _ = _; unfold Gm.p3 cq; rw [hpq]
      have hu := fun hp => Lib.hid (B.out.up HM3.out (h := h) (by omega) (by omega) hp)
      have hd := fun hp => Lib.hid (B.out.down HM3.out (h := h) (by omega) (by omega) hp)
      have HU := Lib.hid hu
      have HDn := Lib.hid hd
      have bh : (h : Int) < (D : Int) := by omega
      have bp : (pq : Int) < (D : Int) := by omega
      have hH := Lib.hid hh
      clear hu hd B hh hpq b1 b2 b3
      by_cases hv : cf d[pq]! d[h]! < 0
      · obtain ⟨z, hz⟩ : ∃ z, z = cf d[pq]! d[h]! := ⟨_, rfl⟩
        rw [← hz] at hc hv hQ
        have hdv : decide (z < 0) = true := decide_eq_true hv
        have B2 := HDn.out (hQ.out.trans (by rw [hdv]; rfl))
        clear hz hQ HU HDn
        go_wp2_with fail
        go_quiet_grown (first | (go_at_fn g; refine Calls.grown_of (hc _ _)))
        have S2 : Hid (SW (encM n) w0 blk off d (grow (wr.drewN nq) osq)) := S1.out.grown nq osq
        clear l1 l2 hc S1
        generalize grow (wr.drewN nq) osq = w2 at S2 ⊢
        go_wp2
        go_roundw
        case rel => exact ⟨i, h, rfl, by go_num, B2, S2⟩
        case measure => simp [intOf]; omega
      · obtain ⟨z, hz⟩ : ∃ z, z = cf d[pq]! d[h]! := ⟨_, rfl⟩
        rw [← hz] at hc hv hQ
        have hdv : decide (z < 0) = false := decide_eq_false hv
        have B2 := HU.out (hQ.out.trans (by rw [hdv]; rfl))
        clear hz hQ HU HDn
        go_wp2_with fail
        go_quiet_grown (first | (go_at_fn g; refine Calls.grown_of (hc _ _)))
        have S2 : Hid (SW (encM n) w0 blk off d (grow (wr.drewN nq) osq)) := S1.out.grown nq osq
        clear l1 l2 hc S1
        generalize grow (wr.drewN nq) osq = w2 at S2 ⊢
        go_wp2
        go_roundw
        case rel => exact ⟨h + 1, j, by go_num, rfl, B2, S2⟩
        case measure => simp [intOf]; omega
    · obtain rfl : i = j := by omega
      obtain ⟨s, hs'⟩ : ∃ s, s = i := ⟨_, rfl⟩
      subst hs'
      obtain ⟨e, he⟩ : ∃ e, e = N - s := ⟨_, rfl⟩
      have ze : (e : Int) = (mid : Int) + (m : Int) - (s : Int) := by omega
      have ze0 : (0 : Int) ≤ (mid : Int) + (m : Int) - (s : Int) := by omega
      have ze1 : (mid : Int) + (m : Int) - (s : Int) < (1001 : Int) := by omega
      have has : a ≤ s := by omega
      have hsm : s ≤ mid := by omega
      have hsm2 : s ≤ m := by omega
      have hmm : m ≤ e := by omega
      have hme : mid ≤ e := by omega
      have heb : e ≤ b := by omega
      have hab : mid < b ∧ a < mid := by have := HMID.out; omega
      have hcut : ∀ d1, Gm.Rt d d1 s m e → Gm.Pre le (cq cf) d1 a s mid ∧ Gm.Pre le (cq cf) d1 mid e b ∧ Gm.Cr le d1 a mid mid b := fun d1 h => by
        have B3 := B.out
        rw [HQ.out] at B3
        have hE : e = mid + m - s := by omega
        rw [hE] at h ⊢
        exact Gm.cut3 hT htot HP.out mid lo hi s (by omega) (by omega) HMID.out HLH.out B3 h
      have HCUT := Lib.hid hcut
      clear hcut B b1 b2 b3
      have HROT : Hid (s < m → m < e → Calls Try.prog 145 #[.slice (some ⟨blk, off, none⟩) D cap, .int .i64 s, .int .i64 m, .int .i64 ((mid : Int) + (m : Int) - (s : Int)), .func (.func g) #[] cb] wr fun ex w' => ex = .returned (.tuple #[]) ∧ ∃ d', Gm.Rt d d' s m e ∧ SW (encM n) w0 blk off d' w') := by
        intro x1 x2
        have := rotate_any n g cb blk off cap s m e d0 d w0 wr R hs S1.out x1 x2 (by have := HD.out; omega) (by have := HD.out; omega)
        rw [← HD.out, ze] at this
        exact this
      have HZE := Lib.hid ze
      clear hQ1 q1 q2 q3 ze
      by_cases c1 : s < m ∧ m < e
      · have j1 : (s : Int) < (m : Int) := by omega
        have j2 : (m : Int) < (mid : Int) + (m : Int) - (s : Int) := by have := HZE.out; omega
        have HROT2 := Lib.hid (HROT.out c1.1 c1.2)
        clear HROT
        go_wp2_with fail
        refine HROT2.out.mono ?_
        rintro ex w2 ⟨rfl, d1, hRt, hS2⟩
        have S2 := Lib.hid hS2
        have RR := Lib.hid hRt
        clear hS2 hRt HROT2 S1
        have RT : Hid (PermIn a b d d1) := permIn_mono _ _ s e a b has heb (by have := HD.out; omega) RR.out.1
        have hz1 : Hid (d1.size = D) := RR.out.1.1.trans HD.out.symm
        have P1H := Lib.hid (HCUT.out d1 RR.out).1
        have P2H := Lib.hid (HCUT.out d1 RR.out).2.1
        have CH := Lib.hid (HCUT.out d1 RR.out).2.2
        by_cases c2 : a < s ∧ s < mid
        · have k1 : (a : Int) < (s : Int) := by omega
          have k2 : (s : Int) < (mid : Int) := by omega
          have hI := HI.out a s mid _ _ (by omega) c2.1 c2.2 (by omega) hz1.out S2.out P1H.out
          have HI2 := Lib.hid hI
          clear hI
          go_wp2_with fail
          refine HI2.out.mono ?_
          rintro ex w3 ⟨rfl, d3, hp3, hu3, hS3⟩
          have S3 := Lib.hid hS3
          have PA := Lib.hid hp3
          have UA := Lib.hid hu3
          clear hp3 hu3 hS3 HI2 S2
          first
            | (exfalso; omega)
            | have P2 := P2H.out.out (y := mid) PA.out (Nat.le_refl _) hme
              by_cases c3 : mid < e ∧ e < b
              · have k3 : (mid : Int) < (mid : Int) + (m : Int) - (s : Int) := by have := HZE.out; omega
                have k4 : (mid : Int) + (m : Int) - (s : Int) < (b : Int) := by have := HZE.out; omega
                have hI := HI.out mid e b _ _ (by omega) c3.1 c3.2 hb (PA.out.1.trans hz1.out) S3.out P2
                rw [HZE.out] at hI
                have HI3 := Lib.hid hI
                clear hI P2
                go_wp2_with fail
                refine HI3.out.mono ?_
                rintro ex w4 ⟨rfl, d4, hp4, hu4, hS4⟩
                have SX := Lib.hid hS4
                have HF := Lib.hid (Gm.both (e := e) has hsm hme heb (by have := HD.out; omega) RT.out CH.out PA.out UA.out hp4 hu4)
                clear hp4 hu4 hS4 HI3
                go_wp2
                all_goals go_end0
                all_goals exact ⟨rfl, _, HF.out.1, HF.out.2, SX.out⟩
              · have HF := Lib.hid (Gm.both (e := e) has hsm hme heb (by have := HD.out; omega) RT.out CH.out PA.out UA.out (permIn_refl _ _ _) (Gm.skip P2 c3 hme heb))
                clear P2
                by_cases k3 : (mid : Int) < (mid : Int) + (m : Int) - (s : Int)
                · have k4 : ¬ (mid : Int) + (m : Int) - (s : Int) < (b : Int) := by have := HZE.out; omega
                  go_wp2
                  all_goals go_end0
                  all_goals exact ⟨rfl, _, HF.out.1, HF.out.2, S3.out⟩
                · go_wp2
                  all_goals go_end0
                  all_goals exact ⟨rfl, _, HF.out.1, HF.out.2, S3.out⟩
        · have UA := Lib.hid (Gm.skip P1H.out c2 has hsm)
          have PA := Lib.hid (permIn_refl d1 a mid)
          by_cases k1 : (a : Int) < (s : Int)
          · have k2 : ¬ (s : Int) < (mid : Int) := by omega
            first
              | (exfalso; omega)
              | have P2 := P2H.out.out (y := mid) PA.out (Nat.le_refl _) hme
                by_cases c3 : mid < e ∧ e < b
                · have k3 : (mid : Int) < (mid : Int) + (m : Int) - (s : Int) := by have := HZE.out; omega
                  have k4 : (mid : Int) + (m : Int) - (s : Int) < (b : Int) := by have := HZE.out; omega
                  have hI := HI.out mid e b _ _ (by omega) c3.1 c3.2 hb (PA.out.1.trans hz1.out) S2.out P2
                  rw [HZE.out] at hI
                  have HI3 := Lib.hid hI
                  clear hI P2
                  go_wp2_with fail
                  refine HI3.out.mono ?_
                  rintro ex w4 ⟨rfl, d4, hp4, hu4, hS4⟩
                  have SX := Lib.hid hS4
                  have HF := Lib.hid (Gm.both (e := e) has hsm hme heb (by have := HD.out; omega) RT.out CH.out PA.out UA.out hp4 hu4)
                  clear hp4 hu4 hS4 HI3
                  go_wp2
                  all_goals go_end0
                  all_goals exact ⟨rfl, _, HF.out.1, HF.out.2, SX.out⟩
                · have HF := Lib.hid (Gm.both (e := e) has hsm hme heb (by have := HD.out; omega) RT.out CH.out PA.out UA.out (permIn_refl _ _ _) (Gm.skip P2 c3 hme heb))
                  clear P2
                  by_cases k3 : (mid : Int) < (mid : Int) + (m : Int) - (s : Int)
                  · have k4 : ¬ (mid : Int) + (m : Int) - (s : Int) < (b : Int) := by have := HZE.out; omega
                    go_wp2
                    all_goals go_end0
                    all_goals exact ⟨rfl, _, HF.out.1, HF.out.2, S2.out⟩
                  · go_wp2
                    all_goals go_end0
                    all_goals exact ⟨rfl, _, HF.out.1, HF.out.2, S2.out⟩
          · have k0 : True := trivial
            first
              | (exfalso; omega)
              | have P2 := P2H.out.out (y := mid) PA.out (Nat.le_refl _) hme
                by_cases c3 : mid < e ∧ e < b
                · have k3 : (mid : Int) < (mid : Int) + (m : Int) - (s : Int) := by have := HZE.out; omega
                  have k4 : (mid : Int) + (m : Int) - (s : Int) < (b : Int) := by have := HZE.out; omega
                  have hI := HI.out mid e b _ _ (by omega) c3.1 c3.2 hb (PA.out.1.trans hz1.out) S2.out P2
                  rw [HZE.out] at hI
                  have HI3 := Lib.hid hI
                  clear hI P2
                  go_wp2_with fail
                  refine HI3.out.mono ?_
                  rintro ex w4 ⟨rfl, d4, hp4, hu4, hS4⟩
                  have SX := Lib.hid hS4
                  have HF := Lib.hid (Gm.both (e := e) has hsm hme heb (by have := HD.out; omega) RT.out CH.out PA.out UA.out hp4 hu4)
                  clear hp4 hu4 hS4 HI3
                  go_wp2
                  all_goals go_end0
                  all_goals exact ⟨rfl, _, HF.out.1, HF.out.2, SX.out⟩
                · have HF := Lib.hid (Gm.both (e := e) has hsm hme heb (by have := HD.out; omega) RT.out CH.out PA.out UA.out (permIn_refl _ _ _) (Gm.skip P2 c3 hme heb))
                  clear P2
                  by_cases k3 : (mid : Int) < (mid : Int) + (m : Int) - (s : Int)
                  · have k4 : ¬ (mid : Int) + (m : Int) - (s : Int) < (b : Int) := by have := HZE.out; omega
                    go_wp2
                    all_goals go_end0
                    all_goals exact ⟨rfl, _, HF.out.1, HF.out.2, S2.out⟩
                  · go_wp2
                    all_goals go_end0
                    all_goals exact ⟨rfl, _, HF.out.1, HF.out.2, S2.out⟩
      · obtain ⟨d1, hd1⟩ : ∃ d1, d1 = d := ⟨_, rfl⟩
        have RR : Hid (Gm.Rt d d1 s m e) := by rw [hd1]; exact Gm.Rt.none (by omega) hsm2 hmm
        rw [← hd1] at S1
        clear HROT hd1
        have S2 := S1
        clear S1
        have RT : Hid (PermIn a b d d1) := permIn_mono _ _ s e a b has heb (by have := HD.out; omega) RR.out.1
        have hz1 : Hid (d1.size = D) := RR.out.1.1.trans HD.out.symm
        have P1H := Lib.hid (HCUT.out d1 RR.out).1
        have P2H := Lib.hid (HCUT.out d1 RR.out).2.1
        have CH := Lib.hid (HCUT.out d1 RR.out).2.2
        by_cases j1 : (s : Int) < (m : Int)
        · have j2 : ¬ (m : Int) < (mid : Int) + (m : Int) - (s : Int) := by have := HZE.out; omega
          by_cases c2 : a < s ∧ s < mid
          · have k1 : (a : Int) < (s : Int) := by omega
            have k2 : (s : Int) < (mid : Int) := by omega
            have hI := HI.out a s mid _ _ (by omega) c2.1 c2.2 (by omega) hz1.out S2.out P1H.out
            have HI2 := Lib.hid hI
            clear hI
            go_wp2_with fail
            refine HI2.out.mono ?_
            rintro ex w3 ⟨rfl, d3, hp3, hu3, hS3⟩
            have S3 := Lib.hid hS3
            have PA := Lib.hid hp3
            have UA := Lib.hid hu3
            clear hp3 hu3 hS3 HI2 S2
            first
              | (exfalso; omega)
              | have P2 := P2H.out.out (y := mid) PA.out (Nat.le_refl _) hme
                by_cases c3 : mid < e ∧ e < b
                · have k3 : (mid : Int) < (mid : Int) + (m : Int) - (s : Int) := by have := HZE.out; omega
                  have k4 : (mid : Int) + (m : Int) - (s : Int) < (b : Int) := by have := HZE.out; omega
                  have hI := HI.out mid e b _ _ (by omega) c3.1 c3.2 hb (PA.out.1.trans hz1.out) S3.out P2
                  rw [HZE.out] at hI
                  have HI3 := Lib.hid hI
                  clear hI P2
                  go_wp2_with fail
                  refine HI3.out.mono ?_
                  rintro ex w4 ⟨rfl, d4, hp4, hu4, hS4⟩
                  have SX := Lib.hid hS4
                  have HF := Lib.hid (Gm.both (e := e) has hsm hme heb (by have := HD.out; omega) RT.out CH.out PA.out UA.out hp4 hu4)
                  clear hp4 hu4 hS4 HI3
                  go_wp2
                  all_goals go_end0
                  all_goals exact ⟨rfl, _, HF.out.1, HF.out.2, SX.out⟩
                · have HF := Lib.hid (Gm.both (e := e) has hsm hme heb (by have := HD.out; omega) RT.out CH.out PA.out UA.out (permIn_refl _ _ _) (Gm.skip P2 c3 hme heb))
                  clear P2
                  by_cases k3 : (mid : Int) < (mid : Int) + (m : Int) - (s : Int)
                  · have k4 : ¬ (mid : Int) + (m : Int) - (s : Int) < (b : Int) := by have := HZE.out; omega
                    go_wp2
                    all_goals go_end0
                    all_goals exact ⟨rfl, _, HF.out.1, HF.out.2, S3.out⟩
                  · go_wp2
                    all_goals go_end0
                    all_goals exact ⟨rfl, _, HF.out.1, HF.out.2, S3.out⟩
          · have UA := Lib.hid (Gm.skip P1H.out c2 has hsm)
            have PA := Lib.hid (permIn_refl d1 a mid)
            by_cases k1 : (a : Int) < (s : Int)
            · have k2 : ¬ (s : Int) < (mid : Int) := by omega
              first
                | (exfalso; omega)
                | have P2 := P2H.out.out (y := mid) PA.out (Nat.le_refl _) hme
                  by_cases c3 : mid < e ∧ e < b
                  · have k3 : (mid : Int) < (mid : Int) + (m : Int) - (s : Int) := by have := HZE.out; omega
                    have k4 : (mid : Int) + (m : Int) - (s : Int) < (b : Int) := by have := HZE.out; omega
                    have hI := HI.out mid e b _ _ (by omega) c3.1 c3.2 hb (PA.out.1.trans hz1.out) S2.out P2
                    rw [HZE.out] at hI
                    have HI3 := Lib.hid hI
                    clear hI P2
                    go_wp2_with fail
                    refine HI3.out.mono ?_
                    rintro ex w4 ⟨rfl, d4, hp4, hu4, hS4⟩
                    have SX := Lib.hid hS4
                    have HF := Lib.hid (Gm.both (e := e) has hsm hme heb (by have := HD.out; omega) RT.out CH.out PA.out UA.out hp4 hu4)
                    clear hp4 hu4 hS4 HI3
                    go_wp2
                    all_goals go_end0
                    all_goals exact ⟨rfl, _, HF.out.1, HF.out.2, SX.out⟩
                  · have HF := Lib.hid (Gm.both (e := e) has hsm hme heb (by have := HD.out; omega) RT.out CH.out PA.out UA.out (permIn_refl _ _ _) (Gm.skip P2 c3 hme heb))
                    clear P2
                    by_cases k3 : (mid : Int) < (mid : Int) + (m : Int) - (s : Int)
                    · have k4 : ¬ (mid : Int) + (m : Int) - (s : Int) < (b : Int) := by have := HZE.out; omega
                      go_wp2
                      all_goals go_end0
                      all_goals exact ⟨rfl, _, HF.out.1, HF.out.2, S2.out⟩
                    · go_wp2
                      all_goals go_end0
                      all_goals exact ⟨rfl, _, HF.out.1, HF.out.2, S2.out⟩
            · have k0 : True := trivial
              first
                | (exfalso; omega)
                | have P2 := P2H.out.out (y := mid) PA.out (Nat.le_refl _) hme
                  by_cases c3 : mid < e ∧ e < b
                  · have k3 : (mid : Int) < (mid : Int) + (m : Int) - (s : Int) := by have := HZE.out; omega
                    have k4 : (mid : Int) + (m : Int) - (s : Int) < (b : Int) := by have := HZE.out; omega
                    have hI := HI.out mid e b _ _ (by omega) c3.1 c3.2 hb (PA.out.1.trans hz1.out) S2.out P2
                    rw [HZE.out] at hI
                    have HI3 := Lib.hid hI
                    clear hI P2
                    go_wp2_with fail
                    refine HI3.out.mono ?_
                    rintro ex w4 ⟨rfl, d4, hp4, hu4, hS4⟩
                    have SX := Lib.hid hS4
                    have HF := Lib.hid (Gm.both (e := e) has hsm hme heb (by have := HD.out; omega) RT.out CH.out PA.out UA.out hp4 hu4)
                    clear hp4 hu4 hS4 HI3
                    go_wp2
                    all_goals go_end0
                    all_goals exact ⟨rfl, _, HF.out.1, HF.out.2, SX.out⟩
                  · have HF := Lib.hid (Gm.both (e := e) has hsm hme heb (by have := HD.out; omega) RT.out CH.out PA.out UA.out (permIn_refl _ _ _) (Gm.skip P2 c3 hme heb))
                    clear P2
                    by_cases k3 : (mid : Int) < (mid : Int) + (m : Int) - (s : Int)
                    · have k4 : ¬ (mid : Int) + (m : Int) - (s : Int) < (b : Int) := by have := HZE.out; omega
                      go_wp2
                      all_goals go_end0
                      all_goals exact ⟨rfl, _, HF.out.1, HF.out.2, S2.out⟩
                    · go_wp2
                      all_goals go_end0
                      all_goals exact ⟨rfl, _, HF.out.1, HF.out.2, S2.out⟩
        · have j0 : True := trivial
          by_cases c2 : a < s ∧ s < mid
          · have k1 : (a : Int) < (s : Int) := by omega
            have k2 : (s : Int) < (mid : Int) := by omega
            have hI := HI.out a s mid _ _ (by omega) c2.1 c2.2 (by omega) hz1.out S2.out P1H.out
            have HI2 := Lib.hid hI
            clear hI
            go_wp2_with fail
            refine HI2.out.mono ?_
            rintro ex w3 ⟨rfl, d3, hp3, hu3, hS3⟩
            have S3 := Lib.hid hS3
            have PA := Lib.hid hp3
            have UA := Lib.hid hu3
            clear hp3 hu3 hS3 HI2 S2
            first
              | (exfalso; omega)
              | have P2 := P2H.out.out (y := mid) PA.out (Nat.le_refl _) hme
                by_cases c3 : mid < e ∧ e < b
                · have k3 : (mid : Int) < (mid : Int) + (m : Int) - (s : Int) := by have := HZE.out; omega
                  have k4 : (mid : Int) + (m : Int) - (s : Int) < (b : Int) := by have := HZE.out; omega
                  have hI := HI.out mid e b _ _ (by omega) c3.1 c3.2 hb (PA.out.1.trans hz1.out) S3.out P2
                  rw [HZE.out] at hI
                  have HI3 := Lib.hid hI
                  clear hI P2
                  go_wp2_with fail
                  refine HI3.out.mono ?_
                  rintro ex w4 ⟨rfl, d4, hp4, hu4, hS4⟩
                  have SX := Lib.hid hS4
                  have HF := Lib.hid (Gm.both (e := e) has hsm hme heb (by have := HD.out; omega) RT.out CH.out PA.out UA.out hp4 hu4)
                  clear hp4 hu4 hS4 HI3
                  go_wp2
                  all_goals go_end0
                  all_goals exact ⟨rfl, _, HF.out.1, HF.out.2, SX.out⟩
                · have HF := Lib.hid (Gm.both (e := e) has hsm hme heb (by have := HD.out; omega) RT.out CH.out PA.out UA.out (permIn_refl _ _ _) (Gm.skip P2 c3 hme heb))
                  clear P2
                  by_cases k3 : (mid : Int) < (mid : Int) + (m : Int) - (s : Int)
                  · have k4 : ¬ (mid : Int) + (m : Int) - (s : Int) < (b : Int) := by have := HZE.out; omega
                    go_wp2
                    all_goals go_end0
                    all_goals exact ⟨rfl, _, HF.out.1, HF.out.2, S3.out⟩
                  · go_wp2
                    all_goals go_end0
                    all_goals exact ⟨rfl, _, HF.out.1, HF.out.2, S3.out⟩
          · have UA := Lib.hid (Gm.skip P1H.out c2 has hsm)
            have PA := Lib.hid (permIn_refl d1 a mid)
            by_cases k1 : (a : Int) < (s : Int)
            · have k2 : ¬ (s : Int) < (mid : Int) := by omega
              first
                | (exfalso; omega)
                | have P2 := P2H.out.out (y := mid) PA.out (Nat.le_refl _) hme
                  by_cases c3 : mid < e ∧ e < b
                  · have k3 : (mid : Int) < (mid : Int) + (m : Int) - (s : Int) := by have := HZE.out; omega
                    have k4 : (mid : Int) + (m : Int) - (s : Int) < (b : Int) := by have := HZE.out; omega
                    have hI := HI.out mid e b _ _ (by omega) c3.1 c3.2 hb (PA.out.1.trans hz1.out) S2.out P2
                    rw [HZE.out] at hI
                    have HI3 := Lib.hid hI
                    clear hI P2
                    go_wp2_with fail
                    refine HI3.out.mono ?_
                    rintro ex w4 ⟨rfl, d4, hp4, hu4, hS4⟩
                    have SX := Lib.hid hS4
                    have HF := Lib.hid (Gm.both (e := e) has hsm hme heb (by have := HD.out; omega) RT.out CH.out PA.out UA.out hp4 hu4)
                    clear hp4 hu4 hS4 HI3
                    go_wp2
                    all_goals go_end0
                    all_goals exact ⟨rfl, _, HF.out.1, HF.out.2, SX.out⟩
                  · have HF := Lib.hid (Gm.both (e := e) has hsm hme heb (by have := HD.out; omega) RT.out CH.out PA.out UA.out (permIn_refl _ _ _) (Gm.skip P2 c3 hme heb))
                    clear P2
                    by_cases k3 : (mid : Int) < (mid : Int) + (m : Int) - (s : Int)
                    · have k4 : ¬ (mid : Int) + (m : Int) - (s : Int) < (b : Int) := by have := HZE.out; omega
                      go_wp2
                      all_goals go_end0
                      all_goals exact ⟨rfl, _, HF.out.1, HF.out.2, S2.out⟩
                    · go_wp2
                      all_goals go_end0
                      all_goals exact ⟨rfl, _, HF.out.1, HF.out.2, S2.out⟩
            · have k0 : True := trivial
              first
                | (exfalso; omega)
                | have P2 := P2H.out.out (y := mid) PA.out (Nat.le_refl _) hme
                  by_cases c3 : mid < e ∧ e < b
                  · have k3 : (mid : Int) < (mid : Int) + (m : Int) - (s : Int) := by have := HZE.out; omega
                    have k4 : (mid : Int) + (m : Int) - (s : Int) < (b : Int) := by have := HZE.out; omega
                    have hI := HI.out mid e b _ _ (by omega) c3.1 c3.2 hb (PA.out.1.trans hz1.out) S2.out P2
                    rw [HZE.out] at hI
                    have HI3 := Lib.hid hI
                    clear hI P2
                    go_wp2_with fail
                    refine HI3.out.mono ?_
                    rintro ex w4 ⟨rfl, d4, hp4, hu4, hS4⟩
                    have SX := Lib.hid hS4
                    have HF := Lib.hid (Gm.both (e := e) has hsm hme heb (by have := HD.out; omega) RT.out CH.out PA.out UA.out hp4 hu4)
                    clear hp4 hu4 hS4 HI3
                    go_wp2
                    all_goals go_end0
                    all_goals exact ⟨rfl, _, HF.out.1, HF.out.2, SX.out⟩
                  · have HF := Lib.hid (Gm.both (e := e) has hsm hme heb (by have := HD.out; omega) RT.out CH.out PA.out UA.out (permIn_refl _ _ _) (Gm.skip P2 c3 hme heb))
                    clear P2
                    by_cases k3 : (mid : Int) < (mid : Int) + (m : Int) - (s : Int)
                    · have k4 : ¬ (mid : Int) + (m : Int) - (s : Int) < (b : Int) := by have := HZE.out; omega
                      go_wp2
                      all_goals go_end0
                      all_goals exact ⟨rfl, _, HF.out.1, HF.out.2, S2.out⟩
                    · go_wp2
                      all_goals go_end0
                      all_goals exact ⟨rfl, _, HF.out.1, HF.out.2, S2.out⟩
    
end Go.Proofs.Ytmeojedfokahmaa
