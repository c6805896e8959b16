/-
  The library's merge of two sorted runs ('symMergeCmpFunc'), where the right run has one element. Conditions: at most a thousand places.
-/
import Derived.Test.YtmeojedfokahmaaGp
namespace Go.Proofs.Ytmeojedfokahmaa
open Go.ChangeShapes Go.WideShapes Go.ChangeAt Go.RowKit Go.Sort Go.Shelf Go.Lib
set_option linter.unusedVariables false

set_option maxHeartbeats 3000000 in
set_option maxRecDepth 1000000 in
theorem symMerge_last (n : Nat) (g : Nat) (cb : Array Value) (cf : Nat → Nat → Int) (le : Nat → Nat → Prop) (hT : ∀ x y z, le x y → le y z → le x z) (htot : ∀ x y, le x y ∨ le y x) (eg : ∀ args w, (callFunc g args).run Try.prog w = .ok (.enter g args) w)
    (blk off cap a m b : Nat) (d0 d : Array Nat) (w0 w : World) (hcmp : CmpLays1 Try.prog g cb (encM n) cf blk off d0.size w0) (R : Row1 (encM n) w0 blk off d0) (hs : d.size = d0.size) (S : SW (encM n) w0 blk off d w) (hm : b = m + 1) (h2 : a + 1 < m) (hb : b ≤ d.size) (hsz : d.size ≤ 1000) (P : Gm.Pre le (cq cf) d a m b) :
    Calls Try.prog 139 #[.slice (some ⟨blk, off, none⟩) d.size cap, .int .i64 a, .int .i64 m, .int .i64 b, .func (.func g) #[] cb] w fun e w' => e = .returned (.tuple #[]) ∧ ∃ d', PermIn a b d d' ∧ Gm.Up le d' a b ∧ SW (encM n) w0 blk off d' w' := by
  have S0 := Lib.hid S
  have HP := Lib.hid P
  have HC := Lib.hid hcmp
  obtain ⟨D, hD⟩ : ∃ D, D = d.size := ⟨_, rfl⟩
  have HD := Lib.hid hD
  have M := Lib.hid (Gm.mono2 hT htot P (by omega))
  rw [← hD] at hsz hb ⊢
  have mixed : Try.prog.follows .mixedOrders = true := by kernel_rfl
  have hm1 : (b : Int) - (m : Int) = 1 := by omega
  have hm0 : ¬ (m : Int) - (a : Int) = 1 := by omega
  have hm2 : ((m : Int) - (a : Int) == 1) = false := by rw [beq_eq_false_iff_ne]; omega
  have hmb : m < b := by omega
  have HM := Lib.hid hm
  clear hm
  clear S hD P hcmp
  go_enter Try.func139, Try.ntmps139
  go_wp2
  go_loopw [14, 15] (fun u v wr => ∃ i j : Nat, u = .int .i64 (i : Int) ∧ v = .int .i64 (j : Int) ∧ Hid (Gm.Bs (Gm.p2 (cq cf) d m) a m i j) ∧ Hid (SW (encM n) w0 blk off d wr)) (fun u v _ => (intOf v).toNat - (intOf u).toNat)
  case atStart => exact ⟨a, m, rfl, rfl, Gm.Bs.start _ _ _ (by omega), S0⟩
  case round =>
    clear S0
    obtain ⟨i, j, rfl, rfl, B, S1⟩ := hrel
    have b1 := B.out.li
    have b2 := B.out.ij
    have b3 := B.out.jh
    by_cases hlt : i < j
    · have hlti : (i : Int) < (j : Int) := by omega
      obtain ⟨h, hh⟩ : ∃ h, h = (i + j) / 2 := ⟨_, rfl⟩
      have q1 : IntKind.u64.wrap ((i : Int) + (j : Int)) = (i : Int) + (j : Int) := by rw [IntKind.wrap_u64]; omega
      have q2 : IntKind.i64.wrap ((i : Int) + (j : Int)) = (i : Int) + (j : Int) := by rw [IntKind.wrap_i64]; omega
      have q3 : ((i : Int) + (j : Int)) / 2 = (h : Int) := by omega
      obtain ⟨x, y, l1, l2, hc⟩ := cmp_facts HC.out S1.out R (HD.out.symm.trans (HD.out.trans hs)) m h (by have := HD.out; omega) (by have := HD.out; omega)
      have hH := Lib.hid hh
      clear hh
      have hQ : Hid (Gm.p2 (cq cf) d m h = !decide (cf d[m]! d[h]! < 0)) := rfl
      have hu := fun hp => Lib.hid (B.out.up M.out (h := h) (by omega) (by omega) hp)
      have hd := fun hp => Lib.hid (B.out.down M.out (h := h) (by omega) (by omega) hp)
      have HU := Lib.hid hu
      have HDn := Lib.hid hd
      clear hu hd B
      have ehi : ((h : Nat) : Int).toNat = h := by omega
      have eai : ((m : Nat) : Int).toNat = m := by omega
      have bh : (h : Int) < (D : Int) := by omega
      have ba : (m : Int) < (D : Int) := by omega
      by_cases hv : cf d[m]! d[h]! < 0
      · have HV := Lib.hid hv
        obtain ⟨z, hz⟩ : ∃ z, z = cf d[m]! d[h]! := ⟨_, rfl⟩
        rw [← hz] at hc hv hQ
        have hdv : decide (z < 0) = true := decide_eq_true hv
        have B2 := HDn.out (hQ.out.trans (by rw [hdv]; rfl))
        clear hz hQ HU HDn
        go_wp2_with fail
        go_quiet_grown (first | (go_at_fn g; refine Calls.grown_of (hc _ _)))
        have S2 : Hid (SW (encM n) w0 blk off d (grow (wr.drewN nq) osq)) := S1.out.grown nq osq
        clear l1 l2 hc S1
        generalize grow (wr.drewN nq) osq = w2 at S2 ⊢
        go_wp2
        go_roundw
        case rel =>
          exact ⟨i, h, rfl, by go_num, B2, S2⟩
        case measure => simp [intOf]; omega
      · obtain ⟨z, hz⟩ : ∃ z, z = cf d[m]! d[h]! := ⟨_, rfl⟩
        rw [← hz] at hc hv hQ
        have hdv : decide (z < 0) = false := decide_eq_false hv
        have B2 := HU.out (hQ.out.trans (by rw [hdv]; rfl))
        clear hz hQ HU HDn
        go_wp2_with fail
        go_quiet_grown (first | (go_at_fn g; refine Calls.grown_of (hc _ _)))
        have S2 : Hid (SW (encM n) w0 blk off d (grow (wr.drewN nq) osq)) := S1.out.grown nq osq
        clear l1 l2 hc S1
        generalize grow (wr.drewN nq) osq = w2 at S2 ⊢
        go_wp2
        go_roundw
        case rel => exact ⟨h + 1, j, by go_num, rfl, B2, S2⟩
        case measure => simp [intOf]; omega
    · obtain rfl : i = j := by omega
      have HB : Hid (Gm.Bs (Gm.p2 (cq cf) d m) a m i i) := B.out
      have hmi := B.out.li
      have him := B.out.jh
      clear B M
      have R0 : Hid (Gm.Rt d d m m (m + 1)) := Gm.Rt.none (.inl rfl) (by omega) (by omega)
      go_wp2
      go_loopw [17] (fun u wr => ∃ (k : Nat) (dk : Array Nat), u = .int .i64 (k : Int) ∧ i ≤ k ∧ k ≤ m ∧ Hid (dk.size = D) ∧ Hid (Gm.Rt d dk k m (m + 1)) ∧ Hid (SW (encM n) w0 blk off dk wr)) (fun u _ => (intOf u).toNat)
      case atStart => exact ⟨m, d, rfl, him, Nat.le_refl _, HD.out.symm, R0, S1⟩
      case round =>
        clear S1 R0
        obtain ⟨k, dk, rfl, hik, hkm, hz, hR, S1⟩ := hrel
        by_cases hlt2 : i < k
        · have hlt3 : (i : Int) < (k : Int) := by omega
          obtain ⟨p, hp⟩ : ∃ p, k = p + 1 := ⟨k - 1, by omega⟩
          obtain ⟨x, y, c1, c2, f1, f2, ⟨u, c3⟩, S2⟩ := swap_facts S1.out R (hz.out.trans (HD.out.trans hs)) k p (by have := hz.out; omega) (by have := hz.out; omega)
          have hR2 : Hid (Gm.Rt d (swp dk k p) p m (m + 1)) := by
            rw [hp]; exact Gm.Rt.down (by rw [← hp]; exact hR.out) (by omega) (by have := HD.out; omega)
          have hz2 : Hid ((swp dk k p).size = D) := (size_swp _ _ _).trans hz.out
          have S3 : Hid (SW (encM n) w0 blk off (swp dk k p) _) := S2
          have e1 : ((k : Int) - 1).toNat = p := by omega
          have e2 : (0 : Int) ≤ (k : Int) - 1 := by omega
          have e3 : (k : Int) - 1 < (D : Int) := by omega
          have e4 : IntKind.i64.wrap ((k : Int) - 1) = (k : Int) - 1 := by rw [IntKind.wrap_i64]; omega
          have e5 : (k : Int) < (D : Int) := by omega
          have HPk := Lib.hid hp
          clear S1 S2 hp hR hz
          go_wp2_with fail
          go_region
          go_wp2
          go_roundw
          case rel => exact ⟨p, _, by have := HPk.out; congr 1; omega, by have := HPk.out; omega, by have := HPk.out; omega, hz2, hR2, S3⟩
          case measure => have := HPk.out; simp [intOf]; omega
        · obtain rfl : i = k := by omega
          have hfin := Gm.fin2 hT htot (by have := HP.out; rw [HM.out] at this; exact this) i HB.out hR.out
          rw [← HM.out] at hfin
          have hperm : PermIn a b d dk := permIn_mono _ _ i (m + 1) a b hmi (by have := HM.out; omega) (by have := HD.out; omega) hR.out.1
          have HF := Lib.hid (And.intro hperm hfin)
          clear hfin hperm
          go_wp2
          (try simp only [Exit.inBlock, Exit.then])
          refine bodyPost_ret (results_none rfl _ _ _) rfl ?_
          exact ⟨rfl, dk, HF.out.1, HF.out.2, S1.out⟩
end Go.Proofs.Ytmeojedfokahmaa
