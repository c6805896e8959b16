/-
  'LevelsOf' of the model, walked. No conditions but the bounds that Go gives a slice.
-/
import Derived.Test.YtmeojedfokahmaaGI
import Derived.Test.YtmeojedfokahmaaGF
import Derived.Test.YtmeojedfokahmaaGa
namespace Go.Proofs.Ytmeojedfokahmaa
open Go.ChangeShapes Go.WideShapes Go.ChangeAt Go.RowKit Go.Sort
set_option linter.unusedVariables false

theorem stepM_new {l : List Int} {out : List (List Nat)} {i : Nat} (h : ¬ (out ≠ [] ∧ l.getD ((out.getLastD []).getD 0 0) 0 = l.getD i 0)) : stepM l out i = out ++ [[i]] := by unfold stepM; rw [if_neg h]
theorem stepM_old {l : List Int} {Ls : List (List Nat)} {T : List Nat} {i : Nat} (h : l.getD (T.getD 0 0) 0 = l.getD i 0) : stepM l (Ls ++ [T]) i = Ls ++ [T ++ [i]] := by
  unfold stepM
  rw [if_pos ⟨by simp, by simpa using h⟩]
  simp
theorem niG_len (o : List Nat) : (niG o).length = o.length := by unfold niG; simp

set_option maxRecDepth 100000 in
set_option maxHeartbeats 2000000 in
theorem specLevels (a : Option Addr) (l : List Int) (cap : Nat) (w : World) (hrow : IntRow w a l) (hl : l.length ≤ maxLen) :
    Calls Try.prog 58 #[.slice a l.length cap] w fun e w' => (∃ a0 c0 gs, e = .returned (.slice a0 (levR l).length c0) ∧ OwnSS w' w.heap.size a0 c0 gs (levR l)) ∧ Below w.heap.size w w' := by
  unfold maxLen at hl
  obtain ⟨n, hn⟩ : ∃ n, n = l.length := ⟨_, rfl⟩
  by_cases h40 : n ≤ 40
  · have h40i : ¬ (40 : Int) < (n : Int) := by omega
    obtain ⟨W1, hW1⟩ : ∃ W1, W1 = w.alloc (.cells #[] 23) := ⟨_, rfl⟩
    have HW1 := Lib.hid hW1
    have hb1 : Below w.heap.size w W1 := by rw [hW1]; exact (Below.refl _ _).alloc (Nat.le_refl _) _
    have hs1 : W1.heap.size = w.heap.size + 1 := by rw [hW1]; simp
    have ss1 : OwnSS W1 w.heap.size (some ⟨w.heap.size, 0, none⟩) 0 [] [] := by
      have := own_ss_empty w w.heap.size (Nat.le_refl _)
      rw [hW1]; exact this
    have hC := l09Order_any a l cap W1 (hrow.below hb1 (Nat.le_refl _)) (by omega)
    obtain ⟨O, hO⟩ : ∃ O, O = ordL l := ⟨_, rfl⟩
    have HOl : Hid (O.length = n) := by show _ = _; rw [hO, ordL_len]; exact hn.symm
    have HLR : Hid (levR l = (grp l O n).map niG) := by show _ = _; unfold levR; rw [if_pos (by omega), ← hO, ← grp_all, HOl.out]
    have HOlt : Hid (∀ x ∈ O, x < n) := fun x hx => by rw [hO] at hx; have := ordTo_lt l l.length x hx; omega
    have HOn : Hid (O.Nodup) := by show O.Nodup; rw [hO]; exact (ordTo_perm l l.length).nodup_iff.2 List.nodup_range
    have HROW := Lib.hid hrow
    have HN := Lib.hid hn
    rw [← hO, ← hn] at hC
    have HC := Lib.hid hC
    have HB1 := Lib.hid hb1
    have HSS := Lib.hid ss1
    have HS1 := Lib.hid hs1
    rw [← hn] at hl ⊢
    clear hC hb1 hs1 ss1 hW1 hO hn hrow
    go_enter Try.func58, Try.ntmps58
    go_wp2_with fail
    rw [← HW1.out]
    refine HC.out.mono ?_
    rintro e w3 ⟨⟨go, cO, rfl, ho⟩, hb3⟩
    have HM0 : Hid (Mv w w3 w3.heap.size go n cO O (some ⟨w.heap.size, 0, none⟩) 0 [] ((grp l O 0).map niG)) := by
      have h1 := HB1.out.trans (hb3.mono HB1.out.size)
      have hgo := ho.lt go rfl
      have hs := HS1.out
      refine ⟨h1, HSS.out.below hb3, ho.mono (by omega), fun i hi => absurd hi (Nat.not_lt_zero _), hgo.2, Nat.le_refl _, fun k hk => ?_⟩
      simp only [blk, Option.map_some, Option.some.injEq] at hk
      omega
    obtain ⟨Q, hQ⟩ : ∃ Q, Q = w3.heap.size := ⟨_, rfl⟩
    rw [← hQ] at HM0
    clear ho hb3 hQ HC HSS HB1
    go_wp2
    go_loopw [3, 14] (fun o i wr => ∃ (k m co : Nat) (ao : Option Addr) (gs : List (Nat × Nat)) (P : List (List Nat)), k ≤ n ∧ m ≤ k ∧ i = .int .i64 (k : Int) ∧ o = .slice ao m co ∧ Hid (m = P.length) ∧ P = grp l O k ∧ Hid (Mv w wr Q go n cO O ao co gs (P.map niG))) (fun _ i _ => n - (intOf i).toNat)
    case atStart => exact ⟨0, 0, 0, some ⟨w.heap.size, 0, none⟩, [], grp l O 0, Nat.zero_le _, Nat.le_refl _, rfl, rfl, rfl, rfl, HM0⟩
    case round =>
      clear HM0
      obtain ⟨k, m, co, ao, gs, P, hk, hmk, rfl, rfl, HPm, hP, HM1⟩ := hrel
      by_cases hlt : k < n
      · have hki : (k : Int) < (n : Int) := by omega
        obtain ⟨y, hy⟩ : ∃ y, y = O.getD k 0 := ⟨_, rfl⟩
        have hyn : y < n := by
          rw [hy, List.getD_eq_getElem?_getD, List.getElem?_eq_getElem (by have := HOl.out; omega)]
          exact HOlt.out _ (List.getElem_mem _)
        have hyi : (y : Int) < (n : Int) := by omega
        have hc0 : wr.cell? ⟨go, k, none⟩ = some (.int .i64 (y : Int)) := by
          rw [cell_own HM1.out.og hlt, niG_at O (by have := HOl.out; omega), hy]; rfl
        have HG : Hid (grp l O (k + 1) = stepM l P y) := by show _ = _; rw [grp_succ l O (by have := HOl.out; omega), ← hP, hy]
        have hfl := grp_flat l O k (by have := HOl.out; omega)
        rw [← hP] at hfl
        have HFL := Lib.hid hfl
        have HM : Hid (∀ wq : World, (∃ p : Regrown, wq = Go.Sort.grow (redrawn wr p.1) p.2) → Mv w wq Q go n cO O ao co gs (P.map niG)) := fun wq hq => by obtain ⟨⟨dq, osq⟩, hw''⟩ := hq; rw [hw'']; exact HM1.out.below (below_regrown wr dq osq)
        clear hy hP hfl
        rcases Nat.eq_zero_or_pos m with h0 | h0
        · obtain rfl : m = 0 := h0
          have HNX : Hid (grp l O (k + 1) = P ++ [[y]]) := by
            show _ = _
            rw [HG.out]
            exact stepM_new (fun h => h.1 (List.eq_nil_of_length_eq_zero (by exact HPm.out.symm)))
          clear HG HM1
          go_wp2
          refine wp_region_quiet_below (by kernel_rfl) (by kernel_rfl) ?_
          repeat (go_big_quiet_step (fail))
          refine wpQuiet_nil ?_
          intro wq hw'
          have M2 := Lib.hid (HM.out wq hw')
          clear hw' HM
          obtain ⟨i0, hi, hz0, hz1, hz2⟩ := info_parts infoSS
          have HPl : Hid ((P.map niG).length = 0) := by show _ = _; rw [List.length_map]; exact HPm.out.symm
          have HOW : Hid (((wq.alloc (.cells #[.int .i64 (y : Int)] 3)).alloc (.cells #[.slice (some ⟨wq.heap.size, 0, none⟩) 1 1] 23)).ownsRow w.heap.size 23 1 (.slice ao 0 co) 0 (svs gs (P.map niG))) := by
            have := M2.out.ss.out
            rw [HPl.out] at this
            try simp only [List.map_append, List.map_cons, List.map_nil] at this
            exact (this.alloc _).alloc _
          have HCN : Hid (∀ j u, [Value.slice (some ⟨wq.heap.size, 0, none⟩) 1 1][j]? = some u → ((wq.alloc (.cells #[.int .i64 (y : Int)] 3)).alloc (.cells #[.slice (some ⟨wq.heap.size, 0, none⟩) 1 1] 23)).cell? ((⟨wq.heap.size + 1, 0, none⟩ : Addr).add j) = some u) := by
            have h := cell_one_new (wq.alloc (.cells #[.int .i64 (y : Int)] 3)) (.slice (some ⟨wq.heap.size, 0, none⟩) 1 1) 23
            rw [World.size_alloc] at h
            exact h
          have hwq := M2.out.hb.size
          go_wp2_with (at_builtin; refine wpList_append_own _ rfl _ _ 34 rfl w.heap.size 23 i0 (.slice none 0 0) 1 24 Try.underlying34 hi hz0 hz1 hz2 rfl (by decide) (.slice ao 0 co) 0 (svs gs (P.map niG)) rfl HOW.out ⟨wq.heap.size + 1, 0, none⟩ 1 1 [.slice (some ⟨wq.heap.size, 0, none⟩) 1 1] rfl rfl HCN.out (by intro u hu; simp at hu; subst hu; rfl) (by unfold maxLen; omega) (by omega) (by simp; omega) ?_)
          intro v4 w4 ho4 hg4 hnil4
          obtain ⟨g4, c4, rfl⟩ : ∃ g4 c4, v4 = .slice (some ⟨g4, 0, none⟩) (0 + 1) c4 := by
            rcases ho4.2 with ⟨hv, _⟩ | ⟨g4, c4, cur, hv, _⟩
            · exact absurd hv (by simpa using hnil4)
            · exact ⟨g4, c4, hv⟩
          rw [blk_own] at hg4
          have M4 : Hid (Mv w w4 Q go n cO O (some ⟨g4, 0, none⟩) c4 (gs ++ [(wq.heap.size, 1)]) ((grp l O (k + 1)).map niG)) := by
            have h := M2.out.push (x := (y : Int)) (by omega) hg4 (by rw [HPl.out]; try simp only [List.map_append, List.map_cons, List.map_nil]
                                                                      exact ho4)
            rw [HNX.out, List.map_append]
            exact h
          have HLN : Hid (0 + 1 = (grp l O (k + 1)).length) := by show _ = _; rw [HNX.out, List.length_append, ← HPm.out]; rfl
          clear ho4 hg4 hnil4 HOW HCN
          go_wp2
          go_roundw
          case rel => exact ⟨k + 1, 0 + 1, c4, some ⟨g4, 0, none⟩, gs ++ [(wq.heap.size, 1)], grp l O (k + 1), by omega, by omega, by go_num, rfl, HLN, rfl, M4⟩
          case measure => simp [intOf]; omega
        · obtain ⟨p, rfl⟩ : ∃ p, m = p + 1 := ⟨m - 1, by omega⟩
          obtain ⟨Ls, T, rfl⟩ : ∃ Ls T, P = Ls ++ [T] := by
            have hne : P ≠ [] := fun e => by have := HPm.out; rw [e] at this; simp at this
            exact ⟨P.dropLast, P.getLast hne, (List.dropLast_concat_getLast hne).symm⟩
          have hLp : Ls.length = p := by have := HPm.out; rw [List.length_append] at this; simp at this; omega
          have HND : Hid ((Ls ++ [T]).flatten.Nodup) := by show List.Nodup _; rw [HFL.out.1]; exact HOn.out.sublist (List.take_sublist _ _)
          have HNE : Hid (∀ U ∈ Ls ++ [T], U ≠ []) := HFL.out.2
          obtain ⟨t, ht⟩ : ∃ t, t = T.length := ⟨_, rfl⟩
          have HTl : Hid (T.length = t) := ht.symm
          have ht0 : 0 < t := by rw [ht]; exact List.length_pos_iff.2 (HNE.out T (by simp))
          have hTO : ∀ x ∈ T, x ∈ O := fun x hx => by
            have h1 : x ∈ (Ls ++ [T]).flatten := List.mem_flatten.2 ⟨T, by simp, hx⟩
            rw [HFL.out.1] at h1
            exact List.mem_of_mem_take h1
          have ht40 : t ≤ 40 := by
            have h1 : ((Ls ++ [T]).flatten).length ≤ n := by
              rw [HFL.out.1, List.length_take]; have := HOl.out; omega
            rw [List.flatten_append, List.length_append] at h1
            simp at h1
            omega
          obtain ⟨z, hz⟩ : ∃ z, z = T.getD 0 0 := ⟨_, rfl⟩
          have hzn : z < n := by
            rw [hz, List.getD_eq_getElem?_getD, List.getElem?_eq_getElem (by omega)]
            exact HOlt.out _ (hTO _ (List.getElem_mem _))
          have hzi : (z : Int) < (n : Int) := by omega
          obtain ⟨G, rfl, _⟩ := HM1.out.ss.base (by simp)
          obtain ⟨gs1, gp, rfl⟩ : ∃ gs1 gp, gs = gs1 ++ [gp] := by
            have hl1 := HM1.out.ss.len
            have hne : gs ≠ [] := fun e => by rw [e] at hl1; simp at hl1
            exact ⟨gs.dropLast, gs.getLast hne, (List.dropLast_concat_getLast hne).symm⟩
          obtain ⟨gl, cl⟩ := gp
          have hg1 : gs1.length = p := by have := HM1.out.ss.len; simp at this; omega
          have c1 : wr.cell? ⟨G, p, none⟩ = some (.slice (some ⟨gl, 0, none⟩) t cl) := by
            have h := HM1.out.ss.cell p (by simp; omega)
            rw [getD_snoc_r gs1 _ _ hg1.symm, List.map_append, List.map_cons, List.map_nil, getD_snoc_r (Ls.map niG) _ _ (by rw [List.length_map]; exact hLp.symm), niG_len, HTl.out] at h
            exact h
          have c2 : wr.cell? ⟨gl, 0, none⟩ = some (.int .i64 (z : Int)) := by
            have h := HM1.out.ss.inn p (by simp; omega)
            rw [getD_snoc_r gs1 _ _ hg1.symm, List.map_append, List.map_cons, List.map_nil, getD_snoc_r (Ls.map niG) _ _ (by rw [List.length_map]; exact hLp.symm)] at h
            rw [cell_own h (by rw [niG_len, HTl.out]; exact ht0), niG_at T (by omega), hz]; rfl
          obtain ⟨b, off, rfl, hbb, hc⟩ := row_at HROW.out (show z < l.length by have := HN.out; omega)
          have c3 := (HM1.out.hb.cell (p := ⟨b, off + z, none⟩) hbb).trans (hc z (by have := HN.out; omega))
          have c4 := (HM1.out.hb.cell (p := ⟨b, off + y, none⟩) hbb).trans (hc y (by have := HN.out; omega))
          have e1 : (((p + 1 : Nat) : Int) - 1).toNat = p := by omega
          have e2 : (0 : Int) ≤ ((p + 1 : Nat) : Int) - 1 := by omega
          have e3 : ((p + 1 : Nat) : Int) - 1 < ((p + 1 : Nat) : Int) := by omega
          have e4 : (0 : Int) < ((p + 1 : Nat) : Int) := by omega
          have e5 : decide ((0 : Int) < ((p + 1 : Nat) : Int)) = true := decide_eq_true e4
          have e6 : (0 : Int) < (t : Int) := by omega
          have HSM : Hid (l.getD z 0 = l.getD y 0 → grp l O (k + 1) = Ls ++ [T ++ [y]]) := fun h => by rw [HG.out]; exact stepM_old (by rw [← hz]; exact h)
          have HSN : Hid (¬ l.getD z 0 = l.getD y 0 → grp l O (k + 1) = Ls ++ [T] ++ [[y]]) := fun h => by
            rw [HG.out]; exact stepM_new (fun hh => h (by have := hh.2; simp at this; rw [hz]; simpa using this))
          generalize l.getD z 0 = u1 at c3 HSM HSN
          generalize l.getD y 0 = u2 at c4 HSM HSN
          have c1r := fun d os => cell_regrown c1 d os
          have c2r := fun d os => cell_regrown c2 d os
          have c3r := fun d os => cell_regrown c3 d os
          have c4r := fun d os => cell_regrown c4 d os
          have HP1 := Lib.hid hLp
          clear hc HFL HG HM1 hTO hz ht hg1 hLp
          by_cases hu : u1 = u2
          · have hd : decide (u1 = u2) = true := decide_eq_true hu
            have HNX : Hid (grp l O (k + 1) = Ls ++ [T ++ [y]]) := HSM.out hu
            clear HSM HSN
            go_wp2
            clear c1 c2 c3 c4
            refine wp_region_quiet_below (by kernel_rfl) (by kernel_rfl) ?_
            repeat (go_big_quiet_step (fail))
            refine wpQuiet_nil ?_
            intro wq hw'
            have M2 := Lib.hid (HM.out wq hw')
            clear hw' c1r c2r c3r c4r
            have hGs : ((Ls ++ [T]).map niG).length = p + 1 := by rw [List.length_map]; exact HPm.out.symm
            have hLsp : (Ls.map niG).length = p := by have := hGs; simp at this; simpa using this
            have ssq := M2.out.ss
            rw [List.map_append, List.map_cons, List.map_nil] at ssq
            have hgsl : gs1.length = (Ls.map niG).length := by have := ssq.len; simp at this; simpa using this
            have hin := ssq.inn p (by rw [List.length_append, hLsp]; simp)
            rw [getD_snoc_r gs1 _ _ (by omega), getD_snoc_r (Ls.map niG) _ _ hLsp.symm] at hin
            have hglQ : Q ≤ gl := by
              have := M2.out.gi p (by rw [hGs]; omega)
              rw [getD_snoc_r gs1 _ _ (by omega)] at this
              exact this
            have hinT : wq.ownsRow w.heap.size 3 1 (.slice (some ⟨gl, 0, none⟩) t cl) t ((niG T).map iv) := by
              have h := hin
              unfold sv at h
              rw [niG_len, HTl.out] at h
              exact h
            have hgn : wq.grownBy (wq.alloc (.cells #[.int .i64 (y : Int)] 3)) none := World.grownBy_alloc _ _ _
            have HIN : Hid ((wq.alloc (.cells #[.int .i64 (y : Int)] 3)).ownsRow Q 3 1 (.slice (some ⟨gl, 0, none⟩) t cl) t ((niG T).map iv)) := own_rebase (own_grown hinT hgn (fun k _ e => by cases e)) hglQ
            have hGgl := ssq.apart p (by rw [List.length_append, hLsp]; simp)
            rw [getD_snoc_r gs1 _ _ (by omega)] at hGgl
            have b1 : wq.cell? ⟨G, p, none⟩ = some (.slice (some ⟨gl, 0, none⟩) t cl) := by
              have h := ssq.cell p (by rw [List.length_append, hLsp]; simp)
              rw [getD_snoc_r gs1 _ _ (by omega), getD_snoc_r (Ls.map niG) _ _ hLsp.symm] at h
              simp only [niG_len, HTl.out] at h
              exact h
            have HOUT : Hid (wq.ownsRow w.heap.size 23 1 (.slice (some ⟨G, 0, none⟩) (p + 1) co) (p + 1) (svs (gs1 ++ [(gl, cl)]) (Ls.map niG ++ [niG T]))) := by
              have h := ssq.out
              rw [List.length_append, hLsp] at h
              exact h
            have HGGL := Lib.hid hGgl
            have HCN : Hid (∀ j, j < 1 → (wq.alloc (.cells #[.int .i64 (y : Int)] 3)).cell? ((⟨wq.heap.size, 0, none⟩ : Addr).add j) = some (iv ([(y : Int)].getD j 0))) := fun i hi => by
              obtain rfl : i = 0 := by omega
              rw [Addr.add_lit]
              simp [iv]
            have HLSP := Lib.hid hLsp
            have HGSL := Lib.hid (hgsl.trans hLsp)
            have hQq := M2.out.QW
            have e7 : Q ≤ wq.heap.size + 1 := by omega
            have e8 : Q ≤ (wq.alloc (.cells #[.int .i64 (y : Int)] 3)).heap.size := by rw [World.size_alloc]; exact e7
            clear hGs hLsp ssq hgsl hin hglQ hinT hgn hGgl hQq
            go_wp2_with (at_builtin; refine list_append_int _ rfl _ _ rfl Q gl t cl (niG T) rfl HIN.out ⟨wq.heap.size, 0, none⟩ 1 1 [(y : Int)] rfl rfl HCN.out (by omega) e8 (t + 1) rfl ?_)
            intro g2 c2 w2 hown2 hg2 hb2
            have ho2 := own_grE ((HOUT.out).alloc _) hg2 (fun k hk e => HGGL.out (by cases e; exact hk))
            have hcG := ho2.cellAt p (by omega)
            have hfG := ho2.frozenAt p
            rw [svs_at (by rw [List.length_append, List.length_append, HGSL.out, HLSP.out]; rfl) p (by rw [List.length_append, HLSP.out]; simp)] at hcG
            have M4 : Hid (Mv w (w2.setCell ⟨G, p, none⟩ (.slice (some ⟨g2, 0, none⟩) (t + 1) c2)) Q go n cO O (some ⟨G, 0, none⟩) co (gs1 ++ [(g2, c2)]) ((grp l O (k + 1)).map niG)) := by
              have hM := M2.out
              rw [List.map_append] at hM
              have h := Mv.more (x := (y : Int)) (g2 := g2) (c2 := c2) (W2 := w2) hM (by omega) hg2 (by rw [niG_len, HTl.out]; first | exact hown2 | (rw [List.map_append]; exact hown2) | simpa using hown2) (by rw [niG_len, HTl.out]; omega) (fun j hj => by
                rw [List.length_map] at hj
                obtain ⟨d1, d2⟩ := heads_differ HND.out HNE.out hj
                have e : (Ls.map niG).getD j [] = niG (Ls.getD j []) := by
                  rw [List.getD_eq_getElem?_getD, List.getD_eq_getElem?_getD, List.getElem?_map, List.getElem?_eq_getElem hj]; rfl
                rw [e, niG_len, niG_at _ d1, niG_at _ (by rw [HTl.out]; omega)]
                exact ⟨d1, fun e => d2 (by omega)⟩)
              rw [HLSP.out, niG_len, HTl.out] at h
              rw [HNX.out, List.map_append]
              have e2 : [niG (T ++ [y])] = [niG T ++ [(y : Int)]] := by unfold niG; simp
              show Mv w _ Q go n cO O _ co _ (Ls.map niG ++ [niG (T ++ [y])])
              rw [e2]
              exact h
            have HLN : Hid (p + 1 = (grp l O (k + 1)).length) := by show _ = _; rw [HNX.out, List.length_append]; have := HPm.out; rw [List.length_append] at this; exact this
            clear hown2 hg2 hb2 ho2 HIN HCN HOUT
            go_wp2
            go_roundw
            case rel => exact ⟨k + 1, p + 1, co, some ⟨G, 0, none⟩, gs1 ++ [(g2, c2)], grp l O (k + 1), by omega, by omega, by go_num, rfl, HLN, rfl, M4⟩
            case measure => simp [intOf]; omega
          · have hd : decide (u1 = u2) = false := decide_eq_false hu
            have HNX : Hid (grp l O (k + 1) = Ls ++ [T] ++ [[y]]) := HSN.out hu
            clear HSM HSN
            go_wp2
            clear c1 c2 c3 c4
            refine wp_region_quiet_below (by kernel_rfl) (by kernel_rfl) ?_
            repeat (go_big_quiet_step (fail))
            refine wpQuiet_nil ?_
            intro wq hw'
            have M2 := Lib.hid (HM.out wq hw')
            clear hw' c1r c2r c3r c4r
            obtain ⟨i0, hi, hz0, hz1, hz2⟩ := info_parts infoSS
            have HPl : Hid (((Ls ++ [T]).map niG).length = (p + 1)) := by show _ = _; rw [List.length_map]; exact HPm.out.symm
            have HOW : Hid (((wq.alloc (.cells #[.int .i64 (y : Int)] 3)).alloc (.cells #[.slice (some ⟨wq.heap.size, 0, none⟩) 1 1] 23)).ownsRow w.heap.size 23 1 (.slice (some ⟨G, 0, none⟩) (p + 1) co) (p + 1) (svs (gs1 ++ [(gl, cl)]) (Ls.map niG ++ [niG T]))) := by
              have := M2.out.ss.out
              rw [HPl.out] at this
              try simp only [List.map_append, List.map_cons, List.map_nil] at this
              exact (this.alloc _).alloc _
            have HCN : Hid (∀ j u, [Value.slice (some ⟨wq.heap.size, 0, none⟩) 1 1][j]? = some u → ((wq.alloc (.cells #[.int .i64 (y : Int)] 3)).alloc (.cells #[.slice (some ⟨wq.heap.size, 0, none⟩) 1 1] 23)).cell? ((⟨wq.heap.size + 1, 0, none⟩ : Addr).add j) = some u) := by
              have h := cell_one_new (wq.alloc (.cells #[.int .i64 (y : Int)] 3)) (.slice (some ⟨wq.heap.size, 0, none⟩) 1 1) 23
              rw [World.size_alloc] at h
              exact h
            have hwq := M2.out.hb.size
            go_wp2_with (at_builtin; refine wpList_append_own _ rfl _ _ 34 rfl w.heap.size 23 i0 (.slice none 0 0) 1 24 Try.underlying34 hi hz0 hz1 hz2 rfl (by decide) (.slice (some ⟨G, 0, none⟩) (p + 1) co) (p + 1) (svs (gs1 ++ [(gl, cl)]) (Ls.map niG ++ [niG T])) rfl HOW.out ⟨wq.heap.size + 1, 0, none⟩ 1 1 [.slice (some ⟨wq.heap.size, 0, none⟩) 1 1] rfl rfl HCN.out (by intro u hu; simp at hu; subst hu; rfl) (by unfold maxLen; omega) (by omega) (by simp; omega) ?_)
            intro v4 w4 ho4 hg4 hnil4
            obtain ⟨g4, c4, rfl⟩ : ∃ g4 c4, v4 = .slice (some ⟨g4, 0, none⟩) ((p + 1) + 1) c4 := by
              rcases ho4.2 with ⟨hv, _⟩ | ⟨g4, c4, cur, hv, _⟩
              · exact absurd hv (by simpa using hnil4)
              · exact ⟨g4, c4, hv⟩
            rw [blk_own] at hg4
            have M4 : Hid (Mv w w4 Q go n cO O (some ⟨g4, 0, none⟩) c4 ((gs1 ++ [(gl, cl)]) ++ [(wq.heap.size, 1)]) ((grp l O (k + 1)).map niG)) := by
              have h := M2.out.push (x := (y : Int)) (by omega) hg4 (by rw [HPl.out]; try simp only [List.map_append, List.map_cons, List.map_nil]
                                                                        exact ho4)
              rw [HNX.out, List.map_append]
              exact h
            have HLN : Hid ((p + 1) + 1 = (grp l O (k + 1)).length) := by show _ = _; rw [HNX.out, List.length_append, ← HPm.out]; rfl
            clear ho4 hg4 hnil4 HOW HCN
            go_wp2
            go_roundw
            case rel => exact ⟨k + 1, (p + 1) + 1, c4, some ⟨g4, 0, none⟩, (gs1 ++ [(gl, cl)]) ++ [(wq.heap.size, 1)], grp l O (k + 1), by omega, by omega, by go_num, rfl, HLN, rfl, M4⟩
            case measure => simp [intOf]; omega
      · obtain rfl : k = n := by omega
        have HE : Hid (P.map niG = levR l) := by show _ = _; rw [HLR.out, hP]
        have hlen : m = (levR l).length := by rw [← HE.out, List.length_map]; exact HPm.out
        have HLEN := Lib.hid hlen
        clear hlen hP
        go_wp2
        go_ret
        refine ⟨⟨ao, co, gs, by rw [← HLEN.out]; rfl, ?_⟩, HM1.out.hb⟩
        rw [← HE.out]; exact HM1.out.ss
  · have h40i : (40 : Int) < (n : Int) := by omega
    have HRR : Hid (levR l = []) := by show _ = _; unfold levR; rw [if_neg (by omega)]
    rw [← hn] at hl ⊢
    clear hrow hn
    go_enter Try.func58, Try.ntmps58
    go_wp2
    go_ret
    rw [HRR.out]
    exact ⟨⟨none, 0, [], rfl, OwnSS.nil _ _⟩, Below.refl _ _⟩
end Go.Proofs.Ytmeojedfokahmaa
