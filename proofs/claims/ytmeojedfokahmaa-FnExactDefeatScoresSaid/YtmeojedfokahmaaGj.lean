/-
  'PowerScores' and 'SecondScores' of the model. No conditions but the bounds that Go gives a slice.
-/
import Derived.Test.YtmeojedfokahmaaGi
import Derived.Test.YtmeojedfokahmaaJ0
namespace Go.Proofs.Ytmeojedfokahmaa
open Go.ChangeShapes Go.WideShapes Go.ChangeAt Go.RowKit Go.Sort
set_option linter.unusedVariables false

/-- The list as numbers that Go holds. -/
def nI (L : List Nat) : List Int := L.map Int.ofNat
theorem nI_len (L : List Nat) : (nI L).length = L.length := List.length_map _
theorem nI_at (L : List Nat) (j : Nat) : (nI L).getD j 0 = ((L.getD j 0 : Nat) : Int) := by
  unfold nI
  rw [List.getD_eq_getElem?_getD, List.getD_eq_getElem?_getD, List.getElem?_map]
  cases L[j]? <;> rfl
theorem one_cell (wr : World) (x : Int) : ∀ j, j < 1 → (wr.alloc (.cells #[.int .i64 x] 3)).cell? ((⟨wr.heap.size, 0, none⟩ : Addr).add j) = some (iv ([x].getD j 0)) := fun j hj => by
  obtain rfl : j = 0 := by omega
  rw [Addr.add_lit]
  simp [iv]
theorem own_one {wr : World} {B g n c : Nat} {L : List Value} (x : Int) (h : wr.ownsRow B 3 1 (.slice (some ⟨g, 0, none⟩) n c) n L) : (wr.alloc (.cells #[.int .i64 x] 3)).ownsRow B 3 1 (.slice (some ⟨g, 0, none⟩) n c) n L := by
  have hgn : wr.grownBy (wr.alloc (.cells #[.int .i64 x] 3)) none := World.grownBy_alloc _ _ _
  exact own_grown h hgn (fun k _ e => by cases e)
theorem sum_snoc (L : List Nat) (y : Nat) (h : y < L.length) : (L.take (y + 1)).sum = (L.take y).sum + L.getD y 0 := by
  rw [List.take_add_one, List.sum_append, List.getD_eq_getElem?_getD, List.getElem?_eq_getElem h]
  simp
theorem sum_take_le (L : List Nat) (M y : Nat) (h : ∀ x ∈ L, x ≤ M) (hl : L.length ≤ 8) : (L.take y).sum ≤ 8 * M := by
  have h1 := sum_le_of (L.take y) M (fun x hx => h x (List.mem_of_mem_take hx))
  have h2 : (L.take y).length ≤ 8 := by rw [List.length_take]; omega
  exact Nat.le_trans h1 (Nat.mul_le_mul_right _ h2)

set_option maxRecDepth 100000 in
set_option maxHeartbeats 4000000 in
theorem specPowers (n : Int) (a : Option Addr) (l : List Int) (cap : Nat) (k : Int) (w : World) (hrow : IntRow w a l) (hl : l.length ≤ maxLen) :
    Calls Try.prog 52 #[.agg #[.int .i64 n, .slice a l.length cap], .int .i64 k] w fun e w' => (∃ a0 c0, e = .returned (.slice a0 (powR n l k).length c0) ∧ w'.ownsRow w.heap.size 3 1 (.slice a0 (powR n l k).length c0) (powR n l k).length ((powR n l k).map iv)) ∧ Below w.heap.size w w' := by
  obtain ⟨Wa, hWa⟩ : ∃ Wa, Wa = w.alloc (.cells #[.int .i64 n, .slice a l.length cap] 25) := ⟨_, rfl⟩
  have HWa := Lib.hid hWa
  have hba : Below w.heap.size w Wa := by rw [hWa]; exact (Below.refl _ _).alloc (Nat.le_refl _) _
  have xa : Box Wa w.heap.size 25 (.int .i64 n) (.slice a l.length cap) := by rw [hWa]; exact Box.new _ _ _ _
  have hrowa : IntRow Wa a l := hrow.below hba (Nat.le_refl _)
  have HL := Lib.hid hl
  have HCT := Lib.hid (specTourOk n a l cap Wa hrowa hl)
  have XA := Lib.hid xa
  have c0 := xa.c0
  have c1 := xa.c1
  have BA := Lib.hid hba
  have RA := Lib.hid hrowa
  clear hl hrow hWa xa hba hrowa
  cases hok : okB n l
  · have HE : Hid (powR n l k = []) := by show _ = _; unfold powR; rw [hok]; simp
    have HO := Lib.hid hok
    clear hok
    go_enter Try.func52, Try.ntmps52
    go_wp2_with fail
    rw [← HWa.out]
    refine HCT.out.mono ?_
    rintro e w1 ⟨rfl, hb1⟩
    rw [HO.out]
    go_wp2
    go_ret
    rw [HE.out]
    exact ⟨⟨none, 0, rfl, own_nil _ _⟩, BA.out.trans (hb1.mono BA.out.size)⟩
  · by_cases hin : 0 ≤ k ∧ k ≤ 12
    · have hok' := okB_iff.1 hok
      have h8 : l.length ≤ 8 := by have := hok'.2.1; have := hok'.2.2.1; omega
      have h1 : 1 ≤ l.length := by have := hok'.1; have := hok'.2.2.1; omega
      obtain rfl : n = (l.length : Int) := hok'.2.2.1.symm
      have HK := Lib.hid hok'
      have HO := Lib.hid hok
      obtain ⟨K, rfl⟩ : ∃ K : Nat, k = (K : Int) := ⟨k.toNat, by omega⟩
      have hK : K ≤ 12 := by omega
      have HE : Hid (powR l.length l K = (powTo l K).map Int.ofNat) := by show _ = _; unfold powR; rw [if_pos ⟨hok, by omega, by omega⟩]; rfl
      have HEl : Hid ((powR l.length l K).length = l.length) := by show _ = _; rw [HE.out, List.length_map, powTo_len]
      have HIN : Hid ((decide ((0 : Int) ≤ (K : Int)) && decide ((K : Int) ≤ 12)) = true) := by show _ = _; rw [decide_eq_true hin.1, decide_eq_true hin.2]; rfl
      obtain ⟨m, hm⟩ : ∃ m, m = l.length := ⟨_, rfl⟩
      have HMl := Lib.hid hm
      rw [← hm] at h8 h1
      clear hok hok' hin
      rw [← hm] at c0 c1 HWa HCT XA HE HEl HO HK ⊢
      clear hm
      go_enter Try.func52, Try.ntmps52
      go_wp2_with fail
      rw [← HWa.out]
      refine HCT.out.mono ?_
      rintro e w1 ⟨rfl, hb1⟩
      rw [HO.out]
      have xa1 := XA.out.below hb1 XA.out.lt
      have B1 := BA.out.trans (hb1.mono BA.out.size)
      have R1 := RA.out.below hb1 (Nat.le_refl _)
      go_wp2_with fail
      refine (l01In_any (K : Int) 0 12 w1).mono ?_
      rintro e w2 ⟨rfl, rfl⟩
      rw [HIN.out]
      obtain ⟨Q, hQ⟩ : ∃ Q, Q = w1.heap.size := ⟨_, rfl⟩
      have hwQ : w.heap.size < Q := by rw [hQ]; exact xa1.lt
      have O2 : Hid ((w1.alloc (.cells #[] 3)).ownsRow Q 3 1 (.slice (some ⟨Q, 0, none⟩) 0 0) 0 ((nI (List.replicate 0 1)).map iv)) := own_empty w1 Q Q (by omega) hQ.symm
      have B2 : Hid (Below Q w1 (w1.alloc (.cells #[] 3))) := by rw [hQ]; exact Below.one w1 _
      have HBox : Hid (∀ W, Below Q w1 W → Box W w.heap.size 25 (.int .i64 (m : Int)) (.slice a m cap)) := fun W hW => xa1.below hW hwQ
      have HRow : Hid (∀ W, Below Q w1 W → IntRow W a l) := fun W hW => R1.below hW (by omega)
      have HB1 := Lib.hid B1
      have HQ := Lib.hid hQ
      have c2 := (HBox.out _ B2.out).c0
      have c3 := (HBox.out _ B2.out).c1
      rw [hQ] at O2
      clear xa1 B1 R1 hb1 HCT c0 c1 XA RA BA
      go_wp2
      rw [← hQ]
      rw [← hQ] at O2
      clear c2 c3 hQ
      go_loopw [5, 25] (fun o i wr => ∃ (x g c : Nat), x ≤ m ∧ i = .int .i64 (x : Int) ∧ o = .slice (some ⟨g, 0, none⟩) x c ∧ Hid (wr.ownsRow Q 3 1 (.slice (some ⟨g, 0, none⟩) x c) x ((nI (List.replicate x 1)).map iv)) ∧ Hid (Below Q w1 wr)) (fun _ i _ => m - (intOf i).toNat)
      case atStart => exact ⟨0, Q, 0, Nat.zero_le _, rfl, rfl, O2, B2⟩
      case round =>
        clear O2 B2
        obtain ⟨x, g, c, hx, rfl, rfl, O1, B1⟩ := hrel
        have hQs : Q ≤ wr.heap.size := by have := B1.out.size; have := HQ.out; omega
        by_cases hlt : x < m
        · have hxi : (x : Int) < (m : Int) := by omega
          have O4 := Lib.hid (own_one 1 O1.out)
          have B4 := Lib.hid (B1.out.alloc hQs (.cells #[.int .i64 1] 3))
          have HC4 := Lib.hid (one_cell wr 1)
          have hQ4 : Q ≤ (wr.alloc (.cells #[.int .i64 1] 3)).heap.size := by simp; omega
          clear O1 B1
          go_wp2_with (at_builtin; refine list_append_int _ rfl _ _ rfl Q g x c (nI (List.replicate x 1)) rfl O4.out ⟨wr.heap.size, 0, none⟩ 1 1 [1] rfl rfl HC4.out (by omega) hQ4 (x + 1) rfl ?_)
          intro g4 c4 w4 hown4 hg4 hb4
          have OO4 : Hid (w4.ownsRow Q 3 1 (.slice (some ⟨g4, 0, none⟩) (x + 1) c4) (x + 1) ((nI (List.replicate (x + 1) 1)).map iv)) := by
            show World.ownsRow _ _ _ _ _ _ _
            have e : nI (List.replicate x 1) ++ [(1 : Int)] = nI (List.replicate (x + 1) 1) := by simp [nI, List.replicate_succ']
            rw [← e]
            first | exact hown4 | simpa using hown4
          have BB4 := Lib.hid (B4.out.trans hb4)
          clear hown4 hg4 hb4 O4 HC4 B4 hQ4 hQs
          go_wp2
          go_roundw
          case rel => exact ⟨x + 1, g4, c4, by omega, by go_num, rfl, OO4, BB4⟩
          case measure => simp [intOf]; omega
        · obtain rfl : x = m := by omega
          have O2 : Hid (wr.ownsRow Q 3 1 (.slice (some ⟨g, 0, none⟩) x c) x ((nI (powTo l 0)).map iv)) := by
            show World.ownsRow _ _ _ _ _ _ _
            rw [powTo, ← HMl.out]; exact O1.out
          have B2 := B1
          clear O1 B1 hQs
          go_wp2
          go_loopw [5, 6] (fun o i wr => ∃ (q g c : Nat), q ≤ K ∧ i = .int .i64 (q : Int) ∧ o = .slice (some ⟨g, 0, none⟩) x c ∧ Hid (wr.ownsRow Q 3 1 (.slice (some ⟨g, 0, none⟩) x c) x ((nI (powTo l q)).map iv)) ∧ Hid (Below Q w1 wr)) (fun _ i _ => K - (intOf i).toNat)
          case atStart => exact ⟨0, g, c, Nat.zero_le _, rfl, rfl, O2, B2⟩
          case round =>
            clear O2 B2
            obtain ⟨q, g, c, hq, rfl, rfl, O1, B1⟩ := hrel
            have hQs : Q ≤ wr.heap.size := by have := B1.out.size; have := HQ.out; omega
            by_cases hltq : q < K
            · have hqi : (q : Int) < (K : Int) := by omega
              have c0 := (HBox.out _ B1.out).c0
              have c1 := (HBox.out _ B1.out).c1
              obtain ⟨G, hG⟩ : ∃ G, G = wr.heap.size := ⟨_, rfl⟩
              have hgw : g < G := by rw [hG]; exact (O1.out.lt g rfl).2
              have O3 : Hid ((wr.alloc (.cells #[] 3)).ownsRow G 3 1 (.slice (some ⟨G, 0, none⟩) 0 0) 0 ((nI ((powTo l (q + 1)).take 0)).map iv)) := own_empty wr G G (by omega) hG.symm
              have B3 : Hid (Below G wr (wr.alloc (.cells #[] 3))) := by rw [hG]; exact Below.one wr _
              have hQG : Q ≤ G := by omega
              have HBx : Hid (∀ W, Below G wr W → Below Q w1 W) := fun W hW => B1.out.trans (hW.mono hQG)
              have HP : Hid (∀ W, Below G wr W → W.ownsRow Q 3 1 (.slice (some ⟨g, 0, none⟩) x c) x ((nI (powTo l q)).map iv)) := fun W hW => by
                rw [hG] at hW; exact own_below O1.out hW
              have HG := Lib.hid hG
              have c2 := (HBox.out _ (HBx.out _ B3.out)).c0
              have c3 := (HBox.out _ (HBx.out _ B3.out)).c1
              rw [hG] at O3
              clear O1 B1
              go_wp2
              rw [← hG]
              rw [← hG] at O3
              clear c0 c1 c2 c3 hG
              obtain ⟨wo, hwo⟩ : ∃ wo, wo = wr := ⟨_, rfl⟩
              subst hwo
              go_loopw [7, 40] (fun o i wr3 => ∃ (y g2 c2 : Nat), y ≤ x ∧ i = .int .i64 (y : Int) ∧ o = .slice (some ⟨g2, 0, none⟩) y c2 ∧ Hid (wr3.ownsRow G 3 1 (.slice (some ⟨g2, 0, none⟩) y c2) y ((nI ((powTo l (q + 1)).take y)).map iv)) ∧ Hid (Below G wo wr3)) (fun _ i _ => x - (intOf i).toNat)
              case atStart => exact ⟨0, G, 0, Nat.zero_le _, rfl, rfl, O3, B3⟩
              case round =>
                clear O3 B3
                obtain ⟨y, g2, c2, hy, rfl, rfl, O1, B1⟩ := hrel
                have hG3 : G ≤ wr.heap.size := by have := B1.out.size; have := HG.out; omega
                by_cases hlty : y < x
                · have hyi : (y : Int) < (x : Int) := by omega
                  have hyl : y < l.length := by have := HMl.out; omega
                  obtain ⟨v, hv, hvlt, hv8⟩ := HK.out.nat hyl
                  obtain ⟨ba, off, rfl, hbb, hca⟩ := row_at (HRow.out _ (HBx.out _ B1.out)) hyl
                  have hcv := hca y hyl
                  rw [hv] at hcv
                  have hel := elems_losers l.length l y v (by have := HMl.out; omega) hv hvlt
                  have hE8 : (elems v).length ≤ 8 := elTo_len _ _
                  have HEb : Hid (∀ z, z < (elems v).length → (elems v).getD z 0 < x) := fun z hz => by
                    rw [List.getD_eq_getElem?_getD, List.getElem?_eq_getElem hz]
                    have hm : (elems v)[z] ∈ (losers l.length l y).map Fin.val := by rw [← hel]; exact List.getElem_mem _
                    obtain ⟨f, _, hf⟩ := List.mem_map.1 hm
                    have := f.isLt
                    have := HMl.out
                    show (elems v)[z] < x
                    omega
                  obtain ⟨S, hS⟩ : ∃ S, S = (elems v).map fun b => (powTo l q).getD b 0 := ⟨_, rfl⟩
                  have hSl : S.length = (elems v).length := by rw [hS, List.length_map]
                  have HS45 : Hid (∀ z, (S.take z).sum ≤ 8 * 2 ^ 45) := fun z => sum_take_le S (2 ^ 45) z (by
                    intro u hu
                    rw [hS] at hu
                    obtain ⟨b, _, rfl⟩ := List.mem_map.1 hu
                    exact getD_le _ _ (powTo_le45 l (by omega)) b) (by omega)
                  have HSat : Hid (∀ z, z < (elems v).length → S.getD z 0 = (powTo l q).getD ((elems v).getD z 0) 0) := fun z hz => by
                    rw [hS, List.getD_eq_getElem?_getD, List.getElem?_map, List.getElem?_eq_getElem hz, List.getD_eq_getElem?_getD (l := elems v), List.getElem?_eq_getElem hz]; rfl
                  have HSnoc : Hid ((powTo l (q + 1)).take (y + 1) = (powTo l (q + 1)).take y ++ [S.sum]) := by
                    show _ = _
                    rw [List.take_add_one]
                    congr 1
                    have e : (powTo l (q + 1))[y]? = some S.sum := by
                      rw [powTo, sumsL, List.getElem?_map, List.getElem?_eq_getElem hyl]
                      have hly : l[y] = (v : Int) := by rw [← hv, List.getD_eq_getElem?_getD, List.getElem?_eq_getElem hyl]; rfl
                      simp only [Option.map_some, hly, Int.toNat_natCast]
                      rw [hS]
                    rw [e]; rfl
                  obtain ⟨E, hE⟩ : ∃ E, E = (elems v).length := ⟨_, rfl⟩
                  rw [← hE] at hE8 hSl
                  have HE2 := Lib.hid hE
                  have HSl := Lib.hid hSl
                  have HV8 := Lib.hid hv8
                  clear hv hvlt hel hS hca hbb hSl hv8
                  go_wp2_with fail
                  refine (l02List_any v HV8.out wr).mono ?_
                  rintro e w5 ⟨⟨ge, ce, rfl, ho5⟩, hb5⟩
                  rw [← HE2.out] at ho5 ⊢
                  have O5 := Lib.hid ho5
                  have hbG : Below G wo w5 := B1.out.trans (hb5.mono hG3)
                  have B5 := Lib.hid hbG
                  have T5 := Lib.hid (own_below O1.out hb5)
                  have P5 := Lib.hid (HP.out w5 hbG)
                  clear ho5 hb5 hbG hcv O1 B1 hE
                  go_wp2
                  go_loopw [10, 47] (fun s i wr4 => ∃ (z t : Nat), z ≤ E ∧ i = .int .i64 (z : Int) ∧ s = .int .i64 (t : Int) ∧ Hid (t = (S.take z).sum) ∧ wr4 = w5) (fun _ i _ => E - (intOf i).toNat)
                  case atStart => exact ⟨0, 0, Nat.zero_le _, rfl, rfl, by simp [Hid], rfl⟩
                  case round =>
                    obtain ⟨z, t, hz, rfl, rfl, ht, rfl⟩ := hrel
                    have ht45 : t ≤ 8 * 2 ^ 45 := by rw [ht.out]; exact HS45.out z
                    by_cases hltz : z < E
                    · have hzi : (z : Int) < (E : Int) := by omega
                      have hzl : z < (elems v).length := by have := HE2.out; omega
                      obtain ⟨bq, hbq⟩ : ∃ bq, bq = (elems v).getD z 0 := ⟨_, rfl⟩
                      have hbx : bq < x := by rw [hbq]; exact HEb.out z hzl
                      have hbi : (bq : Int) < (x : Int) := by omega
                      have f1 : wr.cell? ⟨ge, z, none⟩ = some (.int .i64 (bq : Int)) := by
                        rw [O5.out.cellAt z (by omega), List.getElem?_map, List.getElem?_eq_getElem hzl, hbq, List.getD_eq_getElem?_getD, List.getElem?_eq_getElem hzl]; rfl
                      obtain ⟨pv, hpv⟩ : ∃ pv, pv = (powTo l q).getD bq 0 := ⟨_, rfl⟩
                      have f2 : wr.cell? ⟨g, bq, none⟩ = some (.int .i64 (pv : Int)) := by
                        rw [cell_own P5.out hbx, nI_at, ← hpv]; rfl
                      have hpv45 : pv ≤ 2 ^ 45 := by rw [hpv]; exact getD_le _ _ (powTo_le45 l (by omega)) bq
                      have hwr : IntKind.i64.wrap ((t : Int) + (pv : Int)) = (t : Int) + (pv : Int) := by rw [IntKind.wrap_i64]; omega
                      have ht2 : Hid (t + pv = (S.take (z + 1)).sum) := by
                        show _ = _
                        rw [sum_snoc S z (by rw [HSl.out]; exact hltz), HSat.out z hzl, ← ht.out, ← hbq, hpv]
                      clear ht hbq hpv
                      go_wp2
                      go_roundw
                      case rel => exact ⟨z + 1, t + pv, by omega, by go_num, by first | rfl | (congr 1), ht2, trivial⟩
                      case measure => simp [intOf]; omega
                    · obtain rfl : z = E := by omega
                      have HT : Hid (t = S.sum) := by show _ = _; rw [ht.out, List.take_of_length_le (by rw [HSl.out]; exact Nat.le_refl _)]
                      have hG5 : G ≤ wr.heap.size := by have := B5.out.size; have := HG.out; omega
                      have hG6 : G ≤ (wr.alloc (.cells #[.int .i64 (t : Int)] 3)).heap.size := by simp; omega
                      have O6 := Lib.hid (own_one (t : Int) T5.out)
                      have B6 := Lib.hid (B5.out.alloc hG5 (.cells #[.int .i64 (t : Int)] 3))
                      have HC6 := Lib.hid (one_cell wr (t : Int))
                      clear ht
                      go_wp2_with (at_builtin; refine list_append_int _ rfl _ _ rfl G g2 y c2 (nI ((powTo l (q + 1)).take y)) rfl O6.out ⟨wr.heap.size, 0, none⟩ 1 1 [(t : Int)] rfl rfl HC6.out (by omega) hG6 (y + 1) rfl ?_)
                      intro g7 c7 w7 hown7 hg7 hb7
                      have OO7 : Hid (w7.ownsRow G 3 1 (.slice (some ⟨g7, 0, none⟩) (y + 1) c7) (y + 1) ((nI ((powTo l (q + 1)).take (y + 1))).map iv)) := by
                        show World.ownsRow _ _ _ _ _ _ _
                        have e : nI ((powTo l (q + 1)).take y) ++ [(t : Int)] = nI ((powTo l (q + 1)).take (y + 1)) := by
                          rw [HSnoc.out, HT.out]; unfold nI; rw [List.map_append]; rfl
                        rw [← e]
                        first | exact hown7 | simpa using hown7
                      have BB7 := Lib.hid (B6.out.trans hb7)
                      clear hown7 hg7 hb7 O6 HC6 B6 hG6 hG5
                      go_wp2
                      go_roundw
                      case rel => exact ⟨y + 1, g7, c7, by omega, by go_num, rfl, OO7, BB7⟩
                      case measure => simp [intOf]; omega
                · obtain rfl : y = x := by omega
                  have O9 : Hid (wr.ownsRow Q 3 1 (.slice (some ⟨g2, 0, none⟩) y c2) y ((nI (powTo l (q + 1))).map iv)) := by
                    have := O1.out.mono hQG
                    rw [List.take_of_length_le (by rw [powTo_len]; have := HMl.out; omega)] at this
                    exact this
                  have B9 := Lib.hid (HBx.out _ B1.out)
                  clear O1 B1
                  go_wp2
                  go_roundw
                  case rel => exact ⟨q + 1, g2, c2, by omega, by go_num, rfl, O9, B9⟩
                  case measure => simp [intOf]; omega
            · obtain rfl : q = K := by omega
              have O9 := Lib.hid (O1.out.mono (Nat.le_of_lt hwQ))
              have B9 : Hid (Below w.heap.size w wr) := HB1.out.trans (B1.out.mono (Nat.le_of_lt hwQ))
              clear O1 B1
              go_wp2
              go_ret
              refine ⟨⟨some ⟨g, 0, none⟩, c, by rw [HEl.out]; rfl, ?_⟩, B9.out⟩
              rw [HEl.out, HE.out]; exact O9.out
    · have HE : Hid (powR n l k = []) := by show _ = _; unfold powR; rw [if_neg (fun h => hin h.2)]
      have HO := Lib.hid hok
      have HIN : Hid ((decide ((0 : Int) ≤ k) && decide (k ≤ 12)) = false) := by
        show _ = _
        rw [Bool.and_eq_false_iff, decide_eq_false_iff_not, decide_eq_false_iff_not]; omega
      clear hok hin
      go_enter Try.func52, Try.ntmps52
      go_wp2_with fail
      rw [← HWa.out]
      refine HCT.out.mono ?_
      rintro e w1 ⟨rfl, hb1⟩
      rw [HO.out]
      go_wp2_with fail
      refine (l01In_any k 0 12 w1).mono ?_
      rintro e w2 ⟨rfl, rfl⟩
      rw [HIN.out]
      go_wp2
      go_ret
      rw [HE.out]
      exact ⟨⟨none, 0, rfl, own_nil _ _⟩, BA.out.trans (hb1.mono BA.out.size)⟩

set_option maxHeartbeats 400000 in
theorem specSeconds (n : Int) (a : Option Addr) (l : List Int) (cap : Nat) (w : World) (hrow : IntRow w a l) (hl : l.length ≤ maxLen) :
    Calls Try.prog 45 #[.agg #[.int .i64 n, .slice a l.length cap]] w fun e w' => (∃ a0 c0, e = .returned (.slice a0 (powR n l 2).length c0) ∧ w'.ownsRow w.heap.size 3 1 (.slice a0 (powR n l 2).length c0) (powR n l 2).length ((powR n l 2).map iv)) ∧ Below w.heap.size w w' := by
  obtain ⟨Wa, hWa⟩ : ∃ Wa, Wa = w.alloc (.cells #[.int .i64 n, .slice a l.length cap] 25) := ⟨_, rfl⟩
  have HWa := Lib.hid hWa
  have hba : Below w.heap.size w Wa := by rw [hWa]; exact (Below.refl _ _).alloc (Nat.le_refl _) _
  have HC := Lib.hid (specPowers n a l cap 2 Wa (hrow.below hba (Nat.le_refl _)) hl)
  have BA := Lib.hid hba
  clear hrow hl hWa hba
  go_enter Try.func45, Try.ntmps45
  go_wp2_with fail
  rw [← HWa.out]
  refine HC.out.mono ?_
  rintro e w1 ⟨⟨a0, c0, rfl, ho⟩, hb⟩
  have HO := Lib.hid (ho.mono BA.out.size)
  have HB := Lib.hid (BA.out.trans (hb.mono BA.out.size))
  clear ho hb
  go_wp2
  go_ret
  exact ⟨⟨a0, c0, rfl, HO.out⟩, HB.out⟩
end Go.Proofs.Ytmeojedfokahmaa
