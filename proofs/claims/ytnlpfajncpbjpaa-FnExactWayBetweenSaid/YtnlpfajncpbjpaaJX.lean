/-
  'l06Cycle' of the model, walked whole. Condition: the tour is valid.
-/
import Derived.Test.YtnlpfajncpbjpaaJV
import Derived.Test.YtnlpfajncpbjpaaJ0
import Derived.Deep.RegionHeld3
namespace Go.Proofs.Ytnlpfajncpbjpaa
open Go.ChangeShapes Go.WideShapes Go.ChangeAt Go.RowKit Go.Shelf
set_option linter.unusedVariables false

theorem news1 {W : World} {B : Nat} {v : Value} (h : W.heap[B]? = some (.cells #[v] 3 (0, 0))) : ∀ j u, ([v] : List Value)[j]? = some u → W.cell? ((⟨B, 0, none⟩ : Addr).add j) = some u := World.news_of_block (cs := #[v]) h
/-- What the search answers where it goes on. -/
def CyN (B : Nat) (r : Option (List Nat)) (w : World) (e : Ending) (w' : World) : Prop :=
  ∃ v, e = .returned (.tuple #[v, .bool r.isSome]) ∧ (∀ y, r = some y → w'.ownsRow B 3 1 v y.length (y.map nv)) ∧ (r = none → v = .slice none 0 0) ∧ Below w.heap.size w w'
theorem CyN.weak {B : Nat} {r : Option (List Nat)} {w : World} {e : Ending} {w' : World} (h : CyN B r w e w') : CyP B r w e w' := by
  obtain ⟨v, h1, h2, _, h3⟩ := h
  exact ⟨v, h1, h2, h3⟩
theorem enters80 : ∀ args w, (callFunc 80 args).run Try.prog w = .ok (.enter 80 args) w := enters_of Try.func80 (by kernel_rfl) rfl
/-- What has been looked through: none of the first j goes on to a cycle. -/
def NoJ (l : List Int) (k : Int) (m : Nat) (p E : List Nat) (j : Nat) : Prop := ∀ q b, q < j → E[q]? = some b → b ∉ p → (Hw.ext (ww l) k (m - 1) (p ++ [b])).find? (cE l) = none
theorem nx_filter (f : Nat → Nat) (p : List Nat) : Hw.nx f p = (elems (f (p.getLastD 0))).filter fun b => !p.contains b := rfl
theorem NoJ.none {l : List Int} {k : Int} {m : Nat} {p : List Nat} (hk : (p.length : Int) ≠ k) (hp : p.Nodup) (h8 : ∀ x ∈ p, x < 8) (hl : p.length + m = 8) (h : NoJ l k m p (elems (ww l (p.getLastD 0))) (elems (ww l (p.getLastD 0))).length) : (Hw.ext (ww l) k m p).find? (cE l) = none := by
  rw [← extT_all hk hp h8 hl]
  unfold extT
  rw [List.take_of_length_le (Nat.le_refl _), Hw.find_flat, List.findSome?_eq_none_iff]
  intro b hb
  rw [nx_filter] at hb
  obtain ⟨h1, h2⟩ := List.mem_filter.1 hb
  obtain ⟨q, hq, hqb⟩ := List.mem_iff_getElem.1 h1
  exact h q b hq (by rw [List.getElem?_eq_getElem hq, hqb]) (by simpa using h2)
theorem findSome_filter {α β : Type} {g : α → Option β} {c : α → Bool} {y : β} : ∀ (E : List α) (j : Nat) (b : α), E[j]? = some b → c b = true → g b = some y → (∀ q x, q < j → E[q]? = some x → c x = true → g x = none) → (E.filter c).findSome? g = some y := by
  intro E
  induction E with
  | nil => intro j b h; simp at h
  | cons x E ih =>
    intro j b h1 h2 h3 h4
    cases j with
    | zero =>
      obtain rfl : x = b := by simpa using h1
      rw [List.filter_cons, if_pos h2, List.findSome?_cons, h3]
    | succ j =>
      have := ih j b (by simpa using h1) h2 h3 (fun q x hq hx => h4 (q + 1) x (by omega) (by simpa using hx))
      rw [List.filter_cons]
      split
      · rename_i hc
        rw [List.findSome?_cons, h4 0 x (by omega) (by simp) hc]; exact this
      · exact this
theorem NoJ.some {l : List Int} {k : Int} {m : Nat} {p : List Nat} {j b : Nat} {y : List Nat} (hk : (p.length : Int) ≠ k) (hp : p.Nodup) (h8 : ∀ x ∈ p, x < 8) (hl : p.length + m = 8) (h : NoJ l k m p (elems (ww l (p.getLastD 0))) j) (hb : (elems (ww l (p.getLastD 0)))[j]? = some b) (hbp : b ∉ p)
    (hy : (Hw.ext (ww l) k (m - 1) (p ++ [b])).find? (cE l) = some y) : (Hw.ext (ww l) k m p).find? (cE l) = some y := by
  rw [← extT_all hk hp h8 hl]
  unfold extT
  rw [List.take_of_length_le (Nat.le_refl _), Hw.find_flat, nx_filter]
  exact findSome_filter _ j b hb (by simp [hbp]) hy (fun q x hq hx hc => h q x hq hx (by simpa using hc))

set_option maxRecDepth 100000 in
set_option maxHeartbeats 8000000 in
theorem l06Cycle_on (n : Int) (a : Option Addr) (l : List Int) (cap : Nat) (k : Int) (hok : Ok n l) (m : Nat) (IH : ∀ m', m = m' + 1 → CyC n a l cap k m') (p : List Nat) (B g c0 : Nat) (w : World) (hrow : IntRow w a l) (hm : p.length + m = 8) (hway : Hw.Way (ww l) p) (hne : p ≠ []) (hlow : ∀ x ∈ p, x < l.length) (hB : B ≤ w.heap.size)
    (hown : w.ownsRow B 3 1 (.slice (some ⟨g, 0, none⟩) p.length c0) p.length (p.map nv)) (hk : (p.length : Int) ≠ k) :
    Calls Try.prog 80 #[.agg #[.int .i64 n, .slice a l.length cap], .slice (some ⟨g, 0, none⟩) p.length c0, .int .i64 k] w (CyN B ((Hw.ext (ww l) k m p).find? (cE l)) w) := by
  have hl8 : l.length ≤ 8 := by have := hok.2.1; have := hok.2.2.1; omega
  have h8 : ∀ x ∈ p, x < 8 := fun x hx => Nat.lt_of_lt_of_le (hlow x hx) hl8
  obtain ⟨i0, hi, hz0, hz1, hz2⟩ := info_parts infoInt
  have hlm : l.length ≤ 9223372036854775807 := by omega
  have hpos := List.length_pos_iff.2 hne
  have hpl : p.length ≤ l.length := Hw.way_len hway.1 hlow
  have HNK := Lib.hid hk
  have HM8 := Lib.hid hm
  obtain ⟨kp, hkp⟩ : ∃ kp, kp = p.length := ⟨_, rfl⟩
  rw [← hkp] at hown hpos hpl hk ⊢
  have hkb : ((kp : Int) == k) = false := by simpa using hk
  obtain ⟨u, hu⟩ : ∃ u, u = p.getLastD 0 := ⟨_, rfl⟩
  have hul : u < l.length := by rw [hu, Hw.last_getD p hne]; exact hlow _ (getD_mem (by omega))
  obtain ⟨Wa, hWa⟩ : ∃ Wa, Wa = w.alloc (.cells #[.int .i64 n, .slice a l.length cap] 25) := ⟨_, rfl⟩
  have hba : Below w.heap.size w Wa := by rw [hWa]; exact (Below.refl _ _).alloc (Nat.le_refl _) _
  have xa : Box Wa w.heap.size 25 (.int .i64 n) (.slice a l.length cap) := by rw [hWa]; exact Box.new _ _ _ _
  have hrowa : IntRow Wa a l := hrow.below hba (Nat.le_refl _)
  have howa := own_below hown hba
  have hcu : Wa.cell? ⟨g, kp - 1, none⟩ = some (.int .i64 (u : Int)) := by
    rw [howa.cellAt (kp - 1) (by omega), List.getElem?_map, hu, Hw.last_getD p hne, ← hkp, List.getD_eq_getElem?_getD, List.getElem?_eq_getElem (by omega)]; rfl
  have hk1 : (1 : Int) ≤ (kp : Int) := by omega
  have hk3 : ((kp : Int) - 1).toNat = kp - 1 := by omega
  obtain ⟨hz1', hz2', hz3⟩ := hok.ww hul
  obtain ⟨z, hzz⟩ : ∃ z, z = ww l u := ⟨_, rfl⟩
  rw [← hzz] at hz1' hz2' hz3
  obtain ⟨ab, off, rfl, habl, hcx⟩ := hrowa.at hul
  rw [hz1'] at hcx
  have c1 := xa.c1
  have hli := l02List_any z hz3 Wa
  have hEz : elems z = elems (ww l (p.getLastD 0)) := by rw [hzz, hu]
  obtain ⟨M, hM⟩ : ∃ M, M = (elems z).length := ⟨_, rfl⟩
  rw [← hM] at hli
  have hM8 : M ≤ 8 := by rw [hM]; exact elTo_len z 8
  have hui : (u : Int) < (l.length : Int) := by omega
  have HLI := Lib.hid hli
  have HM := Lib.hid hM
  have HEZ := Lib.hid hEz
  have HEZ2 := Lib.hid hzz
  have HU := Lib.hid hu
  have HIH := Lib.hid IH
  have HOK := Lib.hid hok
  have HWa := Lib.hid hWa
  have HKP := Lib.hid hkp
  have HWAY := Lib.hid hway
  have HLOW := Lib.hid hlow
  have HR := Lib.hid hrow
  have HOA := Lib.hid howa
  have HXA := Lib.hid xa
  have HBA := Lib.hid hba
  have hga := (howa.lt g rfl).2
  have h63 : kp < 63 := by omega
  rw [HWa.out] at hcu hcx c1
  clear hli hM hEz IH hok hWa hkp hway hlow hrow hrowa howa xa hba hown hk hm hu hz1' hz2' hzz habl hne
  go_enter Try.func80, Try.ntmps80
  go_wp2_with fail
  rw [← HWa.out]
  refine HLI.out.mono ?_
  rintro e w1 ⟨⟨ge, ce, rfl, hel⟩, hb1⟩
  have HEL := Lib.hid hel
  have hgel := (hel.lt ge rfl).2
  have XA1 := Lib.hid (HXA.out.below hb1 HXA.out.lt)
  have B1 := Lib.hid (HBA.out.trans (hb1.mono HBA.out.size))
  have HO1 := Lib.hid (own_below HOA.out hb1)
  have hg1 : g < w1.heap.size := Nat.lt_of_lt_of_le hga hb1.size
  clear hel hb1 hcu hcx c1 HLI HOA HXA HBA hga
  go_wp2
  go_loopw [40] (fun i wr => ∃ j : Nat, j ≤ M ∧ i = .int .i64 (j : Int) ∧ Hid (NoJ l k m p (elems z) j) ∧ Below w1.heap.size w1 wr) (fun i _ => M - (intOf i).toNat)
  case atStart => exact ⟨0, Nat.zero_le _, rfl, fun q b h => absurd h (Nat.not_lt_zero _), Below.refl _ _⟩
  case round =>
    obtain ⟨j, hj, rfl, hno, hb⟩ := hrel
    by_cases hlt : j < M
    · obtain ⟨b, hbj⟩ : ∃ b, (elems z)[j]? = some b := ⟨_, List.getElem?_eq_getElem (by rw [← HM.out]; exact hlt)⟩
      have hb8 := (Hw.mem_elems.1 (List.mem_of_getElem? hbj)).1
      have hcr : wr.cell? ⟨ge, j, none⟩ = some (.int .i64 (b : Int)) := by
        rw [hb.cell (p := ⟨ge, j, none⟩) hgel, HEL.out.cellAt j (by omega), List.getElem?_map, hbj]; rfl
      have hjb : (j : Int) < (M : Int) := by omega
      have HORr : Hid (wr.ownsRow B 3 1 (.slice (some ⟨g, 0, none⟩) kp c0) kp (p.map nv)) := own_below HO1.out hb
      have HXR := Lib.hid (XA1.out.below hb XA1.out.lt)
      have HBR := Lib.hid (B1.out.trans (hb.mono B1.out.size))
      have HNO := Lib.hid hno
      have HBJ := Lib.hid hbj
      have HB := Lib.hid hb
      clear hno hbj hb
      go_wp2
      go_loopw [11, 46] (fun sn i w2 => ∃ q : Nat, q ≤ kp ∧ i = .int .i64 (q : Int) ∧ sn = .bool ((p.take q).contains b) ∧ w2 = wr) (fun _ i _ => kp - (intOf i).toNat)
      case atStart => exact ⟨0, Nat.zero_le _, rfl, rfl, rfl⟩
      case round =>
        obtain ⟨q, hq, rfl, rfl, rfl⟩ := hrel
        by_cases hlq : q < kp
        · obtain ⟨x, hx⟩ : ∃ x, p[q]? = some x := ⟨_, List.getElem?_eq_getElem (by rw [← HKP.out]; exact hlq)⟩
          have hcq : wr.cell? ⟨g, q, none⟩ = some (.int .i64 (x : Int)) := by
            rw [HORr.out.cellAt q (by omega), List.getElem?_map, hx]; rfl
          have hqb : (q : Int) < (kp : Int) := by omega
          have hsn : (p.take (q + 1)).contains b = ((p.take q).contains b || (x == b)) := by
            rw [take_snoc p q x hx, List.contains_append]
            congr 1
            rw [Bool.eq_iff_iff, List.contains_iff_mem, List.mem_singleton, beq_iff_eq]
            exact eq_comm
          obtain ⟨t0, ht0⟩ : ∃ t0, t0 = (p.take q).contains b := ⟨_, rfl⟩
          rw [← ht0] at hsn ⊢
          have hxb : ((x : Int) == (b : Int)) = (x == b) := by
            rw [Bool.eq_iff_iff, beq_iff_eq, beq_iff_eq]; omega
          obtain ⟨t1, ht1⟩ : ∃ t1, t1 = (x == b) := ⟨_, rfl⟩
          rw [← ht1] at hsn hxb
          have HSN := Lib.hid hsn
          clear hx hsn ht0 ht1
          cases t0
          · have HF : Hid ((p.take (q + 1)).contains b = t1) := by show _ = _; rw [HSN.out]; rfl
            go_wp2
            go_roundw
            case rel => exact ⟨q + 1, by omega, by go_num, by rw [HF.out], trivial⟩
            case measure => simp [intOf]; omega
          · have HF : Hid ((p.take (q + 1)).contains b = true) := by show _ = _; rw [HSN.out]; rfl
            go_wp2
            go_roundw
            case rel => exact ⟨q + 1, by omega, by go_num, by rw [HF.out], trivial⟩
            case measure => simp [intOf]; omega
        · obtain rfl : kp = q := by omega
          have hall : (p.take kp).contains b = p.contains b := by rw [List.take_of_length_le (by rw [← HKP.out]; exact Nat.le_refl _)]
          rw [hall]
          clear hall
          cases hbp : p.contains b
          · have hbn : b ∉ p := fun h => by rw [List.contains_iff_mem.2 h] at hbp; cases hbp
            have HBN := Lib.hid hbn
            clear hbp hbn
            obtain ⟨m', rfl⟩ : ∃ m', m = m' + 1 := by
              rcases m with _ | m'
              · exact absurd (Hw.way_all HWAY.out.1 h8 (by have := HM8.out; omega) hb8) HBN.out
              · exact ⟨m', rfl⟩
            have hbz : (ww l u).testBit b = true := by
              have := (Hw.mem_elems.1 (List.mem_of_getElem? HBJ.out)).2
              rw [HEZ2.out] at this; exact this
            have hbl : b < l.length := Rc.bit_lt (HOK.out.ww hul).2.1 hbz
            have hway2 : Hw.Way (ww l) (p ++ [b]) := HWAY.out.snoc HBN.out (.inr (by rw [← HU.out]; exact hbz))
            -- the call, whatever the row's place
            have hcallq : ∀ (g2 c2 : Nat) (W2 : World), Below wr.heap.size wr W2 → W2.ownsRow wr.heap.size 3 1 (.slice (some ⟨g2, 0, none⟩) (kp + 1) c2) (kp + 1) (p.map nv ++ [.int .i64 (b : Int)]) →
                Calls Try.prog 80 #[.agg #[.int .i64 n, .slice (some ⟨ab, off, none⟩) l.length cap], .slice (some ⟨g2, 0, none⟩) (kp + 1) c2, .int .i64 k] W2 fun e w' => ∃ v, e = .returned v ∧ ∃ u2, v = .tuple #[u2, .bool ((Hw.ext (ww l) k m' (p ++ [b])).find? (cE l)).isSome] ∧ (∀ y, (Hw.ext (ww l) k m' (p ++ [b])).find? (cE l) = some y → w'.ownsRow wr.heap.size 3 1 u2 y.length (y.map nv)) ∧ Below W2.heap.size W2 w' := by
              intro g2 c2 W2 hb2 ho2
              have hlen : (p ++ [b]).length = kp + 1 := by rw [List.length_append, ← HKP.out]; rfl
              have hc := HIH.out m' rfl (p ++ [b]) wr.heap.size g2 c2 W2 (HR.out.below (HBR.out.trans (hb2.mono HBR.out.size)) (Nat.le_refl _)) (by have := HM8.out; have h2 := HKP.out; rw [hlen]; omega) hway2 (by simp) (fun x hx => by
                rcases List.mem_append.1 hx with h | h
                · exact HLOW.out x h
                · exact (show x = b from by simpa using h) ▸ hbl) hb2.size (by rw [hlen, List.map_append]; exact ho2)
              rw [hlen] at hc
              exact hc.mono fun e w' h => cyP_ret h
            have HCALL := Lib.hid hcallq
            have hone : ∀ v ∈ p.map nv, v.oneCell' = true := by intro v hv; obtain ⟨x, _, rfl⟩ := List.mem_map.1 hv; rfl
            have H1 := Lib.hid hone
            have HLP : Hid ((p.map nv).length = kp * 1) := by show _ = _; rw [List.length_map, ← HKP.out]; omega
            have bE := Below.one wr (.cells #[] 3)
            have bX := Below.one wr (.cells #[.int .i64 (b : Int)] 3)
            have bEX : Below wr.heap.size wr ((wr.alloc (.cells #[] 3)).alloc (.cells #[.int .i64 (b : Int)] 3)) := bE.alloc bE.size _
            have bXE : Below wr.heap.size wr ((wr.alloc (.cells #[.int .i64 (b : Int)] 3)).alloc (.cells #[] 3)) := bX.alloc bX.size _
            have zX : (wr.alloc (.cells #[.int .i64 (b : Int)] 3)).heap.size = wr.heap.size + 1 := by simp
            have zE : (wr.alloc (.cells #[] 3)).heap.size = wr.heap.size + 1 := by simp
            have OA := Lib.hid (own_empty wr wr.heap.size wr.heap.size (Nat.le_refl _) rfl).drew
            have OB := Lib.hid ((own_empty wr wr.heap.size wr.heap.size (Nat.le_refl _) rfl).alloc (.cells #[.int .i64 (b : Int)] 3)).drew
            have OC := Lib.hid (own_empty (wr.alloc (.cells #[.int .i64 (b : Int)] 3)) wr.heap.size (wr.heap.size + 1) bX.size zX).drew
            have RA := Lib.hid (own_src (own_below HORr.out bE).drew)
            have RB := Lib.hid (own_src (own_below HORr.out bEX).drew)
            have RC := Lib.hid (own_src (own_below HORr.out bXE).drew)
            have BA := Lib.hid bE.drew
            have BB := Lib.hid bEX.drew
            have BC := Lib.hid bXE.drew
            have TA := Lib.hid (HXR.out.below bE HXR.out.lt).drew
            have TB := Lib.hid (HXR.out.below bEX HXR.out.lt).drew
            have TC := Lib.hid (HXR.out.below bXE HXR.out.lt).drew
            have TX := Lib.hid (HXR.out.below bX HXR.out.lt)
            have t0 := HXR.out.c0
            have t1 := HXR.out.c1
            have ta0 := (HXR.out.below bE HXR.out.lt).c0
            have ta1 := (HXR.out.below bE HXR.out.lt).c1
            have tb0 := (HXR.out.below bEX HXR.out.lt).c0
            have tb1 := (HXR.out.below bEX HXR.out.lt).c1
            have tc0 := (HXR.out.below bXE HXR.out.lt).c0
            have tc1 := (HXR.out.below bXE HXR.out.lt).c1
            have tx0 := TX.out.c0
            have tx1 := TX.out.c1
            have hsz := HXR.out.lt
            have NB0 : Hid (((wr.alloc (.cells #[] 3)).alloc (.cells #[.int .i64 (b : Int)] 3)).heap[wr.heap.size + 1]? = some (.cells #[.int .i64 (b : Int)] 3 (0, 0))) := by
              have := World.alloc_heap_new (wr.alloc (.cells #[] 3)) (.cells #[.int .i64 (b : Int)] 3)
              rw [zE] at this; exact this
            have NC0 : Hid (((wr.alloc (.cells #[.int .i64 (b : Int)] 3)).alloc (.cells #[] 3)).heap[wr.heap.size]? = some (.cells #[.int .i64 (b : Int)] 3 (0, 0))) := by
              have h1 := World.alloc_heap_new wr (.cells #[.int .i64 (b : Int)] 3)
              have h2 : Below (wr.alloc (.cells #[.int .i64 (b : Int)] 3)).heap.size (wr.alloc (.cells #[.int .i64 (b : Int)] 3)) ((wr.alloc (.cells #[.int .i64 (b : Int)] 3)).alloc (.cells #[] 3)) := Below.one _ _
              exact (h2.block wr.heap.size (by rw [zX]; omega)).trans h1
            clear bE bX bEX bXE zX zE hone hcallq hway2 hbz hbl hcr
            go_wp2
            go_region_law (first
    | (refine step_append_lies _ rfl (.tmp 60) (.tmp 61) 23 rfl wr.heap.size 3 i0 (.int .i64 0) 1 8 Try.underlying23 hi hz0 hz1 hz2 rfl (by decide) (.slice (some ⟨wr.heap.size, 0, none⟩) 0 0) 0 [] rfl (by with_reducible exact OA.out) ⟨g, 0, none⟩ kp c0 (p.map nv) rfl HLP.out RA.out H1.out (by omega) (by unfold maxLen; omega) (by omega) (by simp <;> omega) _ rfl ?_
       intro g1 ck w3 hown3 hgrow3 hat3 hlt3
       have O1 := Lib.hid (show w3.ownsRow wr.heap.size 3 1 (.slice (some ⟨g1, 0, none⟩) kp ck) kp (p.map nv) from (by simpa using hown3))
       have O1x := Lib.hid (O1.out.alloc (.cells #[.int .i64 (b : Int)] 3))
       have B3 := Lib.hid (BA.out.grown hgrow3 (by simp <;> omega) (fun k hk => by simp [Value.ownBlock] at hk; omega))
       have hz3b : wr.heap.size ≤ w3.heap.size := B3.out.size
       have T3 := Lib.hid (TA.out.grown hgrow3 (by simp [Value.ownBlock] <;> omega))
       have a0 := T3.out.c0
       have a1 := T3.out.c1
       have T4 := Lib.hid (T3.out.more (.cells #[.int .i64 (b : Int)] 3))
       have a2 := T4.out.c0
       have a3 := T4.out.c1
       have NX := Lib.hid (news1 (World.alloc_heap_new w3 (.cells #[.int .i64 (b : Int)] 3)))
       clear hown3 hgrow3 hat3)
    | (refine step_append_lies _ rfl (.tmp 60) (.tmp 61) 23 rfl wr.heap.size 3 i0 (.int .i64 0) 1 8 Try.underlying23 hi hz0 hz1 hz2 rfl (by decide) (.slice (some ⟨wr.heap.size, 0, none⟩) 0 0) 0 [] rfl (by with_reducible exact OB.out) ⟨g, 0, none⟩ kp c0 (p.map nv) rfl HLP.out RB.out H1.out (by omega) (by unfold maxLen; omega) (by omega) (by simp <;> omega) _ rfl ?_
       intro g1 ck w3 hown3 hgrow3 hat3 hlt3
       have O1 := Lib.hid (show w3.ownsRow wr.heap.size 3 1 (.slice (some ⟨g1, 0, none⟩) kp ck) kp (p.map nv) from (by simpa using hown3))
       have O1x := Lib.hid (O1.out.alloc (.cells #[.int .i64 (b : Int)] 3))
       have B3 := Lib.hid (BB.out.grown hgrow3 (by simp <;> omega) (fun k hk => by simp [Value.ownBlock] at hk; omega))
       have hz3b : wr.heap.size ≤ w3.heap.size := B3.out.size
       have T3 := Lib.hid (TB.out.grown hgrow3 (by simp [Value.ownBlock] <;> omega))
       have a0 := T3.out.c0
       have a1 := T3.out.c1
       have T4 := Lib.hid (T3.out.more (.cells #[.int .i64 (b : Int)] 3))
       have a2 := T4.out.c0
       have a3 := T4.out.c1
       have NX := Lib.hid (news1 (World.alloc_heap_new w3 (.cells #[.int .i64 (b : Int)] 3)))
       have NB := Lib.hid (news1 ((hgrow3.block (wr.heap.size + 1) (Array.getElem?_eq_some_iff.1 NB0.out).1 (by simp [Value.ownBlock] <;> omega)).trans NB0.out))
       clear hown3 hgrow3 hat3)
    | (refine step_append_lies _ rfl (.tmp 60) (.tmp 61) 23 rfl wr.heap.size 3 i0 (.int .i64 0) 1 8 Try.underlying23 hi hz0 hz1 hz2 rfl (by decide) (.slice (some ⟨wr.heap.size + 1, 0, none⟩) 0 0) 0 [] rfl (by with_reducible exact OC.out) ⟨g, 0, none⟩ kp c0 (p.map nv) rfl HLP.out RC.out H1.out (by omega) (by unfold maxLen; omega) (by omega) (by simp <;> omega) _ rfl ?_
       intro g1 ck w3 hown3 hgrow3 hat3 hlt3
       have O1 := Lib.hid (show w3.ownsRow wr.heap.size 3 1 (.slice (some ⟨g1, 0, none⟩) kp ck) kp (p.map nv) from (by simpa using hown3))
       have O1x := Lib.hid (O1.out.alloc (.cells #[.int .i64 (b : Int)] 3))
       have B3 := Lib.hid (BC.out.grown hgrow3 (by simp <;> omega) (fun k hk => by simp [Value.ownBlock] at hk; omega))
       have hz3b : wr.heap.size ≤ w3.heap.size := B3.out.size
       have T3 := Lib.hid (TC.out.grown hgrow3 (by simp [Value.ownBlock] <;> omega))
       have a0 := T3.out.c0
       have a1 := T3.out.c1
       have T4 := Lib.hid (T3.out.more (.cells #[.int .i64 (b : Int)] 3))
       have a2 := T4.out.c0
       have a3 := T4.out.c1
       have NX := Lib.hid (news1 (World.alloc_heap_new w3 (.cells #[.int .i64 (b : Int)] 3)))
       have NC := Lib.hid (news1 ((hgrow3.block wr.heap.size (Array.getElem?_eq_some_iff.1 NC0.out).1 (by simp [Value.ownBlock] <;> omega)).trans NC0.out))
       clear hown3 hgrow3 hat3)
    | (refine step_append_lies _ rfl (.tmp 62) (.tmp 64) 23 rfl wr.heap.size 3 i0 (.int .i64 0) 1 8 Try.underlying23 hi hz0 hz1 hz2 rfl (by decide) (.slice (some ⟨g1, 0, none⟩) kp ck) kp (p.map nv) rfl (by with_reducible exact O1x.out) ⟨w3.heap.size, 0, none⟩ 1 1 [.int .i64 (b : Int)] rfl rfl NX.out (by intro v hv; simp at hv; subst hv; rfl) (by omega) (by unfold maxLen; omega) (by omega) (by first | omega | (simp <;> omega)) _ rfl ?_
       intro g2 c2 w5 hown5 hgrow5 hat5 hlt5
       have O2 := Lib.hid (show w5.ownsRow wr.heap.size 3 1 (.slice (some ⟨g2, 0, none⟩) (kp + 1) c2) (kp + 1) (p.map nv ++ [.int .i64 (b : Int)]) from hown5)
       have B5 := Lib.hid ((B3.out.alloc hz3b (.cells #[.int .i64 (b : Int)] 3)).grown hgrow5 (by first | omega | (simp <;> omega)) (fun k hk => (O1.out.lt k hk).1))
       have T5 := Lib.hid (T4.out.grown hgrow5 (fun e => by have h1 := (O1.out.lt w.heap.size e).1; omega))
       have e0 := T5.out.c0
       have e1 := T5.out.c1
       clear hown5 hgrow5 hat5)
    | (refine step_append_lies _ rfl (.tmp 62) (.tmp 64) 23 rfl wr.heap.size 3 i0 (.int .i64 0) 1 8 Try.underlying23 hi hz0 hz1 hz2 rfl (by decide) (.slice (some ⟨g1, 0, none⟩) kp ck) kp (p.map nv) rfl (by with_reducible exact O1.out) ⟨wr.heap.size + 1, 0, none⟩ 1 1 [.int .i64 (b : Int)] rfl rfl NB.out (by intro v hv; simp at hv; subst hv; rfl) (by omega) (by unfold maxLen; omega) (by omega) (by first | omega | (simp <;> omega)) _ rfl ?_
       intro g2 c2 w5 hown5 hgrow5 hat5 hlt5
       have O2 := Lib.hid (show w5.ownsRow wr.heap.size 3 1 (.slice (some ⟨g2, 0, none⟩) (kp + 1) c2) (kp + 1) (p.map nv ++ [.int .i64 (b : Int)]) from hown5)
       have B5 := Lib.hid (B3.out.grown hgrow5 (by first | omega | (simp <;> omega)) (fun k hk => (O1.out.lt k hk).1))
       have T5 := Lib.hid (T3.out.grown hgrow5 (fun e => by have h1 := (O1.out.lt w.heap.size e).1; omega))
       have e0 := T5.out.c0
       have e1 := T5.out.c1
       clear hown5 hgrow5 hat5)
    | (refine step_append_lies _ rfl (.tmp 62) (.tmp 64) 23 rfl wr.heap.size 3 i0 (.int .i64 0) 1 8 Try.underlying23 hi hz0 hz1 hz2 rfl (by decide) (.slice (some ⟨g1, 0, none⟩) kp ck) kp (p.map nv) rfl (by with_reducible exact O1.out) ⟨wr.heap.size, 0, none⟩ 1 1 [.int .i64 (b : Int)] rfl rfl NC.out (by intro v hv; simp at hv; subst hv; rfl) (by omega) (by unfold maxLen; omega) (by omega) (by first | omega | (simp <;> omega)) _ rfl ?_
       intro g2 c2 w5 hown5 hgrow5 hat5 hlt5
       have O2 := Lib.hid (show w5.ownsRow wr.heap.size 3 1 (.slice (some ⟨g2, 0, none⟩) (kp + 1) c2) (kp + 1) (p.map nv ++ [.int .i64 (b : Int)]) from hown5)
       have B5 := Lib.hid (B3.out.grown hgrow5 (by first | omega | (simp <;> omega)) (fun k hk => (O1.out.lt k hk).1))
       have T5 := Lib.hid (T3.out.grown hgrow5 (fun e => by have h1 := (O1.out.lt w.heap.size e).1; omega))
       have e0 := T5.out.c0
       have e1 := T5.out.c1
       clear hown5 hgrow5 hat5)
    | (have hcz := HCALL.out _ _ _ B5.out O2.out
       refine step_call3 rfl 80 (.tmp 59) (.tmp 65) (.tmp 66) _ _ _ _ rfl rfl rfl rfl enters80 hcz ?_
       rintro _ w6 ⟨u2, rfl, hy6, hb6⟩
       have HY6 := Lib.hid hy6
       have HB6 := Lib.hid (B5.out.trans (hb6.mono B5.out.size))
       clear hy6 hb6 hcz))
            all_goals
              clear a0 a1 a2 a3 e0 e1 t0 t1 ta0 ta1 tb0 tb1 tc0 tc1 tx0 tx1 hlt3 hlt5 hz3b hsz
              have B6 := Lib.hid (HBR.out.trans (HB6.out.mono HBR.out.size))
              have C6 := Lib.hid (HB.out.trans (HB6.out.mono HB.out.size))
              have HYY := Lib.hid HY6.out
              cases hfd : (Hw.ext (ww l) k m' (p ++ [b])).find? (cE l)
              · have HNN : Hid (NoJ l k (m' + 1) p (elems z) (j + 1)) := by
                  intro q2 x hq2 hx hxp
                  by_cases e : q2 = j
                  · subst e
                    rw [HBJ.out] at hx
                    cases hx
                    exact hfd
                  · exact HNO.out.out q2 x (by omega) hx hxp
                clear hfd
                go_wp2
                go_roundw
                case rel => exact ⟨j + 1, by omega, by go_num, HNN.out, C6.out⟩
                case measure => simp [intOf]; omega
              · rename_i y
                have HF : Hid ((Hw.ext (ww l) k (m' + 1) p).find? (cE l) = some y) := by
                  refine NoJ.some (j := j) (b := b) HNK.out HWAY.out.1 h8 HM8.out ?_ ?_ HBN.out hfd
                  · rw [← HEZ.out]; exact HNO.out.out
                  · rw [← HEZ.out]; exact HBJ.out
                have HO6 := Lib.hid (HYY.out y hfd)
                clear hfd
                go_wp2
                go_ret2
                refine ⟨_, by rw [HF.out]; rfl, ?_, (fun h => by rw [HF.out] at h; cases h), B6.out⟩
                intro y2 hy2
                rw [HF.out] at hy2
                cases hy2
                exact HO6.out.mono (Nat.le_trans hB HBR.out.size)
          · have HNN : Hid (NoJ l k m p (elems z) (j + 1)) := by
              intro q2 x hq2 hx hxp
              by_cases e : q2 = j
              · subst e
                rw [HBJ.out] at hx
                cases hx
                exact absurd (List.contains_iff_mem.1 hbp) hxp
              · exact HNO.out q2 x (by omega) hx hxp
            clear hbp
            go_wp2
            go_roundw
            case rel => exact ⟨j + 1, by omega, by go_num, HNN.out, HB.out⟩
            case measure => simp [intOf]; omega
    · obtain rfl : j = M := by omega
      have HF : Hid ((Hw.ext (ww l) k m p).find? (cE l) = none) := by
        refine NoJ.none HNK.out HWAY.out.1 h8 HM8.out ?_
        rw [← HEZ.out, ← HM.out]; exact hno.out
      have HBR := Lib.hid (B1.out.trans (hb.mono B1.out.size))
      clear hno hb
      go_wp2
      go_ret2
      refine ⟨_, by rw [HF.out]; rfl, ?_, (fun _ => rfl), HBR.out⟩
      intro y hy
      rw [HF.out] at hy; cases hy
end Go.Proofs.Ytnlpfajncpbjpaa
