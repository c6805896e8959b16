/-
  Reversals counted by the program and by the model; both 'OrderOk', both 'CountReversals'. No conditions but the bounds that Go gives a slice.
-/
import Derived.Test.YteegbkbphfmooaaQa
import Derived.Test.YteegbkbphfmooaaJ6
import Derived.Test.YteegbkbphfmooaaWa
namespace Go.Proofs.Yteegbkbphfmooaa
open Go.ChangeShapes Go.WideShapes Go.ChangeAt Go.RowKit
set_option linter.unusedVariables false

theorem Rv.i64_andW (x y : Nat) (hx : x < 2 ^ 62) (hy : y < 2 ^ 62) : bits .and .i64 (x : Int) (y : Int) = ((x &&& y : Nat) : Int) := by
  show IntKind.i64.wrap ((BitVec.ofInt 64 x &&& BitVec.ofInt 64 y).toNat : Nat) = _
  rw [BitVec.toNat_and, ofInt_small x hx, ofInt_small y hy]
  exact wrap_small _ (Nat.lt_of_le_of_lt Nat.and_le_left hx)
def ni (o : List Nat) : List Int := o.map Int.ofNat
theorem ni_len (o : List Nat) : (ni o).length = o.length := by simp [ni]
theorem ni_at {o : List Nat} {k : Nat} (hk : k < o.length) : (ni o).getD k 0 = ((o.getD k 0 : Nat) : Int) := by
  unfold ni
  rw [List.getD_eq_getElem?_getD, List.getElem?_map, List.getD_eq_getElem?_getD, List.getElem?_eq_getElem hk]; rfl
theorem ord_at {w : World} {an : Option Addr} {o : List Nat} {k : Nat} (h : IntRow w an (ni o)) (hk : k < o.length) : ∃ b off, an = some ⟨b, off, none⟩ ∧ b < w.heap.size ∧ w.cell? ⟨b, off + k, none⟩ = some (.int .i64 ((o.getD k 0 : Nat) : Int)) := by
  obtain ⟨b, off, e, hb, hc⟩ := h.at (k := k) (by rw [ni_len]; exact hk)
  rw [ni_at hk] at hc
  exact ⟨b, off, e, hb, hc⟩
theorem pc_in {x s : Nat} {p : List Nat} (h : Hw.Sp p s) (hnd : p.Nodup) (hp : ∀ y ∈ p, y < 8) : pc (x &&& s) = p.countP (fun b => x.testBit b) := by
  have h2 : Hw.Sp (p.filter fun b => x.testBit b) (x &&& s) := by
    intro y
    rw [Nat.testBit_and, h y, Bool.eq_iff_iff, Bool.and_eq_true, List.contains_iff_mem, List.contains_iff_mem, List.mem_filter]
    exact and_comm
  rw [h2.pc (hnd.sublist List.filter_sublist) (fun y hy => hp y (List.mem_filter.1 hy).1), List.countP_eq_length_filter]
theorem sp_zero : Hw.Sp [] 0 := fun x => by simp

set_option maxRecDepth 100000 in
set_option maxHeartbeats 1000000 in
theorem countRev_any (m : Nat) (a : Option Addr) (l : List Int) (cap : Nat) (an : Option Addr) (o : List Nat) (cn : Nat) (w : World) (hm : l.length = m) (hok : Ok m l) (hrow : IntRow w a l) (ho : Rv.Od m o) (hrn : IntRow w an (ni o)) :
    Calls Try.prog 83 #[.agg #[.int .i64 (m : Int), .slice a m cap], .slice an m cn] w fun e w' => e = .returned (.int .i64 ((Rv.rv (bt l) o : Nat) : Int)) ∧ Below w.heap.size w w' := by
  have h8 : m ≤ 8 := by have := hok.2.1; omega
  obtain ⟨Wa, hWa⟩ : ∃ Wa, Wa = w.alloc (.cells #[.int .i64 (m : Int), .slice a m cap] 25) := ⟨_, rfl⟩
  have HWa := Lib.hid hWa
  have hba : Below w.heap.size w Wa := by rw [hWa]; exact (Below.refl _ _).alloc (Nat.le_refl _) _
  have xa : Box Wa w.heap.size 25 (.int .i64 (m : Int)) (.slice a m cap) := by rw [hWa]; exact Box.new _ _ _ _
  have R1 := Lib.hid (hrow.below hba (Nat.le_refl _))
  have N1 := Lib.hid (hrn.below hba (Nat.le_refl _))
  have X1 := Lib.hid xa
  have B1 := Lib.hid hba
  have HK := Lib.hid hok
  have HO := Lib.hid ho
  have HM := Lib.hid hm
  have hol := ho.len
  clear hWa hba xa hrow hrn hok ho hm
  go_enter Try.func83, Try.ntmps83
  go_wp2
  rw [← HWa.out]
  go_loopw [5, 6, 11] (fun c b i wr => ∃ k s q : Nat, k ≤ m ∧ q ≤ 64 ∧ i = .int .i64 (k : Int) ∧ b = .int .i64 (s : Int) ∧ c = .int .i64 (q : Int) ∧ Hid (q = Rv.rv (bt l) (o.take k)) ∧ Hid (Hw.Sp (o.take k) s) ∧ Below Wa.heap.size Wa wr) (fun _ _ i _ => m - (intOf i).toNat)
  case atStart => exact ⟨0, 0, 0, Nat.zero_le _, Nat.zero_le _, rfl, rfl, rfl, by simp [Hid, Rv.rv], by rw [List.take_zero]; exact sp_zero, Below.refl _ _⟩
  case round =>
    obtain ⟨k, s, q, hk, hq64, rfl, rfl, rfl, hq, hs, hb⟩ := hrel
    by_cases hlt : k < m
    · have hko : k < o.length := by omega
      obtain ⟨bn, offn, rfl, hbn, hcn⟩ := ord_at N1.out hko
      have hcnr := (hb.cell (p := ⟨bn, offn + k, none⟩) hbn).trans hcn
      obtain ⟨x, hx⟩ : ∃ x, x = o.getD k 0 := ⟨_, rfl⟩
      have hxm : x < m := by rw [hx]; exact HO.out.at hlt
      rw [← hx] at hcnr
      have hxl : x < l.length := by rw [HM.out]; exact hxm
      obtain ⟨ba, offa, rfl, hba2, hca⟩ := R1.out.at hxl
      have hcar := (hb.cell (p := ⟨ba, offa + x, none⟩) hba2).trans hca
      obtain ⟨hw1, _, hw2⟩ := HK.out.ww hxl
      rw [hw1] at hcar
      obtain ⟨y, hy⟩ : ∃ y, y = ww l x := ⟨_, rfl⟩
      rw [← hy] at hcar hw2
      have xr := X1.out.below hb X1.out.lt
      have c0 := xr.c0
      have c1 := xr.c1
      have hp8 : ∀ z ∈ o.take k, z < 8 := fun z hz => by have := HO.out.lt z (List.mem_of_mem_take hz); omega
      have hs8 : s < 256 := hs.out.lt hp8
      have hand : bits .and .i64 (y : Int) (s : Int) = ((y &&& s : Nat) : Int) := Rv.i64_andW _ _ (by omega) (by omega)
      obtain ⟨z, hz⟩ : ∃ z, z = y &&& s := ⟨_, rfl⟩
      have hz8 : z < 256 := by rw [hz]; exact Nat.lt_of_le_of_lt Nat.and_le_left hw2
      have hpc : pc z = (o.take k).countP (fun b => bt l x b) := by
        rw [hz, pc_in hs.out (HO.out.nd.sublist (List.take_sublist _ _)) hp8, hy]
        congr 1
        funext b
        exact (wwBit HK.out hxl).symm
      have hpl := pc_le z
      have hnew : Hid (q + pc z = Rv.rv (bt l) (o.take (k + 1))) := by
        show _ = _
        rw [Rv.rv_take _ _ _ hko, ← hx, hpc, hq.out]
      have hq2 : q + pc z ≤ 64 := by
        have h1 := hnew.out
        have h2 := Rv.rv_le (bt l) (o.take (k + 1))
        have h3 : (o.take (k + 1)).length ≤ 8 := by rw [List.length_take]; omega
        have h4 : (o.take (k + 1)).length * (o.take (k + 1)).length ≤ 8 * 8 := Nat.mul_le_mul h3 h3
        omega
      have hor : bits .or .i64 (s : Int) (wrap64 (2 ^ x)) = ((s ||| 2 ^ x : Nat) : Int) := by rw [wrapPow x (by omega)]; exact i64_or _ _ (by omega) (by have := pow_le x (by omega); omega)
      obtain ⟨s2, hs2⟩ : ∃ s2, s2 = s ||| 2 ^ x := ⟨_, rfl⟩
      have hsn : Hid (Hw.Sp (o.take (k + 1)) s2) := by
        show Hw.Sp _ _
        rw [Rv.take_snocN o k hko, hs2, ← hx]; exact hs.out.snoc
      rw [← hz] at hand
      rw [← hs2] at hor
      obtain ⟨p, hp⟩ : ∃ p, p = pc z := ⟨_, rfl⟩
      have HC := Lib.hid (fun W => countElements_any z hz8 W)
      rw [← hp] at hnew hq2 hpl
      have HP := Lib.hid hp
      have hki : (k : Int) < (m : Int) := by omega
      have hxi : (x : Int) < (m : Int) := by omega
      have hx0 : ¬ (x : Int) < 0 := by omega
      have hx64 : x < 64 := by omega
      clear hq hs hcn hca hx hw1 hy hw2 hpc hz hs2 xr hp8 hz8 hp
      go_wp2_with fail
      refine (HC.out _).mono ?_
      rintro e w2 ⟨rfl, rfl⟩
      rw [← HP.out]
      go_wp2
      go_roundw
      case rel => exact ⟨k + 1, s2, q + p, by omega, hq2, by go_num, rfl, by go_num, hnew, hsn, hb⟩
      case measure => simp [intOf]; omega
    · obtain rfl : k = m := by omega
      have HQ : Hid (q = Rv.rv (bt l) o) := by
        have := hq.out
        rwa [List.take_of_length_le (by omega)] at this
      have HB := Lib.hid (B1.out.trans (hb.mono B1.out.size))
      clear hq hs hb
      go_wp2
      go_ret
      exact ⟨by rw [← HQ.out]; rfl, HB.out⟩

/-- What is left of a slice from an index on. -/
theorem slice_from (g off m c k : Nat) (hk : k + 1 ≤ m) (hc : m ≤ c) (hc2 : c ≤ maxLen) : ∃ ax : Option Addr, (k + 1 < m → ax = some ⟨g, off + (k + 1), none⟩) ∧ ∀ W : World, (Instr.sliceAt 23 (.slice (some ⟨g, off, none⟩) m c) (some (.int .i64 ((k : Int) + 1))) none none).run Try.prog W = .ok (.slice ax (m - (k + 1)) (c - (k + 1))) W := by
  unfold maxLen at hc2
  have h0 : (0 : Int) ≤ (k : Int) + 1 := by omega
  have hmi : (k : Int) + 1 ≤ (m : Int) := by omega
  have hto : ((k : Int) + 1).toNat = k + 1 := by omega
  by_cases h : c = k + 1
  · subst h
    obtain rfl : m = k + 1 := by omega
    refine ⟨some ⟨g, off, none⟩, fun h => absurd h (by omega), fun W => ?_⟩
    simp [go_sem, Try.underlying23, Try.sizeOf3, h0, hto]
  · refine ⟨some ⟨g, off + (k + 1), none⟩, fun _ => rfl, fun W => ?_⟩
    simp [go_sem, Try.underlying23, Try.sizeOf3, h0, hto, hmi, h]

end Go.Proofs.Yteegbkbphfmooaa
