/-
  What the laws do with a list of texts: 'markText', 'markStringS', 'heldStringS'. They serve 'FnExactSplitAny' and 'FnExactSplitLines'.
-/
import Derived.Test.YtocjbllblggplaaH
import Derived.Deep.RegionHeld3
namespace Go.Proofs.Ytocjbllblggplaa
open Go.ChangeShapes Go.WideShapes Go.ChangeAt Go.RowKit
set_option linter.unusedVariables false

/-- The digits of k ahead of acc. -/
def mkGo : Nat → Nat → List UInt8 → List UInt8
  | 0, _, acc => acc
  | f + 1, k, acc => if k = 0 then acc else mkGo f (k / 10) (UInt8.ofNat (48 + k % 10) :: acc)
/-- The mark of k. -/
def mkT (k : Nat) : ByteArray := ⟨#[109]⟩ ++ ⟨(mkGo k k []).toArray⟩

theorem mkGo_fuel (f : Nat) : ∀ g k acc, k ≤ f → k ≤ g → mkGo f k acc = mkGo g k acc := by
  induction f with
  | zero =>
    intro g k acc hf hg
    obtain rfl : k = 0 := by omega
    cases g with
    | zero => rfl
    | succ g => simp [mkGo]
  | succ f ih =>
    intro g k acc hf hg
    cases g with
    | zero => obtain rfl : k = 0 := (by omega); simp [mkGo]
    | succ g =>
      simp only [mkGo]
      split
      · rfl
      · exact ih g (k / 10) _ (by omega) (by omega)
theorem mkGo_step {k : Nat} (h : k ≠ 0) (acc : List UInt8) : mkGo k k acc = mkGo (k / 10) (k / 10) (UInt8.ofNat (48 + k % 10) :: acc) := by
  obtain ⟨f, rfl⟩ : ∃ f, k = f + 1 := ⟨k - 1, by omega⟩
  rw [mkGo, if_neg h]
  exact mkGo_fuel f _ _ _ (by omega) (by omega)

set_option maxHeartbeats 1000000 in
theorem markText_any (m : Nat) (w : World) (h1 : 1 ≤ m) (h2 : m ≤ 1099511627776) :
    Calls Try.prog 31 #[.int .i64 m] w fun e w' => e = .returned (.string (mkT m)) ∧ Below w.heap.size w w' := by
  have h0 : ¬ (m : Int) ≤ 0 := by omega
  go_enter Try.func31, Try.ntmps31
  go_wp2
  go_loopw [0, 3] (fun n s wr => ∃ (k : Nat) (A : ByteArray), n = .int .i64 k ∧ s = .string A ∧ k + A.size ≤ m ∧ Hid (mkGo k k A.data.toList = mkGo m m []) ∧ Below w.heap.size w wr) (fun n _ _ => (intOf n).toNat)
  case atStart => exact ⟨m, _, rfl, rfl, Nat.le_refl _, rfl, Below.refl _ _⟩
  case round =>
    obtain ⟨k, A, rfl, rfl, hkA, hA, hb⟩ := hrel
    by_cases hk : k = 0
    · have H := hA.out
      subst hk
      have hE : Hid (⟨#[109]⟩ ++ A = mkT m) := by
        show _ = _
        unfold mkT; rw [← H]; simp only [mkGo]
      clear H
      go_wp2
      go_ret
      exact ⟨by rw [← hE.out]; rfl, hb⟩
    · have hp : (0 : Int) < (k : Int) := by omega
      have hp2 : 0 < k := by omega
      obtain ⟨c, hc⟩ : ∃ c : UInt8, c = UInt8.ofNat (48 + k % 10) := ⟨_, rfl⟩
      have hcn : (c.toNat : Int) = 48 + (k : Int) % 10 := by
        rw [hc, UInt8.toNat_ofNat_of_lt' (by show _ < 256; omega)]; omega
      have hcv : ∀ W : World, (convert 41 9 (.slice (some ⟨W.heap.size, 0, none⟩) 1 1)).run Try.prog (W.alloc (.cells #[.int .u8 (48 + (k : Int) % 10)] 5)) = .ok (.string ⟨#[c]⟩) (W.alloc (.cells #[.int .u8 (48 + (k : Int) % 10)] 5)) := by
        intro W
        refine run_convert_bytes_back (P := Try.prog) _ 41 9 5 ⟨W.heap.size, 0, none⟩ 1 [c] Try.underlying41 Try.underlying5 Try.underlying9 ?_
        intro j hj
        match j, hj with
        | 0, _ =>
          rw [Addr.add_zero', cell_of_row _ _ _ _ _ _ (heap_alloc_new W _)]
          simp [hcn]
      have hA1 : Hid (mkGo (k / 10) (k / 10) (⟨#[c]⟩ ++ A : ByteArray).data.toList = mkGo m m []) := by
        show _ = _
        rw [← hA.out, mkGo_step hk, data_append, hc]; rfl
      have hz1 : Hid ((⟨#[c]⟩ ++ A : ByteArray).size = A.size + 1) := by
        show _ = _
        rw [ByteArray.size_append]; show 1 + _ = _; omega
      have hb1 : Below w.heap.size w (wr.alloc (.cells #[.int .u8 (48 + (k : Int) % 10)] 5)) := hb.alloc hb.size _
      clear hc hcn
      go_wp2
      exact ⟨⟨k / 10, _, by go_num, rfl, by rw [hz1.out]; omega, hA1, hb1⟩, by simp [intOf]; omega⟩

def marks (n : Nat) : List Value := (List.range n).map fun j => Value.string (mkT (1 + j))
def mkRow (l : List Value) (i : Nat) : List Value := marks i ++ l.drop i
theorem marks_length (n : Nat) : (marks n).length = n := by simp [marks]
theorem marks_at (n k : Nat) (h : k < n) : (marks n)[k]? = some (.string (mkT (1 + k))) := by
  simp [marks, h]
theorem mkRow_set (l : List Value) (i : Nat) (h : i < l.length) : (mkRow l i).set i (.string (mkT (1 + i))) = mkRow l (i + 1) := by
  unfold mkRow
  rw [List.set_append, if_neg (by rw [marks_length]; omega), marks_length, Nat.sub_self, List.drop_eq_getElem_cons h, List.set_cons_zero]
  simp only [marks, List.range_succ, List.map_append, List.append_assoc]
  rfl
theorem mkRow_all (l : List Value) : mkRow l l.length = marks l.length := by simp [mkRow]

set_option maxHeartbeats 2000000 in
/-- Every text of a list of the call's own is overwritten by its mark. -/
theorem markStr (B g n cap : Nat) (l : List Value) (w : World) (hn : n ≤ 1048577) (hBw : B ≤ w.heap.size) (hown : w.ownsRow B 9 1 (.slice (some ⟨g, 0, none⟩) n cap) n l) :
    Calls Try.prog 16 #[.slice (some ⟨g, 0, none⟩) n cap, .int .i64 1] w fun e w' => e = .returned (.int .i64 ((n : Int) + 1)) ∧ w'.ownsRow B 9 1 (.slice (some ⟨g, 0, none⟩) n cap) n (marks n) ∧ Below B w w' := by
  have hlen : l.length = n := by simpa using hown.1
  have hgB : B ≤ g := (hown.lt g rfl).1
  have H0 : Hid (l.length = n) := hlen
  have hown0 : w.ownsRow B 9 1 (.slice (some ⟨g, 0, none⟩) n cap) n (mkRow l 0) := hown
  clear hown hlen
  go_enter Try.func16, Try.ntmps16
  go_wp2
  go_loopw [1, 5] (fun q i wr => ∃ k : Nat, k ≤ n ∧ i = .int .i64 k ∧ q = .int .i64 ((k : Int) + 1) ∧ wr.ownsRow B 9 1 (.slice (some ⟨g, 0, none⟩) n cap) n (mkRow l k) ∧ Below B w wr) (fun _ i _ => n - (intOf i).toNat)
  case atStart => exact ⟨0, Nat.zero_le _, rfl, rfl, hown0, Below.refl _ _⟩
  case round =>
    clear hown0
    obtain ⟨k, hk, rfl, rfl, hown, hb⟩ := hrel
    by_cases hlt : k < n
    · go_wp2_with fail
      refine ((show Calls Try.prog 31 #[.int .i64 ((k : Int) + 1)] wr (fun e w' => e = .returned (.string (mkT (1 + k))) ∧ Below wr.heap.size wr w') from by
        have := markText_any (1 + k) wr (by omega) (by omega)
        rwa [show (((1 + k : Nat)) : Int) = (k : Int) + 1 by omega] at this)).mono ?_
      rintro e w2 ⟨rfl, hb2⟩
      have hown2 := own_below hown hb2
      have hb3 : Below B w w2 := hb.trans (hb2.mono (Nat.le_trans hBw hb.size))
      obtain ⟨x, hx⟩ : ∃ x, x = mkT (1 + k) := ⟨_, rfl⟩
      have hst := hown2.stored k (.string x)
      have hset : (mkRow l k).set k (.string x) = mkRow l (k + 1) := by rw [hx]; exact mkRow_set l k (by have := H0.out; omega)
      rw [hset] at hst
      have hcy := hown2.cellAt k (by omega)
      have hfr := hown2.frozenAt k
      obtain ⟨u, hu⟩ : ∃ u, (mkRow l k)[k]? = some u := by
        refine ⟨_, List.getElem?_eq_getElem ?_⟩
        have := H0.out
        have : (mkRow l k).length = n := by simp [mkRow, marks_length]; omega
        omega
      rw [hu] at hcy
      have H2 := Lib.hid hst.1
      have hb4 : Below B w (w2.setCell ⟨g, k, none⟩ (.string x)) := hb3.setCell (p := ⟨g, k, none⟩) hgB _
      rw [← hx]
      clear hx hst hset hu hown hb hb2 hown2
      go_wp2
      go_roundw
      case rel => exact ⟨k + 1, by omega, by go_num, by go_num, H2.out, hb4⟩
      case measure => simp [intOf]; omega
    · obtain rfl : k = n := by omega
      have hm : Hid (mkRow l k = marks k) := by
        show _ = _
        have := mkRow_all l; rwa [H0.out] at this
      rw [hm.out] at hown
      go_wp2
      go_ret
      exact ⟨rfl, hown, hb⟩

set_option maxHeartbeats 2000000 in
/-- Every text of the list is its mark. -/
theorem heldStr (B g n cap : Nat) (w : World) (hn : n ≤ 1048577) (hown : w.ownsRow B 9 1 (.slice (some ⟨g, 0, none⟩) n cap) n (marks n)) :
    Calls Try.prog 17 #[.slice (some ⟨g, 0, none⟩) n cap, .int .i64 1] w fun e w' => e = .returned (.int .i64 ((n : Int) + 1)) ∧ Below w.heap.size w w' := by
  have hgl : g < w.heap.size := (hown.lt g rfl).2
  have HO := Lib.hid hown
  clear hown
  go_enter Try.func17, Try.ntmps17
  go_wp2
  go_loopw [1, 5] (fun q i wr => ∃ k : Nat, k ≤ n ∧ i = .int .i64 k ∧ q = .int .i64 ((k : Int) + 1) ∧ Below w.heap.size w wr) (fun _ i _ => n - (intOf i).toNat)
  case atStart => exact ⟨0, Nat.zero_le _, rfl, rfl, Below.refl _ _⟩
  case round =>
    obtain ⟨k, hk, rfl, rfl, hb⟩ := hrel
    by_cases hlt : k < n
    · obtain ⟨x, hx⟩ : ∃ x, x = mkT (1 + k) := ⟨_, rfl⟩
      have hcall : ∀ W : World, Calls Try.prog 31 #[.int .i64 ((k : Int) + 1)] W (fun e w' => e = .returned (.string x) ∧ Below W.heap.size W w') := by
        intro W
        have := markText_any (1 + k) W (by omega) (by omega)
        rwa [show (((1 + k : Nat)) : Int) = (k : Int) + 1 by omega, ← hx] at this
      have hcx : wr.cell? ⟨g, k, none⟩ = some (.string x) := by
        rw [hb.cell (p := ⟨g, k, none⟩) hgl, HO.out.cellAt k (by omega), marks_at n k hlt, hx]
      have hi0 : (0 : Int) ≤ (k : Int) ∧ (k : Int) < (n : Int) := by omega
      have hgr : g < wr.heap.size := Nat.lt_of_lt_of_le hgl hb.size
      have HC := Lib.hid hcall
      clear hx hcall
      go_wp2
      go_region_held3 (fun w' => w'.cell? ⟨g, k, none⟩ = some (.string x) ∧ Below wr.heap.size wr w')
        (first | (exact ⟨by simpa using hcx, (Below.refl _ _).drew⟩) | (exact ⟨(hbq.cell (p := ⟨g, k, none⟩) hgr).trans (by simpa using hcx), ((Below.refl _ _).drew).trans hbq⟩))
        (first | (go_at_call 31; refine (HC.out _).mono ?_; rintro e w' ⟨rfl, hbq⟩))
      have hb2 : Below w.heap.size w w' := hb.trans ((((Below.refl _ _).drew).trans hbq).mono hb.size)
      clear hbq
      go_wp2
      go_roundw
      case rel => exact ⟨k + 1, by omega, by go_num, by go_num, hb2⟩
      case measure => simp [intOf]; omega
    · obtain rfl : k = n := by omega
      go_wp2
      go_ret
      exact ⟨rfl, hb⟩
end Go.Proofs.Ytocjbllblggplaa
