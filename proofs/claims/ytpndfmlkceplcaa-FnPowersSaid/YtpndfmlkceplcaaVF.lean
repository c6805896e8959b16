/-
  Contracts of the model's draws, and of chapter 3's functions over valid tours (FnTours' texts joined). Conditions: the bounds of the calls.
-/
import Derived.Test.YtpndfmlkceplcaaVO
import Derived.Test.YtpndfmlkceplcaaZ
import Derived.Test.YtpndfmlkceplcaaI
import Derived.Test.YtpndfmlkceplcaaB
import Derived.Test.YtpndfmlkceplcaaP
import Derived.ChangeSlices
import Derived.Deep.DeepCutAuto
import Derived.Maps.AppendAt
import Derived.Deep.RegionWith
import Derived.RegionTactic
import Derived.IntWalk
namespace Go.Proofs.Ytpndfmlkceplcaa
open Go.ChangeShapes Go.WideShapes Go.ChangeAt Go.RowKit
set_option linter.unusedVariables false

theorem keep_row {w w' : World} {b : Nat} {o : Obj} (h : w.heap[b]? = some o) (hb : Below w.heap.size w w') : w'.heap[b]? = some o := by
  rcases Nat.lt_or_ge b w.heap.size with h' | h'
  · rw [hb.block b h']; exact h
  · simp [Array.getElem?_eq_none h'] at h
/-- A list of bytes that can be read, below block number B; a cursor over it, in a block p of the call's own. -/
def Row (B : Nat) (w : World) (a : Option Addr) (len : Nat) : Prop :=
  len = 0 ∨ ∃ b off, a = some ⟨b, off, none⟩ ∧ b < B ∧ ∀ j, j < len → ∃ n : Nat, n ≤ 255 ∧ w.cell? ⟨b, off + j, none⟩ = some (.int .u8 n)
theorem Row.below {B : Nat} {w w' : World} {a : Option Addr} {len : Nat} (h : Row B w a len) (hb : Below B w w') : Row B w' a len := by
  rcases h with h | ⟨b, off, ha, hlt, hc⟩
  · exact .inl h
  · refine .inr ⟨b, off, ha, hlt, fun j hj => ?_⟩
    obtain ⟨n, hn, h1⟩ := hc j hj
    exact ⟨n, hn, (hb.cell (p := ⟨b, off + j, none⟩) hlt).trans h1⟩
def Cur (B : Nat) (w : World) (p : Nat) (a : Option Addr) (len cap : Nat) : Prop :=
  B ≤ p ∧ Row B w a len ∧
  ∃ (i : Nat) (h : Int), i ≤ len ∧ w.heap[p]? = some (.cells #[.slice a len cap, .int .i64 i, .int .i64 h] 114 (0, 0))

theorem and255 (n : Int) : bits .and .i64 n 255 = n % 256 := by
  have h255 : (BitVec.ofInt 64 255).toNat = 2 ^ 8 - 1 := by decide
  have key : (BitVec.ofInt 64 n &&& BitVec.ofInt 64 255).toNat = (n % ((2 ^ 64 : Nat) : Int)).toNat % 2 ^ 8 := by
    rw [BitVec.toNat_and, BitVec.toNat_ofInt, h255, Nat.and_two_pow_sub_one_eq_mod]
  show IntKind.i64.wrap ((BitVec.ofInt 64 n &&& BitVec.ofInt 64 255).toNat : Nat) = n % 256
  rw [key, IntKind.wrap_i64]
  omega

/-- Every block but p is as it was. -/
def ButK (p : Nat) (w w' : World) : Prop := ∀ k, k ≠ p → w'.heap[k]? = w.heap[k]?
theorem ButK.trans {p : Nat} {a b c : World} (h : ButK p a b) (h' : ButK p b c) : ButK p a c := fun k hk => (h' k hk).trans (h k hk)
theorem ButK.set {p o : Nat} {w : World} {v : Value} : ButK p w (w.setCell ⟨p, o, none⟩ v) := fun k hk => heap_setCell_other _ _ _ _ hk
theorem ButK.cell {p : Nat} {w w' : World} (h : ButK p w w') {a : Addr} (ha : a.block ≠ p) : w'.cell? a = w.cell? a := World.cell?_of_block (h a.block ha)

def BytePost (B : Nat) (w : World) (p : Nat) (a : Option Addr) (len cap : Nat) (e : Ending) (w' : World) : Prop :=
  ∃ x : Nat, x ≤ 255 ∧ e = .returned (.int .i64 x) ∧ Cur B w' p a len cap ∧ Below B w w' ∧ ButK p w w'

set_option maxHeartbeats 2000000 in
theorem byte_any (B : Nat) (w : World) (p : Nat) (a : Option Addr) (len cap : Nat) (hl : len ≤ 1048576) (hB : B ≤ w.heap.size) (h : Cur B w p a len cap) :
    Calls Try.prog 96 #[.pointer (some ⟨p, 0, none⟩)] w (BytePost B w p a len cap) := by
  obtain ⟨hBp, hrow, i, h, hi, hp⟩ := h
  have c0 : w.cell? ⟨p, 0, none⟩ = some (.slice a len cap) := by rw [cell_of_row _ _ _ _ _ _ hp]; rfl
  have c1 : w.cell? ⟨p, 1, none⟩ = some (.int .i64 i) := by rw [cell_of_row _ _ _ _ _ _ hp]; rfl
  have c2 : w.cell? ⟨p, 2, none⟩ = some (.int .i64 h) := by rw [cell_of_row _ _ _ _ _ _ hp]; rfl
  have f1 : w.frozen? ⟨p, 1, none⟩ = false := frozen_of_row _ _ _ _ _ hp
  have f2 : w.frozen? ⟨p, 2, none⟩ = false := frozen_of_row _ _ _ _ _ hp
  go_enter Try.func96, Try.ntmps96
  go_wp2
  obtain ⟨h', hh⟩ : ∃ h' : Int, h' = wrap64 (wrap64 (h * 6364136223846793005) + 1442695040888963407) := ⟨_, rfl⟩
  rw [← hh]
  have hb1 : Below B w (w.setCell ⟨p, 2, none⟩ (.int .i64 h')) := (Below.refl B w).setCell (p := ⟨p, 2, none⟩) hBp _
  have hp1 : (w.setCell ⟨p, 2, none⟩ (.int .i64 h')).heap[p]? = some (.cells #[.slice a len cap, .int .i64 i, .int .i64 h'] 114 (0, 0)) := by
    rw [heap_setCell_same _ _ _ _ _ _ hp]; rfl
  obtain ⟨W1, hW1⟩ : ∃ W1, W1 = w.setCell ⟨p, 2, none⟩ (.int .i64 h') := ⟨_, rfl⟩
  have hu1 : ButK p w (w.setCell ⟨p, 2, none⟩ (.int .i64 h')) := ButK.set
  rw [← hW1] at hb1 hp1 hu1 ⊢
  clear hW1 hh c0 c1 c2 f1 f2
  have c0 : W1.cell? ⟨p, 0, none⟩ = some (.slice a len cap) := by rw [cell_of_row _ _ _ _ _ _ hp1]; rfl
  have c1 : W1.cell? ⟨p, 1, none⟩ = some (.int .i64 i) := by rw [cell_of_row _ _ _ _ _ _ hp1]; rfl
  have c2 : W1.cell? ⟨p, 2, none⟩ = some (.int .i64 h') := by rw [cell_of_row _ _ _ _ _ _ hp1]; rfl
  have f1 : W1.frozen? ⟨p, 1, none⟩ = false := frozen_of_row _ _ _ _ _ hp1
  have H1 := Lib.hid hp1
  clear hp hp1
  have hand : ∀ n : Int, bits .and .i64 n 255 = n % 256 := and255
  go_quiet (fail)
  obtain ⟨x, hx⟩ : ∃ x : Nat, (x : Int) = bits .xor .i64 (h' / 8589934592) (h' / 35184372088832) % 256 := ⟨(bits .xor .i64 (h' / 8589934592) (h' / 35184372088832) % 256).toNat, by omega⟩
  have hx9 : x ≤ 255 := by omega
  rw [← hx]
  clear hx
  by_cases hlt : i < len
  · rcases hrow with he | ⟨b, off, rfl, hbB, hc⟩
    · omega
    · obtain ⟨n, hn, hcn⟩ := hc i hlt
      have hcx : W1.cell? ⟨b, off + i, none⟩ = some (.int .u8 n) := (hb1.cell (p := ⟨b, off + i, none⟩) hbB).trans hcn
      have hi0 : (0 : Int) ≤ (i : Int) ∧ (i : Int) < (len : Int) := by omega
      have HC := Lib.hid hc
      clear hc hcn
      go_wp2
      go_quiet (fail)
      go_wp2
      go_quiet (fail)
      go_wp2
      go_ret
      refine ⟨(x + n) % 256, by omega, by show Ending.returned (.int .i64 (((x : Int) + (n : Int)) % 256)) = _; congr 2, ?_, ?_, ?_⟩
      · refine ⟨hBp, .inr ⟨b, off, rfl, hbB, fun j hj => ?_⟩, i + 1, h', by omega, ?_⟩
        · obtain ⟨m, hm, hcm⟩ := HC.out j hj
          refine ⟨m, hm, Eq.trans ?_ ((hb1.cell (p := ⟨b, off + j, none⟩) hbB).trans hcm)⟩
          exact ((Below.refl B (W1.drewN _)).setCell (p := ⟨p, 1, none⟩) hBp _).cell (p := ⟨b, off + j, none⟩) hbB
        · rw [heap_setCell_same _ _ _ _ _ _ (show (W1.drewN _).heap[p]? = _ from H1.out)]; rfl
      · exact (below_drewN hb1 _).setCell (p := ⟨p, 1, none⟩) hBp _
      · exact hu1.trans ((show ButK p W1 (W1.drewN _) from fun _ _ => rfl).trans ButK.set)
  · have hrow1 : len = 0 ∨ ∃ b off, a = some ⟨b, off, none⟩ ∧ b < B ∧ ∀ j, j < len → ∃ n : Nat, n ≤ 255 ∧ W1.cell? ⟨b, off + j, none⟩ = some (.int .u8 n) := by
      rcases hrow with he | ⟨b, off, ha, hbB, hc⟩
      · exact .inl he
      · refine .inr ⟨b, off, ha, hbB, fun j hj => ?_⟩
        obtain ⟨m, hm, hcm⟩ := hc j hj
        exact ⟨m, hm, (hb1.cell (p := ⟨b, off + j, none⟩) hbB).trans hcm⟩
    have HR := Lib.hid hrow1
    clear hrow hrow1
    go_wp2
    go_quiet (fail)
    go_wp2
    go_ret
    refine ⟨x, hx9, rfl, ⟨hBp, HR.out, i, h', hi, H1.out⟩, ?_, hu1⟩
    exact below_drewN (below_drewN hb1 _) _

def NewPost (B : Nat) (w : World) (a : Option Addr) (len cap : Nat) (e : Ending) (w' : World) : Prop :=
  ∃ p, e = .returned (.pointer (some ⟨p, 0, none⟩)) ∧ Cur B w' p a len cap ∧ Below B w w'

theorem newPost (B : Nat) (w : World) (a : Option Addr) (len cap : Nat) (q : Int) (hB : B ≤ w.heap.size) (h : Row B w a len) :
    NewPost B w a len cap (.returned (.pointer (some ⟨w.heap.size, 0, none⟩))) (w.alloc (.cells #[.slice a len cap, .int .i64 0, .int .i64 q] 114)) := by
  have hb : Below B w (w.alloc (.cells #[.slice a len cap, .int .i64 0, .int .i64 q] 114)) := (Below.refl B w).alloc hB _
  exact ⟨w.heap.size, rfl, ⟨hB, h.below hb, 0, q, Nat.zero_le _, heap_alloc_new w _⟩, hb⟩

set_option maxHeartbeats 2000000 in
theorem new_any (B : Nat) (w : World) (a : Option Addr) (len cap : Nat) (hl : len ≤ 1048576) (hB : B ≤ w.heap.size) (h : Row B w a len) :
    Calls Try.prog 151 #[.slice a len cap] w (NewPost B w a len cap) := by
  go_enter Try.func151, Try.ntmps151
  go_wp2
  go_loopw [3, 4] (fun x i wr => ∃ (k : Nat) (q : Int), k ≤ len ∧ i = .int .i64 k ∧ x = .int .i64 q ∧ w = wr) (fun _ i _ => len - (intOf i).toNat)
  case atStart => exact ⟨0, _, Nat.zero_le _, rfl, rfl, rfl⟩
  case round =>
    obtain ⟨k, q, hk, rfl, rfl, rfl⟩ := hrel
    by_cases hlt : k < len
    · by_cases h4 : (k : Int) < 4000
      · rcases h with he | ⟨b, off, rfl, hbB, hc⟩
        · omega
        · obtain ⟨n, hn, hcn⟩ := hc k hlt
          have HC := Lib.hid hc
          clear hc
          go_wp2
          exact ⟨⟨k + 1, _, by omega, by go_num, rfl, trivial⟩, by simp [intOf]; omega⟩
      · have P := Lib.hid (newPost B w a len cap q hB h)
        clear h
        go_wp2
        go_ret
        exact P.out
    · have P := Lib.hid (newPost B w a len cap q hB h)
      clear h
      go_wp2
      go_ret
      exact P.out

set_option maxHeartbeats 2000000 in
theorem newSkip_any (B : Nat) (w : World) (a : Option Addr) (len cap n : Nat) (hn : n ≤ 1000) (hl : len ≤ 1048576) (hB : B ≤ w.heap.size) (h : Row B w a len) :
    Calls Try.prog 95 #[.slice a len cap, .int .i64 n] w (NewPost B w a len cap) := by
  go_enter Try.func95, Try.ntmps95
  go_wp2_with fail
  refine (new_any B w a len cap hl hB h).mono ?_
  rintro e w1 ⟨p, rfl, hcur, hb1⟩
  clear h
  go_wp2
  go_loopw [6] (fun i wr => ∃ k : Nat, k ≤ n ∧ i = .int .i64 k ∧ Cur B wr p a len cap ∧ Below B w wr) (fun i _ => n - (intOf i).toNat)
  case atStart => exact ⟨0, Nat.zero_le _, rfl, hcur, hb1⟩
  case round =>
    clear hcur hb1
    obtain ⟨k, hk, rfl, hcur, hb⟩ := hrel
    by_cases hlt : k < n
    · go_wp2_with fail
      refine (byte_any B wr p a len cap hl (Nat.le_trans hB hb.size) hcur).mono ?_
      rintro e w2 ⟨x, hx, rfl, hcur2, hb2, _⟩
      clear hcur
      have hb3 := hb.trans hb2
      go_wp2
      go_roundw
      case rel => exact ⟨k + 1, by omega, by go_num, hcur2, hb3⟩
      case measure => simp [intOf]; omega
    · have P : Hid (NewPost B w a len cap (.returned (.pointer (some ⟨p, 0, none⟩))) wr) := ⟨p, rfl, hcur, hb⟩
      clear hcur
      go_wp2
      go_ret
      exact P.out

def NumPost (B : Nat) (w : World) (e : Ending) (w' : World) : Prop := ∃ x : Nat, x ≤ 65535 ∧ e = .returned (.int .i64 x) ∧ Below B w w'

set_option maxHeartbeats 2000000 in
theorem makeNum_any (B : Nat) (w : World) (a : Option Addr) (len cap n : Nat) (hn : n ≤ 1000) (hl : len ≤ 1048576) (hB : B ≤ w.heap.size) (h : Row B w a len) :
    Calls Try.prog 30 #[.slice a len cap, .int .i64 n] w (NumPost B w) := by
  go_enter Try.func30, Try.ntmps30
  go_wp2_with fail
  refine (newSkip_any B w a len cap n hn hl hB h).mono ?_
  rintro e w1 ⟨p, rfl, hcur, hb1⟩
  clear h
  go_wp2_with fail
  refine (byte_any B w1 p a len cap hl (Nat.le_trans hB hb1.size) hcur).mono ?_
  rintro e w2 ⟨x, hx, rfl, hcur2, hb2, _⟩
  have hb3 := hb1.trans hb2
  clear hcur
  go_wp2_with fail
  refine (byte_any B w2 p a len cap hl (Nat.le_trans hB hb3.size) hcur2).mono ?_
  rintro e w3 ⟨y, hy, rfl, hcur3, hb4, _⟩
  have P : Hid (NumPost B w (.returned (.int .i64 ((x * 256 + y : Nat) : Int))) w3) := ⟨x * 256 + y, by omega, rfl, hb3.trans hb4⟩
  clear hcur2 hcur3
  go_wp2
  go_ret
  have := P.out
  rwa [show (((x * 256 + y : Nat)) : Int) = (x : Int) * 256 + (y : Int) by omega] at this

def LowPost (B n : Nat) (w : World) (p : Nat) (a : Option Addr) (len cap : Nat) (e : Ending) (w' : World) : Prop :=
  ∃ x : Nat, x < n ∧ e = .returned (.int .i64 x) ∧ Cur B w' p a len cap ∧ Below B w w' ∧ ButK p w w'

set_option maxHeartbeats 2000000 in
theorem below_any (B n : Nat) (w : World) (p : Nat) (a : Option Addr) (len cap : Nat) (hn : 1 ≤ n) (hn2 : n ≤ 256) (hl : len ≤ 1048576) (hB : B ≤ w.heap.size) (h : Cur B w p a len cap) :
    Calls Try.prog 149 #[.pointer (some ⟨p, 0, none⟩), .int .i64 n] w (LowPost B n w p a len cap) := by
  have h1 : ¬ (n : Int) ≤ 0 := by omega
  have h2 : (n : Int) ≤ 256 := by omega
  have h3 : ¬ (n : Int) = 0 := by omega
  go_enter Try.func149, Try.ntmps149
  go_wp2_with fail
  refine (byte_any B w p a len cap hl hB h).mono ?_
  rintro e w2 ⟨x, hx, rfl, hcur2, hb2, hu2⟩
  have P : Hid (LowPost B n w p a len cap (.returned (.int .i64 ((x % n : Nat) : Int))) w2) := ⟨x % n, Nat.mod_lt _ (by omega), rfl, hcur2, hb2, hu2⟩
  clear h hcur2
  go_wp2
  go_ret
  have := P.out
  rwa [show (((x % n : Nat)) : Int) = (x : Int) % (n : Int) by omega] at this

def PickPost (B : Nat) (l : List ByteArray) (w : World) (p : Nat) (a : Option Addr) (len cap : Nat) (e : Ending) (w' : World) : Prop :=
  ∃ s ∈ l, e = .returned (.string s) ∧ Cur B w' p a len cap ∧ Below B w w' ∧ ButK p w w'

def TextPost (B : Nat) (w : World) (e : Ending) (w' : World) : Prop := ∃ s : ByteArray, s.size ≤ 16 ∧ e = .returned (.string s) ∧ Below B w w'
def fiveL : List ByteArray := [⟨#[97]⟩, ⟨#[98, 99]⟩, ⟨#[32]⟩, ⟨#[44]⟩, ⟨#[120, 49]⟩]
theorem five_small : ∀ s ∈ fiveL, s.size ≤ 2 := by
  intro s hs
  simp only [fiveL, List.mem_cons, List.not_mem_nil, or_false] at hs
  rcases hs with rfl | rfl | rfl | rfl | rfl <;> decide
theorem five_row (w : World) : ∀ j, j < fiveL.length → (w.alloc (.cells #[.string ⟨#[97]⟩, .string ⟨#[98, 99]⟩, .string ⟨#[32]⟩, .string ⟨#[44]⟩, .string ⟨#[120, 49]⟩] 9)).cell? ⟨w.heap.size, 0 + j, none⟩ = some (.string (fiveL.getD j ByteArray.empty)) := by
  intro j hj
  rw [cell_of_row _ _ _ _ _ _ (heap_alloc_new w _), Nat.zero_add]
  match j, hj with
  | 0, _ => rfl
  | 1, _ => rfl
  | 2, _ => rfl
  | 3, _ => rfl
  | 4, _ => rfl
theorem Cur.alloc {B : Nat} {w : World} {p : Nat} {a : Option Addr} {len cap : Nat} (h : Cur B w p a len cap) (hB : B ≤ w.heap.size) (o : Obj) : Cur B (w.alloc o) p a len cap := by
  obtain ⟨hBp, hr, i, q, hi, hp⟩ := h
  exact ⟨hBp, hr.below ((Below.refl B w).alloc hB o), i, q, hi, keep_row hp ((Below.refl _ w).alloc (Nat.le_refl _) o)⟩
theorem Cur.lt {B : Nat} {w : World} {p : Nat} {a : Option Addr} {len cap : Nat} (h : Cur B w p a len cap) : p < w.heap.size := by
  obtain ⟨_, _, i, q, _, hp⟩ := h
  rcases Nat.lt_or_ge p w.heap.size with h' | h'
  · exact h'
  · simp [Array.getElem?_eq_none h'] at hp

end Go.Proofs.Ytpndfmlkceplcaa
namespace Go.Proofs.Ytpndfmlkceplcaa
open Go.ChangeShapes Go.WideShapes Go.ChangeAt Go.RowKit
set_option linter.unusedVariables false

theorem l02Of_ok (N : Nat) (z : Int) (w : World) (h1 : 1 ≤ N) (h8 : N ≤ 8) (hz0 : 0 ≤ z) (hz : z < 2 ^ 62) :
    Calls Try.prog 148 #[.int .i64 N, .int .i64 z] w fun e w' => (∃ g l, OkL l ∧ l.length = N ∧ e = .returned (.agg #[.int .i64 N, .slice (some ⟨g, 0, none⟩) N N]) ∧ w'.ownsRow w.heap.size 3 1 (.slice (some ⟨g, 0, none⟩) N N) N (l.map iv)) ∧ Below w.heap.size w w' := by
  obtain ⟨b, rfl⟩ : ∃ b : Nat, z = (b : Int) := ⟨z.toNat, by omega⟩
  have hk := tourL_ok N b h1 h8
  refine (l02Of_text _ N b w h8 (by omega) (tourL_text N b h1 h8)).mono ?_
  rintro e w' ⟨⟨g, ys, rfl, hys, ho⟩, hb⟩
  refine ⟨⟨g, (tourL N b).map Int.ofNat, hk, by simp [tourL_len], rfl, ?_⟩, hb⟩
  have e := hys _ (text_L hk)
  have hN : ((tourL N b).map Int.ofNat).length = N := by simp [tourL_len]
  have h2 := tellL_end hk
  rw [hN] at h2
  rw [e, nv_iv, h2] at ho
  exact ho

/-! A cursor in block p: all that is older, but p, stays. -/
theorem gr_below {w w' : World} (p : Nat) (hb : Below w.heap.size w w') : w.grownBy w' (some p) := ⟨hb.os, hb.tape, hb.output, hb.size, fun k hk _ => hb.block k hk⟩
theorem gr_low {B p : Nat} {w w' : World} (hb : Below B w w') (hu : ButK p w w') : w.grownBy w' (some p) := ⟨hb.os, hb.tape, hb.output, hb.size, fun k hk hne => hu k (fun e => hne (by rw [e]))⟩
theorem below_gr {B p : Nat} {w w' : World} (hg : w.grownBy w' (some p)) (hB : B ≤ w.heap.size) (hp : B ≤ p) : Below B w w' := (Below.refl _ w).grown hg hB (fun k hk => by cases hk; exact hp)
theorem Cur.kept {B p : Nat} {w w' : World} {a : Option Addr} {len cap : Nat} (h : Cur B w p a len cap) (hB : B ≤ w.heap.size) (hb : Below w.heap.size w w') : Cur B w' p a len cap := by
  obtain ⟨hBp, hr, i, q, hi, hp⟩ := h
  exact ⟨hBp, hr.below (hb.mono hB), i, q, hi, keep_row hp hb⟩
theorem Cur.base {B p : Nat} {w : World} {a : Option Addr} {len cap : Nat} (h : Cur B w p a len cap) : B ≤ p := h.1

theorem gr_set {w w' : World} {p g o : Nat} {v : Value} (hg : w.grownBy w' (some p)) (hh : w.heap.size ≤ g) : w.grownBy (w'.setCell ⟨g, o, none⟩ v) (some p) :=
  ⟨hg.os, hg.tape, hg.output, by simp [World.setCell]; exact hg.size, fun k hk hne => (heap_setCell_other w' ⟨g, o, none⟩ k v (fun e => by simp at e; omega)).trans (hg.block k hk hne)⟩
theorem Cur.set {B p g o : Nat} {w : World} {v : Value} {a : Option Addr} {len cap : Nat} (h : Cur B w p a len cap) (hg : B ≤ g) (hgp : g ≠ p) : Cur B (w.setCell ⟨g, o, none⟩ v) p a len cap := by
  obtain ⟨hBp, hr, i, q, hi, hp⟩ := h
  exact ⟨hBp, hr.below ((Below.refl B w).setCell (p := ⟨g, o, none⟩) hg v), i, q, hi, (heap_setCell_other w ⟨g, o, none⟩ p v (fun e => hgp e.symm)).trans hp⟩
/-- A tour that a draw answers. -/
def DrawT (B most : Nat) (w : World) (p : Nat) (a : Option Addr) (len cap : Nat) (e : Ending) (w' : World) : Prop :=
  ∃ (l : List Int) (g c : Nat), OkL l ∧ l.length ≤ most ∧ e = .returned (.agg #[.int .i64 (l.length : Int), .slice (some ⟨g, 0, none⟩) l.length c]) ∧ w'.ownsRow w.heap.size 3 1 (.slice (some ⟨g, 0, none⟩) l.length c) l.length (l.map iv) ∧ Cur B w' p a len cap ∧ w.grownBy w' (some p)

set_option maxHeartbeats 2000000 in
theorem draw_any (B most : Nat) (w : World) (p : Nat) (a : Option Addr) (len cap : Nat) (h1 : 1 ≤ most) (h8 : most ≤ 8) (hl : len ≤ 1048576) (hB : B ≤ w.heap.size) (h : Cur B w p a len cap) :
    Calls Try.prog 145 #[.pointer (some ⟨p, 0, none⟩), .int .i64 most] w (DrawT B most w p a len cap) := by
  obtain ⟨W0, hW0⟩ : ∃ W0, W0 = w.alloc (.cells #[.int .i64 0, .slice none 0 0] 27) := ⟨_, rfl⟩
  have hb0 : Below w.heap.size w W0 := by rw [hW0]; exact Below.one _ _
  have x0 : Box W0 w.heap.size 27 (.int .i64 0) (.slice none 0 0) := by rw [hW0]; exact Box.new _ _ _ _
  have c0 := h.kept hB hb0
  have hpw : p < w.heap.size := h.lt
  have g0 := Lib.hid (gr_below p hb0)
  have X0 := Lib.hid x0
  have HW0 := Lib.hid hW0
  have hB0 : B ≤ W0.heap.size := Nat.le_trans hB hb0.size
  have hpx : Hid (w.heap.size ≠ p) := (show _ ≠ p by omega)
  have hpw' := Lib.hid hpw
  have hs0 := Lib.hid hb0.size
  clear hW0 hb0 x0 h hpw
  go_enter Try.func145, Try.ntmps145
  go_wp2_with fail
  rw [← HW0.out]
  refine (below_any B most W0 p a len cap h1 (by omega) hl hB0 c0).mono ?_
  rintro e w1 ⟨x, hx, rfl, c1, hb1, hu1⟩
  have g1 := Lib.hid (g0.out.trans (gr_low hb1 hu1))
  have X1 := Lib.hid (X0.out.grown (gr_low hb1 hu1) (fun e => hpx.out (by injection e with e; exact e.symm)))
  have hB1 := Nat.le_trans hB0 hb1.size
  have hs1 := Lib.hid (Nat.le_trans hs0.out hb1.size)
  clear c0 hb1 hu1
  go_wp2_with fail
  refine (below_any B 256 w1 p a len cap (by omega) (by omega) hl hB1 c1).mono ?_
  rintro e w2 ⟨y1, hy1, rfl, c2, hb2, hu2⟩
  have g2 := Lib.hid (g1.out.trans (gr_low hb2 hu2))
  have X2 := Lib.hid (X1.out.grown (gr_low hb2 hu2) (fun e => hpx.out (by injection e with e; exact e.symm)))
  have hB2 := Nat.le_trans hB1 hb2.size
  have hs2 := Lib.hid (Nat.le_trans hs1.out hb2.size)
  clear c1 hb2 hu2
  go_wp2_with fail
  refine (below_any B 256 w2 p a len cap (by omega) (by omega) hl hB2 c2).mono ?_
  rintro e w3 ⟨y2, hy2, rfl, c3, hb3, hu3⟩
  have g3 := Lib.hid (g2.out.trans (gr_low hb3 hu3))
  have X3 := Lib.hid (X2.out.grown (gr_low hb3 hu3) (fun e => hpx.out (by injection e with e; exact e.symm)))
  have hB3 := Nat.le_trans hB2 hb3.size
  have hs3 := Lib.hid (Nat.le_trans hs2.out hb3.size)
  clear c2 hb3 hu3
  go_wp2_with fail
  refine (below_any B 256 w3 p a len cap (by omega) (by omega) hl hB3 c3).mono ?_
  rintro e w4 ⟨y3, hy3, rfl, c4, hb4, hu4⟩
  have g4 := Lib.hid (g3.out.trans (gr_low hb4 hu4))
  have X4 := Lib.hid (X3.out.grown (gr_low hb4 hu4) (fun e => hpx.out (by injection e with e; exact e.symm)))
  have hB4 := Nat.le_trans hB3 hb4.size
  have hs4 := Lib.hid (Nat.le_trans hs3.out hb4.size)
  clear c3 hb4 hu4
  go_wp2_with fail
  refine (below_any B 16 w4 p a len cap (by omega) (by omega) hl hB4 c4).mono ?_
  rintro e w5 ⟨y4, hy4, rfl, c5, hb5, hu5⟩
  have g5 := Lib.hid (g4.out.trans (gr_low hb5 hu5))
  have X5 := Lib.hid (X4.out.grown (gr_low hb5 hu5) (fun e => hpx.out (by injection e with e; exact e.symm)))
  have hB5 := Nat.le_trans hB4 hb5.size
  have hs5 := Lib.hid (Nat.le_trans hs4.out hb5.size)
  clear c4 hb5 hu5
  obtain ⟨N, hN⟩ : ∃ N : Nat, (1 : Int) + (x : Int) = (N : Int) := ⟨1 + x, by omega⟩
  have hN1 : 1 ≤ N := by omega
  have hN8 : N ≤ most := by omega
  go_wp2_with fail
  refine (l02Of_ok N _ w5 hN1 (by omega) (by omega) (by omega)).mono ?_
  rintro e w6 ⟨⟨g, l, hok, hlen, rfl, ho⟩, hb6⟩
  have c6 := Lib.hid (c5.kept hB5 hb6)
  have x6 := X5.out.below hb6 X5.out.lt
  have g6 := Lib.hid (g5.out.trans (gr_below p hb6))
  have HO := Lib.hid (ho.mono hs5.out)
  have hgx : Hid (g ≠ w.heap.size) := (show g ≠ _ by have := (ho.lt g rfl).1; have := X5.out.lt; omega)
  have HK := Lib.hid hok
  have HLN := Lib.hid hlen
  have e0 := x6.c0
  have e1 := x6.c1
  have e2 := x6.f0
  have e3 := x6.f1
  have X6 := Lib.hid x6
  clear x6 ho hb6 c5 hok hlen hN hx
  go_wp2
  refine bodyPost_ret (v := .agg #[.int .i64 N, .slice (some ⟨g, 0, none⟩) N N]) (Box.res1 rfl _ rfl ((X6.out.set0 _).set1 _)) rfl ?_
  have hl' := HLN.out
  subst hl'
  refine ⟨l, g, l.length, HK.out, hN8, rfl, ?_, ?_, ?_⟩
  · exact own_other (own_other HO.out ⟨w.heap.size, 0, none⟩ _ hgx.out) ⟨w.heap.size, 1, none⟩ _ hgx.out
  · exact (c6.out.set hB hpx.out).set hB hpx.out
  · exact gr_set (gr_set g6.out (Nat.le_refl _)) (Nat.le_refl _)
end Go.Proofs.Ytpndfmlkceplcaa
namespace Go.Proofs.Ytpndfmlkceplcaa
open Go.ChangeShapes Go.WideShapes Go.ChangeAt Go.RowKit
set_option linter.unusedVariables false

theorem own_some {w : World} {B n : Nat} {v : Value} {xs : List Value} (h : w.ownsRow B 3 1 v n xs) (hne : v ≠ .slice none 0 0) : ∃ g cap, v = .slice (some ⟨g, 0, none⟩) n cap ∧ B ≤ g ∧ g < w.heap.size ∧ n ≤ cap := by
  have h0 := h
  rcases h.2 with ⟨hn, _⟩ | ⟨g, cap, cur, rfl, hb, hg, hnc, _⟩
  · exact absurd hn hne
  · exact ⟨g, cap, rfl, hb, (h0.lt g rfl).2, hnc⟩

theorem slice_ne {a : Addr} {n c : Nat} : Value.slice (some a) n c ≠ .slice none 0 0 := by
  intro h
  injection h with h
  cases h
/-- What the round holds of the row that it reads: its block lies below n0, and has not turned. -/
structure Xs (n0 g k : Nat) (O : List Int) (wr W : World) : Prop where
  sz : n0 ≤ W.heap.size
  lo : g < n0
  gr : wr.grownBy W none
  rd : ∀ j, j < k → wr.cell? ⟨g, j, none⟩ = some (.int .i64 (O.getD j 0))
  ol : O.length = k
  z0 : wr.heap.size = n0
theorem Xs.grown1 {n0 g k : Nat} {O : List Int} {wr W W' : World} (h : Xs n0 g k O wr W) {row : Option Nat} (hg : W.grownBy W' row) (hr : ∀ b, row = some b → n0 ≤ b) : Xs n0 g k O wr W' := by
  refine ⟨Nat.le_trans h.sz hg.size, h.lo, ⟨hg.os.trans h.gr.os, hg.tape.trans h.gr.tape, hg.output.trans h.gr.output, Nat.le_trans h.gr.size hg.size, fun b hb _ => ?_⟩, h.rd, h.ol, h.z0⟩
  have h1 := h.gr.block b hb (by simp)
  have h2 := hg.block b (Nat.lt_of_lt_of_le hb h.gr.size) (fun e => by have := hr b e.symm; have := h.z0; omega)
  exact h2.trans h1
theorem Xs.alloc1 {n0 g k : Nat} {O : List Int} {wr W : World} (h : Xs n0 g k O wr W) (o : Obj) : Xs n0 g k O wr (W.alloc o) := h.grown1 (World.grownBy_alloc W o none) (by simp)
theorem Xs.cell {n0 g k : Nat} {O : List Int} {wr W : World} (h : Xs n0 g k O wr W) (j : Nat) (hj : j < k) : W.cell? ⟨g, j, none⟩ = some (.int .i64 (O.getD j 0)) := by
  rw [← h.rd j hj]
  exact World.cell?_of_block (h.gr.block g (by rw [h.z0]; exact h.lo) (by simp))
theorem Xs.cells {n0 g k : Nat} {O : List Int} {wr W : World} (h : Xs n0 g k O wr W) (j : Nat) (hj : j ≤ k) {ad : Addr} (ha : j < k → ad = ⟨g, j, none⟩) : ∀ i u, ((O.drop j).map iv)[i]? = some u → W.cell? (ad.add i) = some u := by
  intro i u hu
  have hi : i < (O.drop j).length := by
    rcases Nat.lt_or_ge i (O.drop j).length with h' | h'
    · exact h'
    · rw [List.getElem?_eq_none (by rw [List.length_map]; exact h')] at hu; cases hu
  rw [List.length_drop, h.ol] at hi
  rw [ha (by omega)]
  have e : (⟨g, j, none⟩ : Addr).add i = ⟨g, j + i, none⟩ := by unfold Addr.add; split <;> simp_all
  rw [e, h.cell (j + i) (by omega)]
  rw [List.getElem?_map, List.getElem?_drop, List.getElem?_eq_getElem (by rw [h.ol]; omega)] at hu
  rw [List.getD_eq_getElem?_getD, List.getElem?_eq_getElem (by rw [h.ol]; omega)]
  simpa [iv] using hu
theorem Xs.below {n0 g k : Nat} {O : List Int} {wr W w : World} (h : Xs n0 g k O wr W) (hb : Below w.heap.size w wr) (hs : w.heap.size ≤ wr.heap.size) : Below w.heap.size w W :=
  hb.grown h.gr hs (fun k hk => by cases hk)
end Go.Proofs.Ytpndfmlkceplcaa
namespace Go.Proofs.Ytpndfmlkceplcaa
open Go.ChangeShapes Go.WideShapes Go.ChangeAt Go.RowKit
set_option linter.unusedVariables false

def OnceP (B : Nat) (w : World) (p : Nat) (a : Option Addr) (len cap : Nat) (e : Ending) (w' : World) : Prop :=
  ∃ b : Bool, e = .returned (.bool b) ∧ Cur B w' p a len cap ∧ w.grownBy w' (some p)
set_option maxHeartbeats 1000000 in
theorem once_any (B n : Nat) (w : World) (p : Nat) (a : Option Addr) (len cap : Nat) (h1 : 1 ≤ n) (h8 : n ≤ 256) (hl : len ≤ 1048576) (hB : B ≤ w.heap.size) (h : Cur B w p a len cap) :
    Calls Try.prog 146 #[.pointer (some ⟨p, 0, none⟩), .int .i64 n] w (OnceP B w p a len cap) := by
  go_enter Try.func146, Try.ntmps146
  go_wp2_with fail
  refine (below_any B n w p a len cap h1 h8 hl hB h).mono ?_
  rintro e w1 ⟨x, hx, rfl, c1, hb1, hu1⟩
  have P : Hid (∀ b, OnceP B w p a len cap (.returned (.bool b)) w1) := fun b => ⟨b, rfl, c1, gr_low hb1 hu1⟩
  clear h c1 hb1 hu1 hx
  go_wp2
  go_ret
  exact P.out _

/-- An order that a draw answers. -/
def OrderP (B n : Nat) (w : World) (p : Nat) (a : Option Addr) (len cap : Nat) (e : Ending) (w' : World) : Prop :=
  ∃ (L : List Int) (g c : Nat), Names n L ∧ e = .returned (.slice (some ⟨g, 0, none⟩) n c) ∧ w'.ownsRow w.heap.size 3 1 (.slice (some ⟨g, 0, none⟩) n c) n (L.map iv) ∧ Cur B w' p a len cap ∧ w.grownBy w' (some p)

set_option maxRecDepth 100000 in
set_option maxHeartbeats 2000000 in
theorem order_any (B n : Nat) (w : World) (p : Nat) (a : Option Addr) (len cap : Nat) (hn : n ≤ 8) (hl : len ≤ 1048576) (hB : B ≤ w.heap.size) (h : Cur B w p a len cap) :
    Calls Try.prog 111 #[.pointer (some ⟨p, 0, none⟩), .int .i64 n] w (OrderP B n w p a len cap) := by
  obtain ⟨i0, hi, hz0, hz1, hz2⟩ := info_parts infoInt
  obtain ⟨Wa, hWa⟩ : ∃ Wa, Wa = w.alloc (.cells #[] 3) := ⟨_, rfl⟩
  have hba : Below w.heap.size w Wa := by rw [hWa]; exact (Below.refl _ _).alloc (Nat.le_refl _) _
  have hO0 : Wa.ownsRow w.heap.size 3 1 (.slice (some ⟨w.heap.size, 0, none⟩) 0 0) 0 (([] : List Int).map iv) := by
    rw [hWa]; exact World.ownsRow_lit (base := w.heap.size) (e := 3) (size := 1) w #[] 0 (Nat.le_refl _) (by simp) rfl
  have hc0 := h.kept hB hba
  have hpw := Lib.hid h.lt
  have hg0 := gr_below p hba
  have HW := Lib.hid hWa
  clear hWa h hba
  go_enter Try.func111, Try.ntmps111
  go_wp2
  rw [← HW.out]
  go_loopw [5, 6] (fun out i wr => ∃ (k g c : Nat) (O : List Int), k ≤ n ∧ i = .int .i64 k ∧ Value.slice (some ⟨g, 0, none⟩) k c = out ∧ Hid (Names k O) ∧ wr.ownsRow w.heap.size 3 1 (.slice (some ⟨g, 0, none⟩) k c) k (O.map iv) ∧ Cur B wr p a len cap ∧ w.grownBy wr (some p)) (fun _ i _ => n - (intOf i).toNat)
  case atStart => exact ⟨0, w.heap.size, 0, [], Nat.zero_le _, rfl, rfl, Names.nil, hO0, hc0, hg0⟩
  case round =>
    clear hO0 hc0 hg0
    obtain ⟨k, g, c, O, hk, rfl, rfl, hnm, hown, hcur, hgr⟩ := hrel
    by_cases hlt : k < n
    · have hib : (k : Int) < (n : Int) := by omega
      have hk1 : Hid ((k : Int) + 1 = ((k + 1 : Nat) : Int)) := by show _ = _; omega
      have hBr : B ≤ wr.heap.size := Nat.le_trans hB hgr.size
      have hgp : blk (some (⟨g, 0, none⟩ : Addr)) = some g := rfl
      have hgl := hown.lt g rfl
      have HO := Lib.hid hown
      have HG := Lib.hid hgr
      clear hown hgr
      go_wp2_with fail
      rw [hk1.out]
      refine (below_any B (k + 1) wr p a len cap (by omega) (by omega) hl hBr hcur).mono ?_
      rintro e w2 ⟨j, hj, rfl, hcur2, hb2, hu2⟩
      have hjk : j ≤ k := by omega
      have hown := own_grown HO.out (gr_low hb2 hu2) (fun k' hk' e => by rw [hgp] at hk'; cases hk'; have := hgl.1; have := hpw.out; have := Option.some.inj e; omega)
      have HG2 := Lib.hid (HG.out.trans (gr_low hb2 hu2))
      have hol : Hid (O.length = k) := hnm.out.1
      have hput : Hid (Names (k + 1) (O.take j ++ [(k : Int)] ++ O.drop j)) := hnm.out.put j
      obtain ⟨_, _, he, _, hgl2, hkc⟩ := own_some hown (by simp)
      simp only [Value.slice.injEq, Option.some.injEq, Addr.mk.injEq, and_true, true_and] at he
      obtain ⟨rfl, rfl⟩ := he
      have hrd : ∀ j, j < k → w2.cell? ⟨g, j, none⟩ = some (.int .i64 (O.getD j 0)) := by
        intro j hj
        have := hol.out
        rw [hown.cellAt j (by omega)]
        simp [List.getElem?_eq_getElem (show j < O.length by omega), iv]
      have hbs : Hid (w.heap.size ≤ w2.heap.size) := HG2.out.size
      have HX : Hid (Xs w2.heap.size g k O w2 (w2.alloc (.cells #[] 3))) := ⟨by simp, hgl2, World.grownBy_alloc w2 _ none, hrd, hol.out, rfl⟩
      have HE0 : Hid ((w2.alloc (.cells #[] 3)).ownsRow w2.heap.size 3 1 (.slice (some ⟨w2.heap.size, 0, none⟩) 0 0) 0 []) := World.ownsRow_lit (base := w2.heap.size) (e := 3) (size := 1) w2 #[] 0 (Nat.le_refl _) (by simp) rfl
      have HT : Hid (∀ j, j ≤ k → ((O.take j).map iv).length = j * 1) := by intro j hj; have := hol.out; rw [List.length_map, List.length_take]; omega
      have HD : Hid (∀ j, j ≤ k → ((O.drop j).map iv).length = (k - j) * 1) := by intro j hj; rw [List.length_map, List.length_drop, hol.out]; omega
      have HC1 : Hid (∀ j, j ≤ k → ∀ i u, ((O.take j).map iv)[i]? = some u → (w2.alloc (.cells #[] 3)).cell? ((⟨g, 0, none⟩ : Addr).add i) = some u) := by
        intro j hj i u hu
        have hol' := hol.out
        have hil : i < j := by
          rcases Nat.lt_or_ge i j with h' | h'
          · exact h'
          · rw [List.getElem?_eq_none (by rw [List.length_map, List.length_take]; omega)] at hu; cases hu
        have e : (⟨g, 0, none⟩ : Addr).add i = ⟨g, i, none⟩ := by unfold Addr.add; split <;> simp_all
        rw [e, HX.out.cell i (by omega)]
        rw [List.getElem?_map, List.getElem?_take_of_lt hil, List.getElem?_eq_getElem (by omega)] at hu
        rw [List.getD_eq_getElem?_getD, List.getElem?_eq_getElem (by omega)]
        simpa [iv] using hu
      have HCU := Lib.hid hcur2
      have hB2r : B ≤ w2.heap.size := Nat.le_trans hBr hb2.size
      have hmx : k ≤ 9223372036854775807 := by omega
      have hjc : j ≤ c := by omega
      clear hown hrd hb2 hu2 hcur hcur2 hgl hnm
      by_cases hcap : c = j
      · obtain rfl : j = c := hcap.symm
        go_wp2_with (first
          | (at_builtin; refine wpList_append_own _ rfl (.tmp 19) (.tmp 22) 22 rfl w2.heap.size 3 i0 (.int .i64 0) 1 8 Try.underlying22 hi hz0 hz1 hz2 rfl (by decide) _ 0 [] rfl HE0.out ⟨g, 0, none⟩ j j ((O.take j).map iv) rfl (HT.out j hjk) (HC1.out j hjk) (by intro u hu; obtain ⟨z, _, rfl⟩ := List.mem_map.1 hu; rfl) (by unfold maxLen; omega) (by omega) (by simp) ?_; intro v1 w1 ho1 hg1 hn1; simp only [Nat.zero_add, List.nil_append] at ho1; obtain ⟨g1, cap1, rfl, hB1, hl1, hc1⟩ := own_some ho1 (fun e => slice_ne (hn1.1 e).1); have hX1 := Lib.hid (HX.out.grown1 hg1 (fun b hb => Nat.le_of_eq (Option.some.inj hb))); have HO1 := Lib.hid ho1; clear ho1 hg1 hn1)
          | (at_builtin; refine wpList_append_own _ rfl (.tmp 24) (.tmp 26) 22 rfl w2.heap.size 3 i0 (.int .i64 0) 1 8 Try.underlying22 hi hz0 hz1 hz2 rfl (by decide) _ j _ rfl (HO1.out.alloc _) ⟨w1.heap.size, 0, none⟩ 1 1 [.int .i64 k] rfl rfl (cell_one_new _ _ _) (by intro u hu; simp at hu; subst hu; rfl) (by unfold maxLen; omega) (by omega) (by have := hX1.out.sz; simp; omega) ?_; intro v2 w3 ho2 hg2 hn2; obtain ⟨g2, cap2, rfl, hB2, hl2, hc2⟩ := own_some ho2 (fun e => slice_ne (hn2.1 e).1); have hX2 := Lib.hid ((hX1.out.alloc1 _).grown1 hg2 (fun b hb => Nat.le_trans hB1 (Nat.le_of_eq (Option.some.inj hb)))); have HO2 := Lib.hid ho2; clear ho2 hg2 hn2)
          | (at_builtin; refine wpList_append_own _ rfl (.tmp 28) (.tmp 31) 22 rfl w2.heap.size 3 i0 (.int .i64 0) 1 8 Try.underlying22 hi hz0 hz1 hz2 rfl (by decide) _ (j + 1) _ rfl HO2.out ⟨g, 0, none⟩ 0 0 [] rfl rfl (fun i u h => by simp at h) (by intro u hu; cases hu) (by unfold maxLen; omega) (by omega) hX2.out.sz ?_; intro v3 w4 ho3 hg3 hn3; rw [show j + 1 + 0 = k + 1 by omega] at ho3; obtain ⟨g3, cap3, rfl, hB3, hl3, hc3⟩ := own_some ho3 (fun e => slice_ne (hn3.1 e).1); have hX3 := Lib.hid (hX2.out.grown1 hg3 (fun b hb => Nat.le_trans hB2 (Nat.le_of_eq (Option.some.inj hb)))); have HO3 := Lib.hid ho3; clear ho3 hg3 hn3))
        have hfin : Hid (w4.ownsRow w.heap.size 3 1 (.slice (some ⟨g3, 0, none⟩) (k + 1) cap3) (k + 1) ((O.take j ++ [(k : Int)] ++ O.drop j).map iv)) := by
          have e := HO3.out.mono hbs.out
          show World.ownsRow _ _ _ _ _ _ _
          rw [show O.drop j = [] from List.drop_eq_nil_of_le (by rw [hol.out]; omega)]
          simpa [iv] using e
        have hb4 : Below w2.heap.size w2 w4 := hX3.out.below (Below.refl _ _) (Nat.le_refl _)
        have hc4 := HCU.out.kept hB2r hb4
        have hg4 := HG2.out.trans (gr_below p hb4)
        go_roundw
        case rel => exact ⟨k + 1, g3, cap3, _, by omega, by go_num, rfl, hput, hfin.out, hc4, hg4⟩
        case measure => simp [intOf]; omega
      · go_wp2_with (first
          | (at_builtin; refine wpList_append_own _ rfl (.tmp 19) (.tmp 22) 22 rfl w2.heap.size 3 i0 (.int .i64 0) 1 8 Try.underlying22 hi hz0 hz1 hz2 rfl (by decide) _ 0 [] rfl HE0.out ⟨g, 0, none⟩ j c ((O.take j).map iv) rfl (HT.out j hjk) (HC1.out j hjk) (by intro u hu; obtain ⟨z, _, rfl⟩ := List.mem_map.1 hu; rfl) (by unfold maxLen; omega) (by omega) (by simp) ?_; intro v1 w1 ho1 hg1 hn1; simp only [Nat.zero_add, List.nil_append] at ho1; obtain ⟨g1, cap1, rfl, hB1, hl1, hc1⟩ := own_some ho1 (fun e => slice_ne (hn1.1 e).1); have hX1 := Lib.hid (HX.out.grown1 hg1 (fun b hb => Nat.le_of_eq (Option.some.inj hb))); have HO1 := Lib.hid ho1; clear ho1 hg1 hn1)
          | (at_builtin; refine wpList_append_own _ rfl (.tmp 24) (.tmp 26) 22 rfl w2.heap.size 3 i0 (.int .i64 0) 1 8 Try.underlying22 hi hz0 hz1 hz2 rfl (by decide) _ j _ rfl (HO1.out.alloc _) ⟨w1.heap.size, 0, none⟩ 1 1 [.int .i64 k] rfl rfl (cell_one_new _ _ _) (by intro u hu; simp at hu; subst hu; rfl) (by unfold maxLen; omega) (by omega) (by have := hX1.out.sz; simp; omega) ?_; intro v2 w3 ho2 hg2 hn2; obtain ⟨g2, cap2, rfl, hB2, hl2, hc2⟩ := own_some ho2 (fun e => slice_ne (hn2.1 e).1); have hX2 := Lib.hid ((hX1.out.alloc1 _).grown1 hg2 (fun b hb => Nat.le_trans hB1 (Nat.le_of_eq (Option.some.inj hb)))); have HO2 := Lib.hid ho2; clear ho2 hg2 hn2)
          | (at_builtin; refine wpList_append_own _ rfl (.tmp 28) (.tmp 31) 22 rfl w2.heap.size 3 i0 (.int .i64 0) 1 8 Try.underlying22 hi hz0 hz1 hz2 rfl (by decide) _ (j + 1) _ rfl HO2.out ⟨g, j, none⟩ (k - j) (c - j) ((O.drop j).map iv) rfl (HD.out j hjk) (hX2.out.cells j hjk (fun _ => rfl)) (by intro u hu; obtain ⟨z, _, rfl⟩ := List.mem_map.1 hu; rfl) (by unfold maxLen; omega) (by omega) hX2.out.sz ?_; intro v3 w4 ho3 hg3 hn3; rw [show j + 1 + (k - j) = k + 1 by omega] at ho3; obtain ⟨g3, cap3, rfl, hB3, hl3, hc3⟩ := own_some ho3 (fun e => slice_ne (hn3.1 e).1); have hX3 := Lib.hid (hX2.out.grown1 hg3 (fun b hb => Nat.le_trans hB2 (Nat.le_of_eq (Option.some.inj hb)))); have HO3 := Lib.hid ho3; clear ho3 hg3 hn3))
        have hfin : Hid (w4.ownsRow w.heap.size 3 1 (.slice (some ⟨g3, 0, none⟩) (k + 1) cap3) (k + 1) ((O.take j ++ [(k : Int)] ++ O.drop j).map iv)) := by
          have e := HO3.out.mono hbs.out
          show World.ownsRow _ _ _ _ _ _ _
          simpa [iv] using e
        have hb4 : Below w2.heap.size w2 w4 := hX3.out.below (Below.refl _ _) (Nat.le_refl _)
        have hc4 := HCU.out.kept hB2r hb4
        have hg4 := HG2.out.trans (gr_below p hb4)
        go_roundw
        case rel => exact ⟨k + 1, g3, cap3, _, by omega, by go_num, rfl, hput, hfin.out, hc4, hg4⟩
        case measure => simp [intOf]; omega
    · obtain rfl : k = n := by omega
      have hib : ¬ (k : Int) < (k : Int) := by omega
      have P : Hid (OrderP B k w p a len cap (.returned (.slice (some ⟨g, 0, none⟩) k c)) wr) := ⟨O, g, c, hnm.out, rfl, hown, hcur, hgr⟩
      clear hown hcur hgr
      go_wp2
      go_ret
      exact P.out
end Go.Proofs.Ytpndfmlkceplcaa
namespace Go.Proofs.Ytpndfmlkceplcaa
open Go.ChangeShapes Go.WideShapes Go.ChangeAt Go.RowKit
set_option linter.unusedVariables false

theorem rename_ok (N : Nat) (a : Option Addr) (l : List Int) (cap : Nat) (an : Option Addr) (ns : List Int) (cn : Nat) (w : World) (hlen : l.length = N) (hok : OkL l) (hns : Names N ns) (hrow : IntRow w a l) (hrn : IntRow w an ns) :
    Calls Try.prog 147 #[.agg #[.int .i64 N, .slice a N cap], .slice an N cn] w fun e w' => (∃ g l', OkL l' ∧ l'.length = N ∧ e = .returned (.agg #[.int .i64 N, .slice (some ⟨g, 0, none⟩) N N]) ∧ w'.ownsRow w.heap.size 3 1 (.slice (some ⟨g, 0, none⟩) N N) N (l'.map iv)) ∧ Below w.heap.size w w' := by
  subst hlen
  have hp := hns.perm
  have h := l02Rename_any a l cap an ns cn w hrow hrn hok hp
  rw [hns.1] at h
  obtain ⟨h1, h2, _⟩ := renamed0 hok hp
  refine h.mono ?_
  rintro e w' ⟨⟨g, rfl, ho⟩, hb⟩
  refine ⟨⟨g, _, h1, h2, rfl, ?_⟩, hb⟩
  rw [← nv_iv]; exact ho
theorem flip_ok (N : Nat) (a : Option Addr) (l : List Int) (cap i : Nat) (z : Int) (w : World) (hlen : l.length = N) (hok : OkL l) (hrow : IntRow w a l) (hi : i < N) (hz0 : 0 ≤ z) (hz : z < N) (hne : z ≠ i) :
    Calls Try.prog 150 #[.agg #[.int .i64 N, .slice a N cap], .int .i64 i, .int .i64 z] w fun e w' => (∃ g c l', OkL l' ∧ l'.length = N ∧ e = .returned (.agg #[.int .i64 N, .slice (some ⟨g, 0, none⟩) N c]) ∧ w'.ownsRow w.heap.size 3 1 (.slice (some ⟨g, 0, none⟩) N c) N (l'.map iv)) ∧ Below w.heap.size w w' := by
  subst hlen
  obtain ⟨j, rfl⟩ : ∃ j : Nat, z = (j : Int) := ⟨z.toNat, by omega⟩
  obtain ⟨h1, h2⟩ := flipped0 hok hi (show j < l.length by omega) (fun e => hne (by omega))
  refine (l02Flip_any _ a l cap i j w hrow hok hi (by omega) (fun e => hne (by omega))).mono ?_
  rintro e w' ⟨⟨g, c, rfl, ho⟩, hb⟩
  exact ⟨⟨g, c, _, h1, flipL_len _ _ _, rfl, ho⟩, hb⟩

theorem own_gr {W W' : World} {B g n c p : Nat} {xs : List Value} (h : W.ownsRow B 3 1 (.slice (some ⟨g, 0, none⟩) n c) n xs) (hg : W.grownBy W' (some p)) (hp : p < B) : W'.ownsRow B 3 1 (.slice (some ⟨g, 0, none⟩) n c) n xs :=
  own_grown h hg (fun k hk e => by
    have h1 := (h.lt g rfl).1
    injection e with e
    have h2 : g = k := Option.some.inj hk
    omega)

theorem IntRow.of_ownN {w : World} {B g N cap : Nat} {l : List Int} (h : w.ownsRow B 3 1 (.slice (some ⟨g, 0, none⟩) N cap) N (l.map iv)) (hl : l.length = N) : IntRow w (some ⟨g, 0, none⟩) l := by
  subst hl; exact IntRow.of_own h

/-- What 'l05Draw' holds of the memory between its steps. -/
structure D5 (B most : Nat) (w : World) (p pt : Nat) (a : Option Addr) (len cap : Nat) (W : World) (N : Nat) (l : List Int) (g c : Nat) : Prop where
  ok : OkL l
  len' : l.length = N
  le : N ≤ most
  br : Box W w.heap.size 27 (.int .i64 0) (.slice none 0 0)
  bt : Box W pt 27 (.int .i64 N) (.slice (some ⟨g, 0, none⟩) N c)
  ro : W.ownsRow w.heap.size 3 1 (.slice (some ⟨g, 0, none⟩) N c) N (l.map iv)
  cu : Cur B W p a len cap
  gr : w.grownBy W (some p)
  rt : w.heap.size < pt
  tg : pt ≠ g
  rg : w.heap.size ≠ g
  pw : p < w.heap.size
  Bw : B ≤ w.heap.size
section
variable {B most : Nat} {w : World} {p pt : Nat} {a : Option Addr} {len cap : Nat} {W W' : World} {N : Nat} {l : List Int} {g c : Nat}
theorem D5.gl (h : D5 B most w p pt a len cap W N l g c) : w.heap.size ≤ g ∧ g < W.heap.size := ⟨(h.ro.lt g rfl).1, (h.ro.lt g rfl).2⟩
theorem D5.row (h : D5 B most w p pt a len cap W N l g c) : IntRow W (some ⟨g, 0, none⟩) l := by
  have := h.ro
  obtain rfl := h.len'
  exact IntRow.of_own this
theorem D5.kept (h : D5 B most w p pt a len cap W N l g c) (hg : W.grownBy W' (some p)) (hc : Cur B W' p a len cap) : D5 B most w p pt a len cap W' N l g c :=
  ⟨h.ok, h.len', h.le, h.br.grown hg (fun e => by injection e with e; have := h.pw; omega), h.bt.grown hg (fun e => by injection e with e; have := h.pw; have := h.rt; omega),
   own_grown h.ro hg (fun k hk e => by injection e with e; simp [blk] at hk; have := h.pw; have := h.gl; omega), hc, h.gr.trans hg, h.rt, h.tg, h.rg, h.pw, h.Bw⟩
theorem D5.put {l' : List Int} {g' c' : Nat} (h : D5 B most w p pt a len cap W N l g c) (hok : OkL l') (hlen : l'.length = N) (ho : W.ownsRow w.heap.size 3 1 (.slice (some ⟨g', 0, none⟩) N c') N (l'.map iv)) (htg : pt ≠ g') (hrg : w.heap.size ≠ g') :
    D5 B most w p pt a len cap ((W.setCell ⟨pt, 0, none⟩ (.int .i64 N)).setCell ⟨pt, 1, none⟩ (.slice (some ⟨g', 0, none⟩) N c')) N l' g' c' :=
  ⟨hok, hlen, h.le, (h.br.other ⟨pt, 0, none⟩ _ (Nat.ne_of_lt h.rt)).other ⟨pt, 1, none⟩ _ (Nat.ne_of_lt h.rt), (h.bt.set0 _).set1 _,
   own_other (own_other ho ⟨pt, 0, none⟩ _ (fun e => htg e.symm)) ⟨pt, 1, none⟩ _ (fun e => htg e.symm),
   (h.cu.set (by have := h.rt; have := h.Bw; omega) (by have := h.rt; have := h.pw; omega)).set (by have := h.rt; have := h.Bw; omega) (by have := h.rt; have := h.pw; omega),
   gr_set (gr_set h.gr (Nat.le_of_lt h.rt)) (Nat.le_of_lt h.rt), h.rt, htg, hrg, h.pw, h.Bw⟩
theorem D5.putB {W4 : World} {l4 : List Int} {g4 c4 : Nat} {l' : List Int} {g' c' : Nat} (h4 : D5 B most w p pt a len cap W4 N l4 g4 c4) (h : D5 B most w p pt a len cap W N l g c) (hok : OkL l') (hlen : l'.length = N) (ho : W.ownsRow W4.heap.size 3 1 (.slice (some ⟨g', 0, none⟩) N c') N (l'.map iv)) :
    D5 B most w p pt a len cap ((W.setCell ⟨pt, 0, none⟩ (.int .i64 N)).setCell ⟨pt, 1, none⟩ (.slice (some ⟨g', 0, none⟩) N c')) N l' g' c' := by
  have h1 := (ho.lt g' rfl).1
  have h2 := h4.bt.lt
  have h3 := h4.br.lt
  exact h.put hok hlen (ho.mono h4.gr.size) (by omega) (by omega)
theorem D5.finish (h : D5 B most w p pt a len cap W N l g c) : DrawT B most w p a len cap (.returned (.agg #[.int .i64 N, .slice (some ⟨g, 0, none⟩) N c])) ((W.setCell ⟨w.heap.size, 0, none⟩ (.int .i64 N)).setCell ⟨w.heap.size, 1, none⟩ (.slice (some ⟨g, 0, none⟩) N c)) := by
  obtain ⟨ok, hl, le, br, bt, ro, cu, gr, rt, tg, rg, pw, Bw⟩ := h
  subst hl
  exact ⟨l, g, c, ok, le, rfl, own_other (own_other ro ⟨w.heap.size, 0, none⟩ _ (fun e => rg e.symm)) ⟨w.heap.size, 1, none⟩ _ (fun e => rg e.symm),
    (cu.set Bw (Nat.ne_of_gt pw)).set Bw (Nat.ne_of_gt pw), gr_set (gr_set gr (Nat.le_refl _)) (Nat.le_refl _)⟩
end
end Go.Proofs.Ytpndfmlkceplcaa
namespace Go.Proofs.Ytpndfmlkceplcaa
open Go.ChangeShapes Go.WideShapes Go.ChangeAt Go.RowKit
set_option linter.unusedVariables false

theorem onceT {P : Nat → Nat → Nat → Nat → World → Prop} {S : Nat → World → Prop} {Goal : Prop} (main : (∀ g g3 g4 c4 W, S g W → P g g3 g4 c4 W) → Goal) (rest : ∀ g g3 g4 c4 W, S g W → P g g3 g4 c4 W) : Goal := main rest

theorem rot_ne {i x N : Nat} (hi : i < N) (hx : x < N - 1) : 0 ≤ ((i : Int) + 1 + (x : Int)) % (N : Int) ∧ ((i : Int) + 1 + (x : Int)) % (N : Int) < (N : Int) ∧ ((i : Int) + 1 + (x : Int)) % (N : Int) ≠ (i : Int) := by
  refine ⟨Int.emod_nonneg _ (by omega), Int.emod_lt_of_pos _ (by omega), ?_⟩
  rcases Nat.lt_or_ge (i + 1 + x) N with h | h
  · rw [Int.emod_eq_of_lt (by omega) (by omega)]; omega
  · have e : ((i : Int) + 1 + (x : Int)) = ((i : Int) + 1 + (x : Int) - N) + N := by omega
    rw [e, Int.add_emod_right, Int.emod_eq_of_lt (by omega) (by omega)]; omega

set_option maxRecDepth 100000 in
set_option maxHeartbeats 4000000 in
theorem l05Draw_any (B most : Nat) (w : World) (p : Nat) (a : Option Addr) (len cap : Nat) (h1 : 1 ≤ most) (h8 : most ≤ 8) (hl : len ≤ 1048576) (hB : B ≤ w.heap.size) (h : Cur B w p a len cap) :
    Calls Try.prog 94 #[.pointer (some ⟨p, 0, none⟩), .int .i64 most] w (DrawT B most w p a len cap) := by
  obtain ⟨W0, hW0⟩ : ∃ W0, W0 = w.alloc (.cells #[.int .i64 0, .slice none 0 0] 27) := ⟨_, rfl⟩
  have hb0 : Below w.heap.size w W0 := by rw [hW0]; exact Below.one _ _
  have x0 : Box W0 w.heap.size 27 (.int .i64 0) (.slice none 0 0) := by rw [hW0]; exact Box.new _ _ _ _
  have c0 := h.kept hB hb0
  have hpw : p < w.heap.size := h.lt
  have g0 := Lib.hid (gr_below p hb0)
  have X0 := Lib.hid x0
  have HW0 := Lib.hid hW0
  have hB0 : B ≤ W0.heap.size := Nat.le_trans hB hb0.size
  have hpw' := Lib.hid hpw
  have hs0 := Lib.hid hb0.size
  have HB := Lib.hid hB
  clear hW0 hb0 x0 h hpw
  go_enter Try.func94, Try.ntmps94
  go_wp2_with fail
  rw [← HW0.out]
  refine (draw_any B most W0 p a len cap h1 h8 hl hB0 c0).mono ?_
  rintro e w1 ⟨l, g, c, hok, hle, rfl, ho, hc1, hg1⟩
  obtain ⟨N, hN⟩ : ∃ N, N = l.length := ⟨_, rfl⟩
  rw [← hN] at hle ho ⊢
  obtain ⟨W1, hW1⟩ : ∃ W1, W1 = w1.alloc (.cells #[.int .i64 N, .slice (some ⟨g, 0, none⟩) N c] 27) := ⟨_, rfl⟩
  have hbW1 : Below w1.heap.size w1 W1 := by rw [hW1]; exact Below.one _ _
  have xt : Box W1 w1.heap.size 27 (.int .i64 N) (.slice (some ⟨g, 0, none⟩) N c) := by rw [hW1]; exact Box.new _ _ _ _
  have hgl := ho.lt g rfl
  have hw1 : w.heap.size < w1.heap.size := Nat.lt_of_lt_of_le X0.out.lt hg1.size
  obtain ⟨pt, hpt⟩ : ∃ pt, pt = w1.heap.size := ⟨_, rfl⟩
  have D1 : Hid (D5 B most w p pt a len cap W1 N l g c) := by
    refine ⟨hok, hN.symm, hle, ?_, by rw [hpt]; exact xt, (own_below ho hbW1).mono hs0.out, ?_, ?_, by omega, by omega, ?_, hpw'.out, HB.out⟩
    · exact (X0.out.grown hg1 (fun e => by injection e with e; have := hpw'.out; omega)).below hbW1 hw1
    · exact hc1.kept (Nat.le_trans hB0 hg1.size) hbW1
    · exact (g0.out.trans hg1).trans (gr_below p hbW1)
    · have := X0.out.lt; omega
  have HW1 := Lib.hid hW1
  have HPT := Lib.hid hpt
  have hN1 : 1 ≤ N := by have := hok.le.1; omega
  have hN8 : N ≤ 8 := by omega
  have hBW1 : B ≤ W1.heap.size := Nat.le_trans (Nat.le_trans hB0 hg1.size) hbW1.size
  clear hok ho hc1 hg1 hN hW1 hbW1 xt hgl hw1 hpt c0
  go_wp2_with fail
  rw [← HW1.out, ← HPT.out]
  refine (once_any B 3 W1 p a len cap (by omega) (by omega) hl hBW1 D1.out.cu).mono ?_
  rintro e w2 ⟨b, rfl, hc2, hg2⟩
  have D2 := Lib.hid (D1.out.kept hg2 hc2)
  have hB2 := Nat.le_trans hBW1 hg2.size
  clear hc2 hg2 D1
  cases b
  · have d0 := D2.out.bt.c0
    have d1 := D2.out.bt.c1
    have e0 := D2.out.br.c0
    have e1 := D2.out.br.c1
    have e2 := D2.out.br.f0
    have e3 := D2.out.br.f1
    go_wp2
    exact bodyPost_ret (v := .agg #[.int .i64 N, .slice (some ⟨g, 0, none⟩) N c]) (Box.res1 rfl _ rfl ((D2.out.br.set0 _).set1 _)) rfl D2.out.finish
  · have hp2 : Hid (p < w2.drew.heap.size) := Nat.lt_of_lt_of_le hpw'.out D2.out.gr.size
    have d0 := D2.out.bt.c0
    have d1 := D2.out.bt.c1
    have d2 := D2.out.bt.f0
    have d3 := D2.out.bt.f1
    go_wp2
    apply onceT (S := fun g W => Hid (∃ l, D5 B most w p pt a len cap W N l g N))
    case main =>
      intro REST
      go_region_with (first
        | (go_at_call 148; refine (l02Of_ok N _ w2.drew hN1 hN8 (by omega) (by omega)).mono ?_; rintro e w3 ⟨⟨g3, l3, hok3, hlen3, rfl, ho3⟩, hbq⟩; have hb3 : Below w2.heap.size w2 w3 := (Below.refl _ w2).drew.trans hbq; have D3 := Lib.hid (D2.out.kept (gr_below p hb3) (D2.out.cu.kept hB2 hb3)); have O3 := Lib.hid ho3; have K3 := Lib.hid hok3; have L3 := Lib.hid hlen3; have hB3 := Nat.le_trans hB2 hb3.size; have S3 := Lib.hid hb3.size; have d0 := D3.out.bt.c0; have d1 := D3.out.bt.c1; clear hok3 hlen3 ho3 hbq hb3)
        | (go_at_call 111; refine (order_any B N w3 p a len cap hN8 hl hB3 D3.out.cu).mono ?_; rintro e w4 ⟨L4, g4, c4, hn4, rfl, ho4, hc4, hg4⟩; have D4 := Lib.hid (D3.out.kept hg4 hc4); have O4 := Lib.hid ho4; have P3 := Lib.hid (own_gr O3.out hg4 hp2.out); have N4 := Lib.hid hn4; have hB4 := Nat.le_trans hB3 hg4.size; have S4 := Lib.hid hg4.size; have d0 := D4.out.bt.c0; have d1 := D4.out.bt.c1; clear hn4 ho4 hc4 hg4)
        | (go_at_call 147; go_loud (refine (rename_ok N _ l3 _ _ L4 _ w4 L3.out K3.out N4.out (IntRow.of_ownN P3.out L3.out) (IntRow.of_ownN O4.out N4.out.1)).mono ?_; rintro e w5 ⟨⟨g5, l5, hok5, hlen5, rfl, ho5⟩, hb5⟩; have D5' := Lib.hid (D4.out.kept (gr_below p hb5) (D4.out.cu.kept hB4 hb5)); have O5 := Lib.hid ho5; have K5 := Lib.hid hok5; have L5 := Lib.hid hlen5; have S5 := Lib.hid hb5.size; have d0 := D5'.out.bt.c0; have d1 := D5'.out.bt.c1; have d2 := D5'.out.bt.f0; have d3 := D5'.out.bt.f1; clear hok5 hlen5 ho5 hb5)))
      all_goals
        obtain ⟨W6, hW6⟩ : ∃ W6, W6 = (w5.setCell ⟨pt, 0, none⟩ (.int .i64 N)).setCell ⟨pt, 1, none⟩ (.slice (some ⟨g5, 0, none⟩) N N) := ⟨_, rfl⟩
        have D6 : Hid (∃ l, D5 B most w p pt a len cap W6 N l g5 N) := ⟨l5, by rw [hW6]; exact D4.out.putB D5'.out K5.out L5.out O5.out⟩
        rw [← hW6]
        exact REST g5 g3 g4 c4 W6 D6
    case rest =>
      intro g6 g3 g4 c4 W6 D6
      obtain ⟨l6, D6⟩ := D6.out
      have hB6 : B ≤ W6.heap.size := Nat.le_trans HB.out D6.gr.size
      have D6 := Lib.hid D6
      clear d0 d1 d2 d3 D2
      go_wp2_with fail
      refine (below_any B 3 W6 p a len cap (by omega) (by omega) hl hB6 D6.out.cu).mono ?_
      rintro e w7 ⟨x, hx, rfl, hc7, hb7, hu7⟩
      have D7 : Hid (∃ l g c, D5 B most w p pt a len cap w7 N l g c) := ⟨_, _, _, D6.out.kept (gr_low hb7 hu7) hc7⟩
      clear D6 hc7 hb7 hu7
      go_wp2
      go_loopw [6] (fun q wr => ∃ k : Nat, k ≤ 3 ∧ q = .int .i64 k ∧ Hid (∃ l g c, D5 B most w p pt a len cap wr N l g c)) (fun q _ => (intOf q).toNat)
      case atStart => exact ⟨x, by omega, rfl, D7⟩
      case round =>
        clear D7 hx
        obtain ⟨k, hk, rfl, Dr⟩ := hrel
        obtain ⟨l, g, c, Dr⟩ := Dr.out
        have Dr := Lib.hid Dr
        have d0 := Dr.out.bt.c0
        have d1 := Dr.out.bt.c1
        by_cases hgo : 0 < k ∧ 1 < N
        · obtain ⟨hk0, hN2⟩ := hgo
          have hk0' : (0 : Int) < (k : Int) := by omega
          have hN2' : (1 : Int) < (N : Int) := by omega
          have hBr : B ≤ wr.heap.size := Nat.le_trans HB.out Dr.out.gr.size
          go_wp2_with fail
          refine (below_any B N wr p a len cap hN1 (by omega) hl hBr Dr.out.cu).mono ?_
          rintro e w8 ⟨i, hi, rfl, hc8, hb8, hu8⟩
          have D8 := Lib.hid (Dr.out.kept (gr_low hb8 hu8) hc8)
          have hB8 := Nat.le_trans hBr hb8.size
          clear d0 d1 Dr hc8 hb8 hu8
          have d0 := D8.out.bt.c0
          have d1 := D8.out.bt.c1
          have d2 := D8.out.bt.f0
          have d3 := D8.out.bt.f1
          have hi1 : IntKind.i64.wrap ((i : Int) + 1) = (i : Int) + 1 := IntWalk.i64_in _ (by omega)
          have hn1 : IntKind.i64.wrap ((N : Int) - 1) = ((N - 1 : Nat) : Int) := by rw [IntWalk.i64_in _ (by omega)]; omega
          have hp8 : Hid (p < w8.drew.heap.size) := Nat.lt_of_lt_of_le hpw'.out D8.out.gr.size
          go_wp2
          go_region_with (first
            | (go_at_call 149; refine (below_any B (N - 1) w8.drew p a len cap (by omega) (by omega) hl hB8 (show Cur B w8.drew p a len cap from D8.out.cu)).mono ?_; rintro e w9 ⟨x, hx, rfl, hc9, hb9, hu9⟩; have D9 := Lib.hid (D8.out.kept ((gr_below p (Below.refl _ w8).drew).trans (gr_low hb9 hu9)) hc9); have hB9 := Nat.le_trans hB8 hb9.size; have d0 := D9.out.bt.c0; have d1 := D9.out.bt.c1; have d2 := D9.out.bt.f0; have d3 := D9.out.bt.f1; have R9 := Lib.hid (rot_ne hi hx); clear hc9 hb9 hu9)
            | (go_at_call 150; refine (flip_ok N _ _ c i _ w9 D9.out.len' D9.out.ok D9.out.row hi R9.out.1 R9.out.2.1 R9.out.2.2).mono ?_; rintro e w10 ⟨⟨g10, c10, l10, hok10, hlen10, rfl, ho10⟩, hb10⟩; have D10 := Lib.hid (D9.out.kept (gr_below p hb10) (D9.out.cu.kept hB9 hb10)); have O10 := Lib.hid ho10; have K10 := Lib.hid hok10; have L10 := Lib.hid hlen10; have d0 := D10.out.bt.c0; have d1 := D10.out.bt.c1; have d2 := D10.out.bt.f0; have d3 := D10.out.bt.f1; clear hok10 hlen10 ho10 hb10))
          all_goals
            obtain ⟨W11, hW11⟩ : ∃ W11, W11 = (w10.setCell ⟨pt, 0, none⟩ (.int .i64 N)).setCell ⟨pt, 1, none⟩ (.slice (some ⟨g10, 0, none⟩) N c10) := ⟨_, rfl⟩
            have D11 : Hid (∃ l g c, D5 B most w p pt a len cap W11 N l g c) := ⟨l10, g10, c10, by rw [hW11]; exact D9.out.putB D10.out K10.out L10.out O10.out⟩
            rw [← hW11]
            clear hW11 d0 d1 d2 d3 hi1 hn1
            go_wp2
            go_roundw
            case rel => exact ⟨k - 1, by omega, by go_num, D11⟩
            case measure => simp [intOf]; omega
        · have hcase : ¬ (0 : Int) < (k : Int) ∨ ((0 : Int) < (k : Int) ∧ ¬ (1 : Int) < (N : Int)) := by omega
          have e0 := Dr.out.br.c0
          have e1 := Dr.out.br.c1
          have e2 := Dr.out.br.f0
          have e3 := Dr.out.br.f1
          clear hgo
          rcases hcase with hq | ⟨hq, hq2⟩
          all_goals
            go_wp2
            exact bodyPost_ret (v := .agg #[.int .i64 N, .slice (some ⟨g, 0, none⟩) N c]) (Box.res1 rfl _ rfl ((Dr.out.br.set0 _).set1 _)) rfl Dr.out.finish
end Go.Proofs.Ytpndfmlkceplcaa
namespace Go.Proofs.Ytpndfmlkceplcaa
open Go.ChangeShapes Go.WideShapes Go.ChangeAt Go.RowKit
set_option linter.unusedVariables false

theorem Row.mono {B B' : Nat} {w : World} {a : Option Addr} {len : Nat} (h : Row B w a len) (hB : B ≤ B') : Row B' w a len := by
  rcases h with h | ⟨b, off, ha, hlt, hc⟩
  · exact .inl h
  · exact .inr ⟨b, off, ha, by omega, hc⟩
/-- A tour that 'MakeTour' answers. -/
def MadeT (most : Nat) (w : World) (e : Ending) (w' : World) : Prop :=
  ∃ (l : List Int) (g c : Nat), OkL l ∧ l.length ≤ most ∧ e = .returned (.agg #[.int .i64 (l.length : Int), .slice (some ⟨g, 0, none⟩) l.length c]) ∧ w'.ownsRow w.heap.size 3 1 (.slice (some ⟨g, 0, none⟩) l.length c) l.length (l.map iv) ∧ Below w.heap.size w w'

set_option maxHeartbeats 2000000 in
theorem makeTour_any (B n most : Nat) (w : World) (a : Option Addr) (len cap : Nat) (hn : n ≤ 1000) (h1 : 1 ≤ most) (h8 : most ≤ 8) (hl : len ≤ 1048576) (hB : B ≤ w.heap.size) (h : Row B w a len) :
    Calls Try.prog 29 #[.slice a len cap, .int .i64 n, .int .i64 most] w (MadeT most w) := by
  obtain ⟨W0, hW0⟩ : ∃ W0, W0 = w.alloc (.cells #[.int .i64 0, .slice none 0 0] 27) := ⟨_, rfl⟩
  have hb0 : Below w.heap.size w W0 := by rw [hW0]; exact Below.one _ _
  have x0 : Box W0 w.heap.size 27 (.int .i64 0) (.slice none 0 0) := by rw [hW0]; exact Box.new _ _ _ _
  have hr0 : Row W0.heap.size W0 a len := ((h.below (hb0.mono hB)).mono (Nat.le_trans hB hb0.size))
  have X0 := Lib.hid x0
  have HW0 := Lib.hid hW0
  have HB0 := Lib.hid hb0
  have hmin : min (most : Int) 8 = (most : Int) := by omega
  have hmax : max 1 (most : Int) = (most : Int) := by omega
  clear hW0 hb0 x0 h
  go_enter Try.func29, Try.ntmps29
  go_wp2_with fail
  rw [← HW0.out]
  refine (newSkip_any W0.heap.size W0 a len cap n hn hl (Nat.le_refl _) hr0).mono ?_
  rintro e w1 ⟨p, rfl, hc1, hb1⟩
  have X1 := Lib.hid (X0.out.below hb1 X0.out.lt)
  have HB1 := Lib.hid (HB0.out.trans (hb1.mono HB0.out.size))
  have hs1 := Lib.hid hb1.size
  have hp0 := Lib.hid hc1.base
  clear hr0 hb1
  go_wp2_with fail
  refine (l05Draw_any W0.heap.size most w1 p a len cap h1 h8 hl hs1.out hc1).mono ?_
  rintro e w2 ⟨l, g, c, hok, hle, rfl, ho, hc2, hg2⟩
  have x2 := X1.out.grown hg2 (fun e => by injection e with e; have := X0.out.lt; have := hp0.out; omega)
  have B2 := Lib.hid (HB1.out.trans ((below_gr hg2 hs1.out hp0.out).mono HB0.out.size))
  have hgl := ho.lt g rfl
  have hgr : Hid (g ≠ w.heap.size) := (show g ≠ _ by have := X1.out.lt; omega)
  have O2 := Lib.hid (ho.mono HB1.out.size)
  have K2 := Lib.hid hok
  have L2 := Lib.hid hle
  have e0 := x2.c0
  have e1 := x2.c1
  have e2 := x2.f0
  have e3 := x2.f1
  have X2 := Lib.hid x2
  clear x2 ho hc1 hc2 hg2 hok hle hgl
  go_wp2
  refine bodyPost_ret (v := .agg #[.int .i64 (l.length : Int), .slice (some ⟨g, 0, none⟩) l.length c]) (Box.res1 rfl _ rfl ((X2.out.set0 _).set1 _)) rfl ?_
  refine ⟨l, g, c, K2.out, L2.out, rfl, ?_, ?_⟩
  · exact own_other (own_other O2.out ⟨w.heap.size, 0, none⟩ _ hgr.out) ⟨w.heap.size, 1, none⟩ _ hgr.out
  · exact (B2.out.setCell (p := ⟨w.heap.size, 0, none⟩) (Nat.le_refl _) _).setCell (p := ⟨w.heap.size, 1, none⟩) (Nat.le_refl _) _

/-- An order that 'MakeOrder' answers. -/
def MadeO (n : Nat) (w : World) (e : Ending) (w' : World) : Prop :=
  ∃ (L : List Int) (g c : Nat), Names n L ∧ e = .returned (.slice (some ⟨g, 0, none⟩) n c) ∧ w'.ownsRow w.heap.size 3 1 (.slice (some ⟨g, 0, none⟩) n c) n (L.map iv) ∧ Below w.heap.size w w'
set_option maxHeartbeats 2000000 in
theorem makeOrder_any (B n size : Nat) (w : World) (a : Option Addr) (len cap : Nat) (hn : n ≤ 1000) (h1 : 1 ≤ size) (h8 : size ≤ 8) (hl : len ≤ 1048576) (hB : B ≤ w.heap.size) (h : Row B w a len) :
    Calls Try.prog 45 #[.slice a len cap, .int .i64 n, .int .i64 size] w (MadeO size w) := by
  have hr0 : Row w.heap.size w a len := h.mono hB
  have hmin : min (size : Int) 8 = (size : Int) := by omega
  have hmax : max 1 (size : Int) = (size : Int) := by omega
  clear h
  go_enter Try.func45, Try.ntmps45
  go_wp2_with fail
  refine (newSkip_any w.heap.size w a len cap n hn hl (Nat.le_refl _) hr0).mono ?_
  rintro e w1 ⟨p, rfl, hc1, hb1⟩
  have HB1 := Lib.hid hb1
  have hp0 := Lib.hid hc1.base
  clear hr0 hb1
  go_wp2_with fail
  refine (order_any w.heap.size size w1 p a len cap h8 hl HB1.out.size hc1).mono ?_
  rintro e w2 ⟨L, g, c, hnm, rfl, ho, hc2, hg2⟩
  have P : Hid (MadeO size w (.returned (.slice (some ⟨g, 0, none⟩) size c)) w2) := ⟨L, g, c, hnm, rfl, ho.mono HB1.out.size, HB1.out.trans (below_gr hg2 HB1.out.size hp0.out)⟩
  clear hnm ho hc1 hc2 hg2
  go_wp2
  go_ret
  exact P.out

/-- The sum of the first k numbers. -/
def sumTo (ys : List Nat) (k : Nat) : Nat := sumN (fun i => ys.getD i 0) k
theorem sumTo_succ (ys : List Nat) (k : Nat) : sumTo ys (k + 1) = sumTo ys k + ys.getD k 0 := rfl
theorem sumTo_le (ys : List Nat) (h : ∀ i, ys.getD i 0 ≤ 100) : ∀ k, sumTo ys k ≤ 100 * k
  | 0 => Nat.le_refl _
  | k + 1 => by have := sumTo_le ys h k; have := h k; rw [sumTo_succ]; omega
set_option maxHeartbeats 400000 in
theorem lawSum_any (a : Option Addr) (m cap : Nat) (ys : List Nat) (w : World) (hm : m ≤ 100) (hlen : (ys.map Int.ofNat).length = m) (hy : ∀ i, ys.getD i 0 ≤ 100) (hrow : IntRow w a (ys.map Int.ofNat)) :
    Calls Try.prog 35 #[.slice a m cap] w fun e w' => e = .returned (.int .i64 (sumTo ys m : Nat)) ∧ w = w' := by
  have HL := Lib.hid hlen
  have HR := Lib.hid hrow
  have HY := Lib.hid hy
  clear hlen hrow hy
  go_enter Try.func35, Try.ntmps35
  go_wp2
  go_loop [3, 8] (fun n i => ∃ k : Nat, k ≤ m ∧ i = .int .i64 k ∧ n = .int .i64 (sumTo ys k : Nat)) (fun _ i => m - (intOf i).toNat)
  case atStart => exact ⟨0, Nat.zero_le _, rfl, rfl⟩
  case round =>
    obtain ⟨k, hk, rfl, rfl⟩ := hrel
    have hs := sumTo_le ys HY.out k
    by_cases hlt : k < m
    · obtain ⟨b, off, rfl, hbb, hc⟩ := HR.out.at (k := k) (by rw [HL.out]; exact hlt)
      rw [getD_map_ofNat] at hc
      have hx := HY.out k
      have hn : Hid (sumTo ys (k + 1) = sumTo ys k + ys.getD k 0) := sumTo_succ ys k
      obtain ⟨x, hxx⟩ : ∃ x, x = ys.getD k 0 := ⟨_, rfl⟩
      obtain ⟨q, hqq⟩ : ∃ q, q = sumTo ys k := ⟨_, rfl⟩
      have hn2 : Hid (sumTo ys (k + 1) = q + x) := by rw [hxx, hqq]; exact hn
      rw [← hxx] at hc hx
      rw [← hqq] at hs ⊢
      have hib : (k : Int) < (m : Int) := by omega
      clear hn hxx hqq
      go_wp2
      go_round
      case rel => exact ⟨k + 1, by omega, by go_num, by rw [hn2.out]; go_num⟩
      case measure => simp [intOf]; omega
    · obtain rfl : k = m := by omega
      go_wp2
      go_ret
      exact ⟨rfl, rfl⟩
end Go.Proofs.Ytpndfmlkceplcaa
namespace Go.Proofs.Ytpndfmlkceplcaa
open Go.ChangeShapes Go.WideShapes Go.ChangeAt Go.RowKit
set_option linter.unusedVariables false

/-- A valid tour of m players. -/
def Vt (m : Nat) (l : List Int) : Prop := OkL l ∧ l.length = m
theorem Vt.le {m : Nat} {l : List Int} (h : Vt m l) : 1 ≤ m ∧ m ≤ 8 := by have := h.1.le; have := h.2; omega
theorem Vt.max {m : Nat} {l : List Int} (h : Vt m l) : l.length ≤ maxLen := by have := h.le; have := h.2; unfold maxLen; omega
noncomputable def turnL (l : List Int) : List Int := turnR (l.length : Int) l
noncomputable def renL (l ns : List Int) : List Int := renR (l.length : Int) l ns
noncomputable def flipM (l : List Int) (i j : Nat) : List Int := flipR (l.length : Int) l i j
def scL (l : List Int) : List Int := (scoresL l).map Int.ofNat
section
variable {m : Nat} {l l' ns : List Int}
theorem Vt.turn (h : Vt m l) : Vt m (turnL l) := ⟨(turned h.1).1, (turned h.1).2.1.trans h.2⟩
theorem Vt.turn2 (h : Vt m l) : turnL (turnL l) = l := turned2 h.1
theorem Vt.bturn (h : Vt m l) {i j : Nat} (hi : i < m) (hj : j < m) : bt (turnL l) i j = bt l j i := (turned h.1).2.2.2 i j (by rw [h.2]; exact hi) (by rw [h.2]; exact hj)
theorem Vt.ren (h : Vt m l) (hn : Names m ns) : Vt m (renL l ns) := ⟨(renamed h.1 (by rw [h.2]; exact hn.perm)).1, (renamed h.1 (by rw [h.2]; exact hn.perm)).2.1.trans h.2⟩
theorem Vt.bren (h : Vt m l) (hn : Names m ns) {i j : Nat} (hi : i < m) (hj : j < m) : bt (renL l ns) (nm ns i) (nm ns j) = bt l i j := (renamed h.1 (by rw [h.2]; exact hn.perm)).2.2.2 i j (by rw [h.2]; exact hi) (by rw [h.2]; exact hj)
theorem Vt.sren (h : Vt m l) (hn : Names m ns) {i : Nat} (hi : i < m) : sc (renL l ns) (nm ns i) = sc l i := sc_renamed h.1 (by rw [h.2]; exact hn.perm) (by rw [h.2]; exact hi)
theorem Vt.sturn (h : Vt m l) {i : Nat} (hi : i < m) : sc (turnL l) i + sc l i + 1 = m := (sc_turned h.1 (by rw [h.2]; exact hi)).trans h.2
theorem Vt.flip (h : Vt m l) {i j : Nat} (hi : i < m) (hj : j < m) (hne : i ≠ j) : Vt m (flipM l i j) := ⟨(flipped h.1 (by rw [h.2]; exact hi) (by rw [h.2]; exact hj) hne).1, (flipped h.1 (by rw [h.2]; exact hi) (by rw [h.2]; exact hj) hne).2.1.trans h.2⟩
theorem Vt.flip2 (h : Vt m l) {i j : Nat} (hi : i < m) (hj : j < m) (hne : i ≠ j) : flipM (flipM l i j) j i = l := flipped2 h.1 (by rw [h.2]; exact hi) (by rw [h.2]; exact hj) hne
theorem Vt.bflip (h : Vt m l) {i j : Nat} (hi : i < m) (hj : j < m) (hne : i ≠ j) : bt (flipM l i j) i j = !bt l i j := by
  have := (flipped h.1 (p := i) (q := j) (by rw [h.2]; exact hi) (by rw [h.2]; exact hj) hne).2.2.2 i j (by rw [h.2]; exact hi) (by rw [h.2]; exact hj)
  refine this.trans ?_
  unfold isG
  cases bt l i j <;> simp
theorem Vt.sc_le (h : Vt m l) {i : Nat} (hi : i < m) : sc l i < m := by have := sc_lt h.1 (show i < l.length by rw [h.2]; exact hi); rw [h.2] at this; exact this
theorem Vt.other (h : Vt m l) {i j : Nat} (hi : i < m) (hj : j < m) (hne : i ≠ j) : bt l i j = !bt l j i := Ok.other h.1 (by rw [h.2]; exact hi) (by rw [h.2]; exact hj) hne
theorem Vt.self (h : Vt m l) {i : Nat} (hi : i < m) : bt l i i = false := Ok.self h.1 (by rw [h.2]; exact hi)
theorem scL_len (h : Vt m l) : (scL l).length = m := by unfold scL; rw [List.length_map, scoresL_len, h.2]
theorem scL_at (h : Vt m l) {i : Nat} (hi : i < m) : (scL l).getD i 0 = (sc l i : Int) := by
  unfold scL
  rw [getD_map_ofNat]
  congr 1
  have hi' : i < l.length := by rw [h.2]; exact hi
  obtain ⟨x, hx, _, hx8⟩ := h.1.nat hi'
  rw [List.getD_eq_getElem?_getD, scoresL_at l i x hi' hx, Option.getD_some, ← pc_sc h.1 hi', hx]
  rfl
end

theorem turn_ok (m : Nat) (a : Option Addr) (l : List Int) (cap : Nat) (w : World) (h : Vt m l) (hrow : IntRow w a l) :
    Calls Try.prog 100 #[.agg #[.int .i64 m, .slice a m cap]] w fun e w' => (∃ a0 c0, e = .returned (.tuple #[.agg #[.int .i64 m, .slice a0 m c0], .bool true]) ∧ IntRow w' a0 (turnL l)) ∧ Below w.heap.size w w' := by
  obtain ⟨hok, rfl⟩ := h
  refine (implTurn_ok (l.length : Int) a l cap w hrow (Vt.max ⟨hok, rfl⟩) (okB_L hok)).mono ?_
  rintro e w' ⟨⟨a0, c0, rfl, ho⟩, hb⟩
  obtain ⟨_, h2, h3, _⟩ := turned hok
  refine ⟨⟨a0, c0, ?_, own_int ho⟩, hb⟩
  rw [h3, h2]
theorem ren_ok (m : Nat) (a : Option Addr) (l : List Int) (cap : Nat) (an : Option Addr) (ns : List Int) (cn : Nat) (w : World) (h : Vt m l) (hn : Names m ns) (hrow : IntRow w a l) (hrn : IntRow w an ns) :
    Calls Try.prog 55 #[.agg #[.int .i64 m, .slice a m cap], .slice an m cn] w fun e w' => (∃ a0 c0, e = .returned (.tuple #[.agg #[.int .i64 m, .slice a0 m c0], .bool true]) ∧ IntRow w' a0 (renL l ns)) ∧ Below w.heap.size w w' := by
  obtain ⟨hok, rfl⟩ := h
  have hp := hn.perm
  have hc := implRename (l.length : Int) a l cap an ns cn w hrow (Vt.max ⟨hok, rfl⟩) hrn (by rw [hn.1]; exact Vt.max ⟨hok, rfl⟩)
  rw [hn.1] at hc
  refine hc.mono ?_
  rintro e w' ⟨⟨a0, c0, rfl, ho⟩, hb⟩
  obtain ⟨_, h2, h3, _⟩ := renamed hok hp
  refine ⟨⟨a0, c0, ?_, own_int ho⟩, hb⟩
  rw [h3, h2, renB_L hok hp]
theorem flipM_ok (m : Nat) (a : Option Addr) (l : List Int) (cap i j : Nat) (w : World) (h : Vt m l) (hi : i < m) (hj : j < m) (hne : i ≠ j) (hrow : IntRow w a l) :
    Calls Try.prog 68 #[.agg #[.int .i64 m, .slice a m cap], .int .i64 i, .int .i64 j] w fun e w' => (∃ a0 c0, e = .returned (.tuple #[.agg #[.int .i64 m, .slice a0 m c0], .bool true]) ∧ IntRow w' a0 (flipM l i j)) ∧ Below w.heap.size w w' := by
  obtain ⟨hok, rfl⟩ := h
  refine (implFlip (l.length : Int) a l cap i j w hrow (Vt.max ⟨hok, rfl⟩)).mono ?_
  rintro e w' ⟨⟨a0, c0, rfl, ho⟩, hb⟩
  obtain ⟨_, h2, h3, _⟩ := flipped hok hi hj hne
  refine ⟨⟨a0, c0, ?_, own_int ho⟩, hb⟩
  rw [h3, h2, flipB_L hok hi hj hne]
theorem scores_ok (m : Nat) (a : Option Addr) (l : List Int) (cap : Nat) (w : World) (h : Vt m l) (hrow : IntRow w a l) :
    Calls Try.prog 32 #[.agg #[.int .i64 m, .slice a m cap]] w fun e w' => (∃ a0 c0, e = .returned (.slice a0 m c0) ∧ IntRow w' a0 (scL l)) ∧ Below w.heap.size w w' := by
  have hlen := scL_len h
  obtain ⟨hok, rfl⟩ := h
  refine (implScoresOf (l.length : Int) a l cap w hrow (Vt.max ⟨hok, rfl⟩)).mono ?_
  rintro e w' ⟨⟨v, rfl, ho⟩, hb⟩
  have hr : resS (l.length : Int) l = scoresL l := by unfold resS; rw [if_pos (okB_L hok)]
  rw [hr, nv_iv, ← List.length_map (f := Int.ofNat)] at ho
  change w'.ownsRow w.heap.size 3 1 v (scL l).length ((scL l).map iv) at ho
  obtain ⟨a0, c0, rfl, hrd, _⟩ := own_read ho
  rw [hlen]
  exact ⟨⟨a0, c0, rfl, hrd⟩, hb⟩
theorem count_turn (m : Nat) (a b : Option Addr) (l : List Int) (ca cb : Nat) (w : World) (h : Vt m l) (ha : IntRow w a l) (hb : IntRow w b (turnL l)) {K : Nat} (hK : 2 * K = m * (m - 1)) :
    Calls Try.prog 53 #[.agg #[.int .i64 m, .slice a m ca], .agg #[.int .i64 m, .slice b m cb]] w fun e w' => e = .returned (.int .i64 K) ∧ Below w.heap.size w w' := by
  have hu := h.turn
  obtain ⟨hok, rfl⟩ := h
  have hc := implCount (l.length : Int) a l ca ((turnL l).length : Int) b (turnL l) cb w ha hb (Vt.max ⟨hok, rfl⟩) (Vt.max hu)
  rw [hu.2] at hc
  refine hc.mono ?_
  rintro e w' ⟨rfl, hb⟩
  obtain ⟨K', hK', e⟩ := cd_turned hok
  have : K = K' := by omega
  have e2 : cdR (l.length : Int) l (l.length : Int) (turnL l) = (K' : Int) := by rw [← e]; congr 1; exact congrArg Int.ofNat hu.2.symm
  rw [e2, this]
  exact ⟨rfl, hb⟩
theorem count_flip (m : Nat) (a b : Option Addr) (l : List Int) (ca cb i j : Nat) (w : World) (h : Vt m l) (hi : i < m) (hj : j < m) (hne : i ≠ j) (ha : IntRow w a (flipM l i j)) (hb : IntRow w b l) :
    Calls Try.prog 53 #[.agg #[.int .i64 m, .slice a m ca], .agg #[.int .i64 m, .slice b m cb]] w fun e w' => e = .returned (.int .i64 1) ∧ Below w.heap.size w w' := by
  have hu := h.flip hi hj hne
  obtain ⟨hok, rfl⟩ := h
  have hc := implCount ((flipM l i j).length : Int) a (flipM l i j) ca (l.length : Int) b l cb w ha hb (Vt.max hu) (Vt.max ⟨hok, rfl⟩)
  rw [hu.2] at hc
  refine hc.mono ?_
  rintro e w' ⟨rfl, hb⟩
  have e2 : cdR (l.length : Int) (flipM l i j) (l.length : Int) l = 1 := by rw [← cd_flipped hok hi hj hne]; congr 1; exact congrArg Int.ofNat hu.2.symm
  rw [e2]
  exact ⟨rfl, hb⟩
theorem beat_ok (m : Nat) (a : Option Addr) (l : List Int) (cap i j : Nat) (w : World) (h : Vt m l) (hi : i < m) (hj : j < m) (hrow : IntRow w a l) :
    Calls Try.prog 37 #[.agg #[.int .i64 m, .slice a m cap], .int .i64 i, .int .i64 j] w fun e w' => e = .returned (.bool (bt l i j)) ∧ Below w.heap.size w w' := by
  obtain ⟨hok, rfl⟩ := h
  refine (implDoesBeat (l.length : Int) a l cap i j w hrow (Vt.max ⟨hok, rfl⟩)).mono ?_
  rintro e w' ⟨rfl, hb⟩
  have e1 : pl (l.length : Int) (i : Int) = true := pl_iff.2 (by omega)
  have e2 : pl (l.length : Int) (j : Int) = true := pl_iff.2 (by omega)
  have e3 : dbB (l.length : Int) l (i : Int) (j : Int) = bt l i j := by
    unfold dbB
    rw [okB_L hok, e1, e2, Int.toNat_natCast, Int.toNat_natCast]; rfl
  rw [e3]
  exact ⟨rfl, hb⟩
/-- A tour's text. -/
noncomputable def txt (l : List Int) : ByteArray := ⟨(fmtR (l.length : Int) l).toArray⟩
theorem txt_size {m : Nat} {l : List Int} (h : Vt m l) {K : Nat} (hK : 2 * K = m * (m - 1)) : (txt l).size = 2 + K := by
  obtain ⟨hok, rfl⟩ := h
  obtain ⟨K', hK', e⟩ := fmtR_len hok
  have : K = K' := by omega
  show (fmtR (l.length : Int) l).toArray.size = _
  rw [List.size_toArray, e, this]
end Go.Proofs.Ytpndfmlkceplcaa
