/-
  Contracts for the draws by which the laws make their inputs out of a list of bytes: a cursor, bytes, numbers and texts. Only what they answer in kind is said: a byte is from 0 to 255, and so on. They serve 'FnWords'.
-/
import Derived.Test.YtgjogbihadiojaaB
import Derived.ChangeSlices
import Derived.Deep.DeepCutAuto
namespace Go.Proofs.Ytgjogbihadiojaa
open Go.ChangeShapes Go.WideShapes Go.ChangeAt Go.RowKit
set_option linter.unusedVariables false

theorem keep_row {w w' : World} {b : Nat} {o : Obj} (h : w.heap[b]? = some o) (hb : Below w.heap.size w w') : w'.heap[b]? = some o := by
  rcases Nat.lt_or_ge b w.heap.size with h' | h'
  · rw [hb.block b h']; exact h
  · simp [Array.getElem?_eq_none h'] at h
/-- A list of bytes that can be read, below block number B; a cursor over it, in a block p of the call's own. -/
def Row (B : Nat) (w : World) (a : Option Addr) (len : Nat) : Prop :=
  len = 0 ∨ ∃ b off, a = some ⟨b, off, none⟩ ∧ b < B ∧ ∀ j, j < len → ∃ n : Nat, n ≤ 255 ∧ w.cell? ⟨b, off + j, none⟩ = some (.int .u8 n)
theorem Row.below {B : Nat} {w w' : World} {a : Option Addr} {len : Nat} (h : Row B w a len) (hb : Below B w w') : Row B w' a len := by
  rcases h with h | ⟨b, off, ha, hlt, hc⟩
  · exact .inl h
  · refine .inr ⟨b, off, ha, hlt, fun j hj => ?_⟩
    obtain ⟨n, hn, h1⟩ := hc j hj
    exact ⟨n, hn, (hb.cell (p := ⟨b, off + j, none⟩) hlt).trans h1⟩
def Cur (B : Nat) (w : World) (p : Nat) (a : Option Addr) (len cap : Nat) : Prop :=
  B ≤ p ∧ Row B w a len ∧
  ∃ (i : Nat) (h : Int), i ≤ len ∧ w.heap[p]? = some (.cells #[.slice a len cap, .int .i64 i, .int .i64 h] 98 (0, 0))

theorem and255 (n : Int) : bits .and .i64 n 255 = n % 256 := by
  have h255 : (BitVec.ofInt 64 255).toNat = 2 ^ 8 - 1 := by decide
  have key : (BitVec.ofInt 64 n &&& BitVec.ofInt 64 255).toNat = (n % ((2 ^ 64 : Nat) : Int)).toNat % 2 ^ 8 := by
    rw [BitVec.toNat_and, BitVec.toNat_ofInt, h255, Nat.and_two_pow_sub_one_eq_mod]
  show IntKind.i64.wrap ((BitVec.ofInt 64 n &&& BitVec.ofInt 64 255).toNat : Nat) = n % 256
  rw [key, IntKind.wrap_i64]
  omega

/-- Every block but p is as it was. -/
def ButK (p : Nat) (w w' : World) : Prop := ∀ k, k ≠ p → w'.heap[k]? = w.heap[k]?
theorem ButK.trans {p : Nat} {a b c : World} (h : ButK p a b) (h' : ButK p b c) : ButK p a c := fun k hk => (h' k hk).trans (h k hk)
theorem ButK.set {p o : Nat} {w : World} {v : Value} : ButK p w (w.setCell ⟨p, o, none⟩ v) := fun k hk => heap_setCell_other _ _ _ _ hk
theorem ButK.cell {p : Nat} {w w' : World} (h : ButK p w w') {a : Addr} (ha : a.block ≠ p) : w'.cell? a = w.cell? a := World.cell?_of_block (h a.block ha)

def BytePost (B : Nat) (w : World) (p : Nat) (a : Option Addr) (len cap : Nat) (e : Ending) (w' : World) : Prop :=
  ∃ x : Nat, x ≤ 255 ∧ e = .returned (.int .i64 x) ∧ Cur B w' p a len cap ∧ Below B w w' ∧ ButK p w w'

set_option maxHeartbeats 2000000 in
theorem byte_any (B : Nat) (w : World) (p : Nat) (a : Option Addr) (len cap : Nat) (hl : len ≤ 1048576) (hB : B ≤ w.heap.size) (h : Cur B w p a len cap) :
    Calls Try.prog 81 #[.pointer (some ⟨p, 0, none⟩)] w (BytePost B w p a len cap) := by
  obtain ⟨hBp, hrow, i, h, hi, hp⟩ := h
  have c0 : w.cell? ⟨p, 0, none⟩ = some (.slice a len cap) := by rw [cell_of_row _ _ _ _ _ _ hp]; rfl
  have c1 : w.cell? ⟨p, 1, none⟩ = some (.int .i64 i) := by rw [cell_of_row _ _ _ _ _ _ hp]; rfl
  have c2 : w.cell? ⟨p, 2, none⟩ = some (.int .i64 h) := by rw [cell_of_row _ _ _ _ _ _ hp]; rfl
  have f1 : w.frozen? ⟨p, 1, none⟩ = false := frozen_of_row _ _ _ _ _ hp
  have f2 : w.frozen? ⟨p, 2, none⟩ = false := frozen_of_row _ _ _ _ _ hp
  go_enter Try.func81, Try.ntmps81
  go_wp2
  obtain ⟨h', hh⟩ : ∃ h' : Int, h' = wrap64 (wrap64 (h * 6364136223846793005) + 1442695040888963407) := ⟨_, rfl⟩
  rw [← hh]
  have hb1 : Below B w (w.setCell ⟨p, 2, none⟩ (.int .i64 h')) := (Below.refl B w).setCell (p := ⟨p, 2, none⟩) hBp _
  have hp1 : (w.setCell ⟨p, 2, none⟩ (.int .i64 h')).heap[p]? = some (.cells #[.slice a len cap, .int .i64 i, .int .i64 h'] 98 (0, 0)) := by
    rw [heap_setCell_same _ _ _ _ _ _ hp]; rfl
  obtain ⟨W1, hW1⟩ : ∃ W1, W1 = w.setCell ⟨p, 2, none⟩ (.int .i64 h') := ⟨_, rfl⟩
  have hu1 : ButK p w (w.setCell ⟨p, 2, none⟩ (.int .i64 h')) := ButK.set
  rw [← hW1] at hb1 hp1 hu1 ⊢
  clear hW1 hh c0 c1 c2 f1 f2
  have c0 : W1.cell? ⟨p, 0, none⟩ = some (.slice a len cap) := by rw [cell_of_row _ _ _ _ _ _ hp1]; rfl
  have c1 : W1.cell? ⟨p, 1, none⟩ = some (.int .i64 i) := by rw [cell_of_row _ _ _ _ _ _ hp1]; rfl
  have c2 : W1.cell? ⟨p, 2, none⟩ = some (.int .i64 h') := by rw [cell_of_row _ _ _ _ _ _ hp1]; rfl
  have f1 : W1.frozen? ⟨p, 1, none⟩ = false := frozen_of_row _ _ _ _ _ hp1
  have H1 := Lib.hid hp1
  clear hp hp1
  have hand : ∀ n : Int, bits .and .i64 n 255 = n % 256 := and255
  go_quiet (fail)
  obtain ⟨x, hx⟩ : ∃ x : Nat, (x : Int) = bits .xor .i64 (h' / 8589934592) (h' / 35184372088832) % 256 := ⟨(bits .xor .i64 (h' / 8589934592) (h' / 35184372088832) % 256).toNat, by omega⟩
  have hx9 : x ≤ 255 := by omega
  rw [← hx]
  clear hx
  by_cases hlt : i < len
  · rcases hrow with he | ⟨b, off, rfl, hbB, hc⟩
    · omega
    · obtain ⟨n, hn, hcn⟩ := hc i hlt
      have hcx : W1.cell? ⟨b, off + i, none⟩ = some (.int .u8 n) := (hb1.cell (p := ⟨b, off + i, none⟩) hbB).trans hcn
      have hi0 : (0 : Int) ≤ (i : Int) ∧ (i : Int) < (len : Int) := by omega
      have HC := Lib.hid hc
      clear hc hcn
      go_wp2
      go_quiet (fail)
      go_wp2
      go_quiet (fail)
      go_wp2
      go_ret
      refine ⟨(x + n) % 256, by omega, by show Ending.returned (.int .i64 (((x : Int) + (n : Int)) % 256)) = _; congr 2, ?_, ?_, ?_⟩
      · refine ⟨hBp, .inr ⟨b, off, rfl, hbB, fun j hj => ?_⟩, i + 1, h', by omega, ?_⟩
        · obtain ⟨m, hm, hcm⟩ := HC.out j hj
          refine ⟨m, hm, Eq.trans ?_ ((hb1.cell (p := ⟨b, off + j, none⟩) hbB).trans hcm)⟩
          exact ((Below.refl B (W1.drewN _)).setCell (p := ⟨p, 1, none⟩) hBp _).cell (p := ⟨b, off + j, none⟩) hbB
        · rw [heap_setCell_same _ _ _ _ _ _ (show (W1.drewN _).heap[p]? = _ from H1.out)]; rfl
      · exact (below_drewN hb1 _).setCell (p := ⟨p, 1, none⟩) hBp _
      · exact hu1.trans ((show ButK p W1 (W1.drewN _) from fun _ _ => rfl).trans ButK.set)
  · have hrow1 : len = 0 ∨ ∃ b off, a = some ⟨b, off, none⟩ ∧ b < B ∧ ∀ j, j < len → ∃ n : Nat, n ≤ 255 ∧ W1.cell? ⟨b, off + j, none⟩ = some (.int .u8 n) := by
      rcases hrow with he | ⟨b, off, ha, hbB, hc⟩
      · exact .inl he
      · refine .inr ⟨b, off, ha, hbB, fun j hj => ?_⟩
        obtain ⟨m, hm, hcm⟩ := hc j hj
        exact ⟨m, hm, (hb1.cell (p := ⟨b, off + j, none⟩) hbB).trans hcm⟩
    have HR := Lib.hid hrow1
    clear hrow hrow1
    go_wp2
    go_quiet (fail)
    go_wp2
    go_ret
    refine ⟨x, hx9, rfl, ⟨hBp, HR.out, i, h', hi, H1.out⟩, ?_, hu1⟩
    exact below_drewN (below_drewN hb1 _) _

def NewPost (B : Nat) (w : World) (a : Option Addr) (len cap : Nat) (e : Ending) (w' : World) : Prop :=
  ∃ p, e = .returned (.pointer (some ⟨p, 0, none⟩)) ∧ Cur B w' p a len cap ∧ Below B w w'

theorem newPost (B : Nat) (w : World) (a : Option Addr) (len cap : Nat) (q : Int) (hB : B ≤ w.heap.size) (h : Row B w a len) :
    NewPost B w a len cap (.returned (.pointer (some ⟨w.heap.size, 0, none⟩))) (w.alloc (.cells #[.slice a len cap, .int .i64 0, .int .i64 q] 98)) := by
  have hb : Below B w (w.alloc (.cells #[.slice a len cap, .int .i64 0, .int .i64 q] 98)) := (Below.refl B w).alloc hB _
  exact ⟨w.heap.size, rfl, ⟨hB, h.below hb, 0, q, Nat.zero_le _, heap_alloc_new w _⟩, hb⟩

set_option maxHeartbeats 2000000 in
theorem new_any (B : Nat) (w : World) (a : Option Addr) (len cap : Nat) (hl : len ≤ 1048576) (hB : B ≤ w.heap.size) (h : Row B w a len) :
    Calls Try.prog 110 #[.slice a len cap] w (NewPost B w a len cap) := by
  go_enter Try.func110, Try.ntmps110
  go_wp2
  go_loopw [3, 4] (fun x i wr => ∃ (k : Nat) (q : Int), k ≤ len ∧ i = .int .i64 k ∧ x = .int .i64 q ∧ w = wr) (fun _ i _ => len - (intOf i).toNat)
  case atStart => exact ⟨0, _, Nat.zero_le _, rfl, rfl, rfl⟩
  case round =>
    obtain ⟨k, q, hk, rfl, rfl, rfl⟩ := hrel
    by_cases hlt : k < len
    · by_cases h4 : (k : Int) < 4000
      · rcases h with he | ⟨b, off, rfl, hbB, hc⟩
        · omega
        · obtain ⟨n, hn, hcn⟩ := hc k hlt
          have HC := Lib.hid hc
          clear hc
          go_wp2
          exact ⟨⟨k + 1, _, by omega, by go_num, rfl, trivial⟩, by simp [intOf]; omega⟩
      · have P := Lib.hid (newPost B w a len cap q hB h)
        clear h
        go_wp2
        go_ret
        exact P.out
    · have P := Lib.hid (newPost B w a len cap q hB h)
      clear h
      go_wp2
      go_ret
      exact P.out

set_option maxHeartbeats 2000000 in
theorem newSkip_any (B : Nat) (w : World) (a : Option Addr) (len cap n : Nat) (hn : n ≤ 1000) (hl : len ≤ 1048576) (hB : B ≤ w.heap.size) (h : Row B w a len) :
    Calls Try.prog 55 #[.slice a len cap, .int .i64 n] w (NewPost B w a len cap) := by
  go_enter Try.func55, Try.ntmps55
  go_wp2_with fail
  refine (new_any B w a len cap hl hB h).mono ?_
  rintro e w1 ⟨p, rfl, hcur, hb1⟩
  clear h
  go_wp2
  go_loopw [6] (fun i wr => ∃ k : Nat, k ≤ n ∧ i = .int .i64 k ∧ Cur B wr p a len cap ∧ Below B w wr) (fun i _ => n - (intOf i).toNat)
  case atStart => exact ⟨0, Nat.zero_le _, rfl, hcur, hb1⟩
  case round =>
    clear hcur hb1
    obtain ⟨k, hk, rfl, hcur, hb⟩ := hrel
    by_cases hlt : k < n
    · go_wp2_with fail
      refine (byte_any B wr p a len cap hl (Nat.le_trans hB hb.size) hcur).mono ?_
      rintro e w2 ⟨x, hx, rfl, hcur2, hb2, _⟩
      clear hcur
      have hb3 := hb.trans hb2
      go_wp2
      go_roundw
      case rel => exact ⟨k + 1, by omega, by go_num, hcur2, hb3⟩
      case measure => simp [intOf]; omega
    · have P : Hid (NewPost B w a len cap (.returned (.pointer (some ⟨p, 0, none⟩))) wr) := ⟨p, rfl, hcur, hb⟩
      clear hcur
      go_wp2
      go_ret
      exact P.out

def NumPost (B : Nat) (w : World) (e : Ending) (w' : World) : Prop := ∃ x : Nat, x ≤ 65535 ∧ e = .returned (.int .i64 x) ∧ Below B w w'

set_option maxHeartbeats 2000000 in
theorem makeNum_any (B : Nat) (w : World) (a : Option Addr) (len cap n : Nat) (hn : n ≤ 1000) (hl : len ≤ 1048576) (hB : B ≤ w.heap.size) (h : Row B w a len) :
    Calls Try.prog 39 #[.slice a len cap, .int .i64 n] w (NumPost B w) := by
  go_enter Try.func39, Try.ntmps39
  go_wp2_with fail
  refine (newSkip_any B w a len cap n hn hl hB h).mono ?_
  rintro e w1 ⟨p, rfl, hcur, hb1⟩
  clear h
  go_wp2_with fail
  refine (byte_any B w1 p a len cap hl (Nat.le_trans hB hb1.size) hcur).mono ?_
  rintro e w2 ⟨x, hx, rfl, hcur2, hb2, _⟩
  have hb3 := hb1.trans hb2
  clear hcur
  go_wp2_with fail
  refine (byte_any B w2 p a len cap hl (Nat.le_trans hB hb3.size) hcur2).mono ?_
  rintro e w3 ⟨y, hy, rfl, hcur3, hb4, _⟩
  have P : Hid (NumPost B w (.returned (.int .i64 ((x * 256 + y : Nat) : Int))) w3) := ⟨x * 256 + y, by omega, rfl, hb3.trans hb4⟩
  clear hcur2 hcur3
  go_wp2
  go_ret
  have := P.out
  rwa [show (((x * 256 + y : Nat)) : Int) = (x : Int) * 256 + (y : Int) by omega] at this

def LowPost (B n : Nat) (w : World) (p : Nat) (a : Option Addr) (len cap : Nat) (e : Ending) (w' : World) : Prop :=
  ∃ x : Nat, x < n ∧ e = .returned (.int .i64 x) ∧ Cur B w' p a len cap ∧ Below B w w' ∧ ButK p w w'

set_option maxHeartbeats 2000000 in
theorem below_any (B n : Nat) (w : World) (p : Nat) (a : Option Addr) (len cap : Nat) (hn : 1 ≤ n) (hn2 : n ≤ 256) (hl : len ≤ 1048576) (hB : B ≤ w.heap.size) (h : Cur B w p a len cap) :
    Calls Try.prog 108 #[.pointer (some ⟨p, 0, none⟩), .int .i64 n] w (LowPost B n w p a len cap) := by
  have h1 : ¬ (n : Int) ≤ 0 := by omega
  have h2 : (n : Int) ≤ 256 := by omega
  have h3 : ¬ (n : Int) = 0 := by omega
  go_enter Try.func108, Try.ntmps108
  go_wp2_with fail
  refine (byte_any B w p a len cap hl hB h).mono ?_
  rintro e w2 ⟨x, hx, rfl, hcur2, hb2, hu2⟩
  have P : Hid (LowPost B n w p a len cap (.returned (.int .i64 ((x % n : Nat) : Int))) w2) := ⟨x % n, Nat.mod_lt _ (by omega), rfl, hcur2, hb2, hu2⟩
  clear h hcur2
  go_wp2
  go_ret
  have := P.out
  rwa [show (((x % n : Nat)) : Int) = (x : Int) % (n : Int) by omega] at this

def PickPost (B : Nat) (l : List ByteArray) (w : World) (p : Nat) (a : Option Addr) (len cap : Nat) (e : Ending) (w' : World) : Prop :=
  ∃ s ∈ l, e = .returned (.string s) ∧ Cur B w' p a len cap ∧ Below B w w' ∧ ButK p w w'

def TextPost (B : Nat) (w : World) (e : Ending) (w' : World) : Prop := ∃ s : ByteArray, s.size ≤ 16 ∧ e = .returned (.string s) ∧ Below B w w'
def fiveL : List ByteArray := [⟨#[97]⟩, ⟨#[98, 99]⟩, ⟨#[32]⟩, ⟨#[44]⟩, ⟨#[120, 49]⟩]
theorem five_small : ∀ s ∈ fiveL, s.size ≤ 2 := by
  intro s hs
  simp only [fiveL, List.mem_cons, List.not_mem_nil, or_false] at hs
  rcases hs with rfl | rfl | rfl | rfl | rfl <;> decide
theorem five_row (w : World) : ∀ j, j < fiveL.length → (w.alloc (.cells #[.string ⟨#[97]⟩, .string ⟨#[98, 99]⟩, .string ⟨#[32]⟩, .string ⟨#[44]⟩, .string ⟨#[120, 49]⟩] 9)).cell? ⟨w.heap.size, 0 + j, none⟩ = some (.string (fiveL.getD j ByteArray.empty)) := by
  intro j hj
  rw [cell_of_row _ _ _ _ _ _ (heap_alloc_new w _), Nat.zero_add]
  match j, hj with
  | 0, _ => rfl
  | 1, _ => rfl
  | 2, _ => rfl
  | 3, _ => rfl
  | 4, _ => rfl
theorem Cur.alloc {B : Nat} {w : World} {p : Nat} {a : Option Addr} {len cap : Nat} (h : Cur B w p a len cap) (hB : B ≤ w.heap.size) (o : Obj) : Cur B (w.alloc o) p a len cap := by
  obtain ⟨hBp, hr, i, q, hi, hp⟩ := h
  exact ⟨hBp, hr.below ((Below.refl B w).alloc hB o), i, q, hi, keep_row hp ((Below.refl _ w).alloc (Nat.le_refl _) o)⟩
theorem Cur.lt {B : Nat} {w : World} {p : Nat} {a : Option Addr} {len cap : Nat} (h : Cur B w p a len cap) : p < w.heap.size := by
  obtain ⟨_, _, i, q, _, hp⟩ := h
  rcases Nat.lt_or_ge p w.heap.size with h' | h'
  · exact h'
  · simp [Array.getElem?_eq_none h'] at hp

end Go.Proofs.Ytgjogbihadiojaa
