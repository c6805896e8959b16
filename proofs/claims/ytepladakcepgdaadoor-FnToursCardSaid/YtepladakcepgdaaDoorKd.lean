/-
  Plain facts on decimal numerals: what a row of digits spells, that a numeral spells its number, and that the library's parse of a numeral gives the number back. They serve 'FnExactParseInt' and 'FnWords'. No model in this text.
-/
import Derived.Lib.ItoaNum
import Derived.Lib.ItoaMem
import Derived.Lib.AtoiAll
namespace Go.Proofs.YtepladakcepgdaaDoor

/-- What a row of digits spells behind acc. -/
def dvalFrom (acc : Nat) (l : List UInt8) : Nat := l.foldl (fun a c => a * 10 + (c.toNat - 48)) acc
def isDig (c : UInt8) : Prop := 48 ≤ c.toNat ∧ c.toNat ≤ 57
theorem dval_snoc (acc : Nat) (l : List UInt8) (c : UInt8) : dvalFrom acc (l ++ [c]) = dvalFrom acc l * 10 + (c.toNat - 48) := by simp [dvalFrom]
theorem dval_ge (l : List UInt8) : ∀ acc, acc ≤ dvalFrom acc l := by
  induction l with
  | nil => intro acc; exact Nat.le_refl _
  | cons c r ih => intro acc; exact Nat.le_trans (by omega) (ih (acc * 10 + (c.toNat - 48)))
theorem dval_append (acc : Nat) (a b : List UInt8) : dvalFrom acc (a ++ b) = dvalFrom (dvalFrom acc a) b := by simp [dvalFrom]

theorem dec_one {k : Nat} (h : k ≤ 9) : Lib.decDigits k = [UInt8.ofNat (48 + k)] := Lib.decDigits_one (by omega)
theorem dec_big {k : Nat} (h : 9 < k) : Lib.decDigits k = Lib.decDigits (k / 10) ++ [UInt8.ofNat (48 + k % 10)] := by
  rw [Lib.decDigits, dif_neg (by omega)]
theorem u8_nat {k : Nat} (h : k ≤ 9) : (UInt8.ofNat (48 + k)).toNat = 48 + k := UInt8.toNat_ofNat_of_lt' (by show _ < 256; omega)

theorem dval_dec (k : Nat) : dvalFrom 0 (Lib.decDigits k) = k := by
  induction k using Nat.strongRecOn with
  | ind k ih =>
    by_cases h : k ≤ 9
    · rw [dec_one h]
      show 0 * 10 + ((UInt8.ofNat (48 + k)).toNat - 48) = k
      rw [u8_nat h]; omega
    · rw [dec_big (by omega), dval_snoc, ih (k / 10) (by omega), u8_nat (by omega)]; omega
theorem dec_digits (k : Nat) : ∀ c ∈ Lib.decDigits k, isDig c := by
  induction k using Nat.strongRecOn with
  | ind k ih =>
    intro c hc
    by_cases h : k ≤ 9
    · rw [dec_one h] at hc
      simp only [List.mem_singleton] at hc
      subst hc
      unfold isDig; rw [u8_nat h]; omega
    · rw [dec_big (by omega)] at hc
      rcases List.mem_append.1 hc with hc | hc
      · exact ih (k / 10) (by omega) c hc
      · simp only [List.mem_singleton] at hc
        subst hc
        unfold isDig; rw [u8_nat (by omega)]; omega
theorem dec_ne (k : Nat) : Lib.decDigits k ≠ [] := by
  by_cases h : k ≤ 9
  · rw [dec_one h]; simp
  · rw [dec_big (by omega)]; simp
theorem dec_len (n k : Nat) (h : k < 10 ^ (n + 1)) : (Lib.decDigits k).length ≤ n + 1 := by
  induction n generalizing k with
  | zero => rw [dec_one (by simp at h; omega)]; simp
  | succ n ih =>
    by_cases h9 : k ≤ 9
    · rw [dec_one h9]; simp
    · rw [dec_big (by omega), List.length_append]
      have := ih (k / 10) (by rw [Nat.pow_succ] at h; omega)
      simp; omega

theorem parse_digits (l : List UInt8) : ∀ acc, (∀ c ∈ l, isDig c) → dvalFrom acc l < 18446744073709551616 → Lib.parseUint10 acc l = .ok (dvalFrom acc l) := by
  induction l with
  | nil => intro acc _ _; rfl
  | cons c r ih =>
    intro acc hd hlt
    have hc := hd c (by simp)
    have h1 : dvalFrom acc (c :: r) = dvalFrom (acc * 10 + (c.toNat - 48)) r := rfl
    have h2 := dval_ge r (acc * 10 + (c.toNat - 48))
    unfold isDig at hc
    simp only [Lib.parseUint10]
    rw [if_pos hc, if_neg (by omega), if_neg (by omega), h1]
    exact ih _ (fun x hx => hd x (by simp [hx])) (by omega)
theorem parseMag_dec (k : Nat) (h : k < 18446744073709551616) : Lib.parseMag (Lib.decDigits k) = .ok k := by
  unfold Lib.parseMag
  rw [if_neg (dec_ne k), parse_digits _ _ (dec_digits k) (by rw [dval_dec]; exact h), dval_dec]

/-- v is an int, and s its numeral. -/
def Spells (s : List UInt8) (v : Int) : Prop := -9223372036854775808 ≤ v ∧ v ≤ 9223372036854775807 ∧ Lib.itoa v = s

theorem atoi_spells {s : List UInt8} {v : Int} (h : Spells s v) : Lib.atoiAll s = .ok v := by
  obtain ⟨h0, h1, rfl⟩ := h
  by_cases hn : v < 0
  · obtain ⟨m, rfl⟩ : ∃ m : Nat, v = -(m : Int) := ⟨v.natAbs, by omega⟩
    rw [Lib.itoa_neg m (by omega)]
    have e : Lib.parseMag (Lib.decDigits m) = .ok m := parseMag_dec m (by omega)
    simp only [Lib.atoiAll]
    rw [if_pos (.inr (by decide)), e]
    simp only
    rw [if_neg (by simp), if_neg (by omega), if_pos (by decide)]
  · obtain ⟨m, rfl⟩ : ∃ m : Nat, v = (m : Int) := ⟨v.toNat, by omega⟩
    rw [Lib.itoa_nonneg]
    have e : Lib.parseMag (Lib.decDigits m) = .ok m := parseMag_dec m (by omega)
    cases hd : Lib.decDigits m with
    | nil => exact absurd hd (dec_ne m)
    | cons c r =>
      have hc : isDig c := dec_digits m c (by rw [hd]; simp)
      unfold isDig at hc
      rw [hd] at e
      simp only [Lib.atoiAll]
      rw [if_neg (by omega), e]
      simp only
      rw [if_neg (by omega), if_neg (by omega), if_neg (by omega)]
theorem spells_inj {s : List UInt8} {v v' : Int} (h : Spells s v) (h' : Spells s v') : v = v' := by
  have := (atoi_spells h).symm.trans (atoi_spells h')
  injection this

theorem atoi_range {s : List UInt8} {v : Int} (h : Lib.atoiAll s = .ok v) : -9223372036854775808 ≤ v ∧ v ≤ 9223372036854775807 := by
  unfold Lib.atoiAll at h
  split at h
  · cases h
  · simp only at h
    split at h
    · cases h
    · cases h
    · rename_i u _
      split at h
      · cases h
      · split at h
        · cases h
        · injection h with h
          subst h
          split <;> omega

/-- What ParseInt answers: the int whose numeral s is, and whether there is one. -/
noncomputable def pin (s : List UInt8) : Int × Bool := by classical exact if h : ∃ v, Spells s v then (h.choose, true) else (0, false)
theorem pin_of {s : List UInt8} {v : Int} (h : Spells s v) : pin s = (v, true) := by
  unfold pin
  have he : ∃ v, Spells s v := ⟨v, h⟩
  rw [dif_pos he, spells_inj he.choose_spec h]
theorem pin_none {s : List UInt8} (h : ∀ v, ¬ Spells s v) : pin s = (0, false) := by
  unfold pin
  rw [dif_neg (fun ⟨v, hv⟩ => h v hv)]

end Go.Proofs.YtepladakcepgdaaDoor
