/-
  The search over tours: neighbors, what is found, the distances; equal scores are enough (mathematics). Conditions: the tours are valid, of at most 5 players.
-/
import Derived.Test.YtgdejippddcekaaDoor7C
namespace Go.Proofs.YtgdejippddcekaaDoor
open Go.ChangeShapes Go.WideShapes Go.ChangeAt Go.RowKit
set_option linter.unusedVariables false

theorem nb_ofW {m : Nat} {ws : List Nat} (h1 : 1 ≤ m) (h8 : m ≤ 8) (h : Cn.Va m ws) : nbL (ofW ws) = (Cn.nb ws).map ofW := by
  unfold nbL Cn.nb
  rw [tr_ofW h1 h8 h, List.map_map, List.map_map]
  apply List.map_congr_left
  intro r _
  show rvT (ofW ws) (t3 r.1 r.2.1 r.2.2) = ofW (Cn.rv ws r)
  unfold rvT t3
  simp only [List.getD_cons_zero, List.getD_cons_succ, Int.toNat_natCast]
  exact rv_ofW ws r.1 r.2.1 r.2.2
theorem nbL_ok {m : Nat} {l y : List Int} (h : Ok (m : Int) l) (hy : y ∈ nbL l) : Ok (m : Int) y := by
  unfold nbL at hy
  obtain ⟨r, hr, rfl⟩ := List.mem_map.1 hy
  have hr2 : ∃ x y z : Nat, r = [(x : Int), (y : Int), (z : Int)] ∧ x < l.length ∧ y < l.length ∧ z < l.length ∧ x ≠ y ∧ y ≠ z ∧ z ≠ x := by
    obtain ⟨a, b, c, ha, hb, hc, hab, hac, ht, rfl⟩ := mem_triL.1 hr
    unfold trB at ht
    simp only [Bool.and_eq_true, Bool.not_eq_true', beq_eq_false_iff_ne] at ht
    exact ⟨a, b, c, rfl, ha, hb, hc, by omega, fun e => ht.1 e.symm, by omega⟩
  obtain ⟨x, y, z, rfl, hx, hy, hz, hxy, hyz, hzx⟩ := hr2
  unfold rvT
  simp only [List.getD_cons_zero, List.getD_cons_succ, Int.toNat_natCast]
  exact (rev_ok h hx hy hz hxy hyz hzx).2.2
theorem Ok.m {m : Nat} {l : List Int} (h : Ok (m : Int) l) : 1 ≤ m ∧ m ≤ 8 ∧ l.length = m := by
  have h1 := h.1; have h2 := h.2.1; have h3 := h.2.2.1
  omega
theorem nb_va {m : Nat} {ws y : List Nat} (h1 : 1 ≤ m) (h8 : m ≤ 8) (h : Cn.Va m ws) (hy : y ∈ Cn.nb ws) : Cn.Va m y := by
  have h2 : ofW y ∈ nbL (ofW ws) := by rw [nb_ofW h1 h8 h]; exact List.mem_map.2 ⟨y, hy, rfl⟩
  obtain ⟨y2, e, hv⟩ := (nbL_ok (h.ok h1 h8) h2).va
  rw [ofW_inj e]; exact hv
theorem nbL_sym {m : Nat} (h5 : m ≤ 5) {l y : List Int} (h : Ok (m : Int) l) (hy : y ∈ nbL l) : l ∈ nbL y := by
  obtain ⟨h1, h8, _⟩ := h.m
  obtain ⟨ws, rfl, hv⟩ := h.va
  rw [nb_ofW h1 h8 hv] at hy
  obtain ⟨y2, hy2, rfl⟩ := List.mem_map.1 hy
  rw [nb_ofW h1 h8 (nb_va h1 h8 hv hy2)]
  exact List.mem_map.2 ⟨ws, (Cn.nb_sco h5 hv hy2).2, rfl⟩
theorem pop_pc : ∀ w, w < 32 → Cn.pop w = pc w := by
  intro w hw
  have : ∀ x : Fin 32, Cn.pop x.val = pc x.val := by decide
  exact this ⟨w, hw⟩
theorem sco_of {m : Nat} (h5 : m ≤ 5) {x y : List Nat} (hx : Cn.Va m x) (hy : Cn.Va m y) (h : x.map pc = y.map pc) : Cn.sco x = Cn.sco y := by
  have hp : ∀ ws, Cn.Va m ws → ws.map Cn.pop = ws.map pc := by
    intro ws hv
    apply List.map_congr_left
    intro w hw
    obtain ⟨i, hi, rfl⟩ := List.mem_iff_getElem.1 hw
    have := hv.lt i (by rw [← hv.len]; exact hi)
    rw [List.getD_eq_getElem?_getD, List.getElem?_eq_getElem hi] at this
    exact pop_pc _ (Nat.lt_of_lt_of_le this (Nat.pow_le_pow_right (by decide) h5))
  have hf : ∀ (ws : List Nat) (s : Nat), ws.foldl (fun s w => s * 8 + Cn.pop w) s = (ws.map Cn.pop).foldl (fun s w => s * 8 + w) s := by
    intro ws
    induction ws with
    | nil => exact fun s => rfl
    | cons w ws ih => exact fun s => ih _
  unfold Cn.sco
  rw [hf, hf, hp x hx, hp y hy, h]
theorem scores_ofW (ws : List Nat) : scoresL (ofW ws) = ws.map pc := by
  unfold scoresL ofW
  rw [List.map_map]; rfl
/-- Equal scores: whatever is closed under reversed triangles has both or none. -/
theorem joinedL {m : Nat} (h5 : m ≤ 5) (S : List Int → Prop) (hS : ∀ x, Ok (m : Int) x → S x → ∀ y ∈ nbL x, S y) {x y : List Int} (hx : Ok (m : Int) x) (hy : Ok (m : Int) y) (hs : scoresL x = scoresL y) : S x ↔ S y := by
  obtain ⟨h1, h8, _⟩ := hx.m
  obtain ⟨u, rfl, hu⟩ := hx.va
  obtain ⟨v, rfl, hv⟩ := hy.va
  rw [scores_ofW, scores_ofW] at hs
  exact Cn.joined h5 (fun ws hw z hz => nb_va h1 h8 hw hz) (fun ws => S (ofW ws)) (fun ws hw h z hz => hS _ (hw.ok h1 h8) h _ (by rw [nb_ofW h1 h8 hw]; exact List.mem_map.2 ⟨z, hz, rfl⟩)) hu hv (sco_of h5 hu hv hs)

theorem len_sub {α : Type} [DecidableEq α] : ∀ (l L : List α), l.Nodup → (∀ x ∈ l, x ∈ L) → l.length ≤ L.length
  | [], _, _, _ => Nat.zero_le _
  | x :: l, L, hn, hs => by
    rw [List.nodup_cons] at hn
    have hx := hs x (by simp)
    have h := len_sub l (L.erase x) hn.2 (fun y hy => (List.mem_erase_of_ne (fun e => hn.1 (by rw [← e]; exact hy))).2 (hs y (by simp [hy])))
    rw [List.length_erase_of_mem hx] at h
    have := List.length_pos_of_mem hx
    simp only [List.length_cons]; omega
def extB (m : Nat) : Bool := (List.range m).all fun k => (Cn.E m k).all fun ws => Nat.ble (Cn.ext m k ws).length (2 ^ (m - 1 - k))
theorem extB5 : ∀ m, m ≤ 5 → extB m = true := by decide +kernel
def pr (m : Nat) : Nat → Nat
  | 0 => 1
  | k + 1 => pr m k * 2 ^ (m - 1 - k)
theorem flat_len {α β : Type} (f : α → List β) (c : Nat) : ∀ L : List α, (∀ x ∈ L, (f x).length ≤ c) → (L.flatMap f).length ≤ L.length * c
  | [], _ => by simp
  | x :: L, h => by
    rw [List.flatMap_cons, List.length_append, List.length_cons, Nat.succ_mul]
    have h1 := h x (by simp)
    have h2 := flat_len f c L (fun y hy => h y (by simp [hy]))
    omega
theorem E_le (m : Nat) (h : m ≤ 5) : ∀ k, k ≤ m → (Cn.E m k).length ≤ pr m k
  | 0, _ => by simp [Cn.E, pr]
  | k + 1, hk => by
    have h1 := List.all_eq_true.1 (extB5 m h) k (List.mem_range.2 (by omega))
    have h2 := flat_len (Cn.ext m k) (2 ^ (m - 1 - k)) (Cn.E m k) (fun ws hw => Nat.le_of_ble_eq_true (List.all_eq_true.1 h1 ws hw))
    exact Nat.le_trans h2 (Nat.mul_le_mul_right _ (E_le m h k (by omega)))
theorem pr5 : ∀ m, m ≤ 5 → pr m m ≤ 1024 := by decide
theorem E_len (m : Nat) (h : m ≤ 5) : (Cn.E m m).length ≤ 1024 := Nat.le_trans (E_le m h m (Nat.le_refl _)) (pr5 m h)
/-- What is found from u on, when k tours have been gone through. -/
abbrev up (u : List Int) (k : Nat) : Bf.Fd (List Int) := Bf.upto nbL u k
theorem up_ok {m : Nat} {u : List Int} (hu : Ok (m : Int) u) (k : Nat) : ∀ p ∈ up u k, Ok (m : Int) p.1 := Bf.upto_all (fun l => Ok (m : Int) l) hu (fun x hx y hy => nbL_ok hx hy) k
theorem up_len {m : Nat} (h5 : m ≤ 5) {u : List Int} (hu : Ok (m : Int) u) (k : Nat) (hn : ((up u k).map Prod.fst).Nodup) : (up u k).length ≤ 1024 := by
  have h := len_sub ((up u k).map Prod.fst) ((Cn.E m m).map ofW) hn (fun x hx => by
    obtain ⟨p, hp, rfl⟩ := List.mem_map.1 hx
    obtain ⟨ws, e, hv⟩ := (up_ok hu k p hp).va
    rw [e]; exact List.mem_map.2 ⟨ws, hv.mem, rfl⟩)
  have := E_len m h5
  simp only [List.length_map] at h
  omega
theorem up_stop (u : List Int) (k : Nat) (h : (up u k).length ≤ k) (j : Nat) : up u (k + j) = up u k := by
  induction j with
  | zero => rfl
  | succ j ih =>
    show Bf.row nbL (up u (k + j)) (k + j) = _
    rw [ih]
    unfold Bf.row
    rw [List.getElem?_eq_none (by omega)]
/-- All that is found. -/
def lots : Nat := 1024
theorem lots_is : lots = 1024 := rfl
def all (u : List Int) : Bf.Fd (List Int) := up u lots
theorem all_of {m : Nat} (h5 : m ≤ 5) {u : List Int} (hu : Ok (m : Int) u) {k : Nat} (hk : k ≤ 1024) (hl : (up u k).length ≤ k) : up u k = all u := by
  have := up_stop u k hl (lots - k)
  rw [show k + (lots - k) = lots from by have := lots_is; omega] at this
  unfold all
  exact this.symm
/-- What holds when the search is over, at whatever step it was. -/
structure Got (m : Nat) (u : List Int) (D : Bf.Fd (List Int)) : Prop where
  fin : Bf.Fin nbL u D
  ok : ∀ x d, (x, d) ∈ D → Ok (m : Int) x
theorem got_of {m : Nat} {u : List Int} (hu : Ok (m : Int) u) {k : Nat} (h : ∀ j, j < k → j < (up u j).length) (hl : (up u k).length ≤ k) : Got m u (up u k) :=
  ⟨Bf.fin_of (Bf.inv_upto nbL u k h) hl, fun x d hx => up_ok hu k _ hx⟩
section
variable {m : Nat} {u : List Int} {D : Bf.Fd (List Int)} (h5 : m ≤ 5) (h : Got m u D)
include h5 h
theorem Got.near {x y : List Int} {d e : Nat} (hx : (x, d) ∈ D) (hy : (y, e) ∈ D) (hxy : y ∈ nbL x) : d ≤ e + 1 := h.fin.near (fun l => Ok (m : Int) l) h.ok (fun x hx y hy => nbL_sym h5 hx hy) hx hy hxy
theorem Got.step {x : List Int} {d : Nat} (hx : (x, d + 1) ∈ D) : ∃ p ∈ nbL x, (p, d) ∈ D := h.fin.step (fun l => Ok (m : Int) l) h.ok (fun x hx y hy => nbL_sym h5 hx hy) hx
theorem Got.has {t : List Int} (hu : Ok (m : Int) u) (ht : Ok (m : Int) t) (hs : scoresL u = scoresL t) : ∃ d, (t, d) ∈ D := by
  refine (joinedL h5 (fun l => ∃ d, (l, d) ∈ D) (fun x hx ⟨d, hd⟩ y hy => ?_) hu ht hs).1 ⟨0, h.fin.zero⟩
  obtain ⟨e, he, _⟩ := h.fin.next x d hd y hy
  exact ⟨e, he⟩
end
end Go.Proofs.YtgdejippddcekaaDoor
