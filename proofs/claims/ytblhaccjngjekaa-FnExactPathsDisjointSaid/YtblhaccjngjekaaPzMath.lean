/- Puzzles as numbers: what chapter 32 computes. -/
import Derived.Test.YtblhaccjngjekaaMA
namespace Go.Proofs.Ytblhaccjngjekaa
set_option linter.unusedVariables false

def noB (n : Int) : Bool := decide (0 ≤ n ∧ n ≤ 255)
theorem noB_iff (n : Int) : noB n = true ↔ 0 ≤ n ∧ n ≤ 255 := by simp [noB]
theorem noB_no (n : Int) : noB n = false ↔ n < 0 ∨ 255 < n := by simp [noB]; omega
def btB (n : Int) : Bool := decide (0 ≤ n ∧ n ≤ 5)
theorem btB_iff (n : Int) : btB n = true ↔ 0 ≤ n ∧ n ≤ 5 := by simp [btB]
theorem btB_no (n : Int) : btB n = false ↔ n < 0 ∨ 5 < n := by simp [btB]; omega
/-- the inner number -/
def hn (id no : Int) : Int := (31 * id + 17 * no + 5) % 1009
theorem hn_bd (id no : Int) : 0 ≤ hn id no ∧ hn id no < 1009 := by unfold hn; omega
/-- the hash -/
def hs (id no : Int) : Int := hn id no * (hn id no + no + 7) % 1009
theorem hs_bd (id no : Int) : 0 ≤ hs id no ∧ hs id no < 1009 := by unfold hs; omega
theorem prod_bd {n m : Int} (h0 : 0 ≤ n) (h1 : n < 1009) (h2 : 0 ≤ m) (h3 : m ≤ 2000) : 0 ≤ n * m ∧ n * m ≤ 2018000 := by
  refine ⟨Int.mul_nonneg h0 h2, ?_⟩
  have h4 : n * m ≤ 1009 * m := Int.mul_le_mul_of_nonneg_right (by omega) h2
  omega
def hsOk (id no : Int) : Bool := ptB id && noB no
theorem hsOk_iff (id no : Int) : hsOk id no = true ↔ (0 ≤ id ∧ id < 64) ∧ 0 ≤ no ∧ no ≤ 255 := by simp [hsOk, ptB_iff, noB_iff]
def hsR (id no : Int) : Int := if hsOk id no = true then hs id no else -1
theorem hsR_bad {id no : Int} (h : hsOk id no = false) : hsR id no = -1 := by unfold hsR; rw [if_neg (by rw [h]; decide)]
theorem hsR_ok {id no : Int} (h : hsOk id no = true) : hsR id no = hs id no := by unfold hsR; rw [if_pos h]
theorem hsR_sign (id no : Int) : decide (0 ≤ hsR id no) = hsOk id no := by
  rcases h : hsOk id no with _ | _
  · rw [hsR_bad h]; rfl
  · rw [hsR_ok h]; have := hs_bd id no; simp; omega
theorem hsR_bd (id no : Int) : -1 ≤ hsR id no ∧ hsR id no < 1009 := by
  rcases h : hsOk id no with _ | _
  · rw [hsR_bad h]; omega
  · rw [hsR_ok h]; have := hs_bd id no; omega

/-- two to a small power -/
def pw (b : Nat) : Int := 2 ^ b
theorem pw_s (b : Nat) : pw (b + 1) = 2 * pw b := by unfold pw; rw [Int.pow_succ]; omega
theorem pw_zero : pw 0 = 1 := rfl
theorem pw_pos (b : Nat) : 1 ≤ pw b := by
  induction b with
  | zero => rw [pw_zero]; omega
  | succ b ih => rw [pw_s]; omega
theorem pw_le {b : Nat} (h : b ≤ 6) : pw b ≤ 64 := by
  have h' : b = 0 ∨ b = 1 ∨ b = 2 ∨ b = 3 ∨ b = 4 ∨ b = 5 ∨ b = 6 := by omega
  rcases h' with rfl | rfl | rfl | rfl | rfl | rfl | rfl <;> decide
theorem pw_dvd {a b : Nat} (h : a ≤ b) : pw a ∣ pw b := by
  obtain ⟨c, rfl⟩ : ∃ c, b = a + c := ⟨b - a, by omega⟩
  exact ⟨pw c, by unfold pw; rw [Int.pow_add]⟩
/-- a solution -/
def okB (id no : Int) (b : Nat) : Bool := decide (hs id no % pw b = 0)
theorem okB_iff (id no : Int) (b : Nat) : okB id no b = true ↔ hs id no % pw b = 0 := by simp [okB]
/-- easier ones are solved, too -/
theorem okB_less {id no : Int} {a b : Nat} (h : a ≤ b) (ho : okB id no b = true) : okB id no a = true := by
  rw [okB_iff] at ho ⊢
  exact Int.emod_eq_zero_of_dvd (Int.dvd_trans (pw_dvd h) (Int.dvd_of_emod_eq_zero ho))
theorem okB_zero (id no : Int) : okB id no 0 = true := by rw [okB_iff, pw_zero]; omega
def okR (id no bits : Int) : Bool := hsOk id no && btB bits && okB id no bits.toNat
theorem okR_no {id no bits : Int} (h : hsOk id no = false ∨ btB bits = false ∨ okB id no bits.toNat = false) : okR id no bits = false := by
  unfold okR; rcases h with h | h | h <;> simp [h]
theorem okR_yes {id no bits : Int} (h : okR id no bits = true) : hsOk id no = true ∧ btB bits = true ∧ okB id no bits.toNat = true := by
  simpa [okR, and_assoc] using h
theorem okR_at {id no bits : Int} (h1 : hsOk id no = true) (h2 : btB bits = true) : okR id no bits = okB id no bits.toNat := by simp [okR, h1, h2]

/-- the smallest solution -/
def slv (id : Int) (b : Nat) : Int := match (List.range 256).find? (fun k => okB id (k : Nat) b) with | some k => (k : Int) | none => -1
theorem slv_at {id : Int} {b k : Nat} (hk : k < 256) (h : okB id k b = true) (hn : ∀ j : Nat, j < k → okB id j b = false) : slv id b = k := by
  unfold slv
  have hf : (List.range 256).find? (fun k => okB id (k : Nat) b) = some k := by
    rw [List.find?_range_eq_some]
    exact ⟨h, by simpa using hk, fun j hj => by simp [hn j hj]⟩
  rw [hf]
theorem slv_none {id : Int} {b : Nat} (hn : ∀ j : Nat, j < 256 → okB id j b = false) : slv id b = -1 := by
  unfold slv
  have hf : (List.range 256).find? (fun k => okB id (k : Nat) b) = none := by
    rw [List.find?_eq_none]
    intro x hx
    have := hn x (by simpa using hx)
    simp [this]
  rw [hf]
theorem slv_is (id : Int) (b : Nat) : (∃ k : Nat, k < 256 ∧ okB id k b = true ∧ (∀ j : Nat, j < k → okB id j b = false) ∧ slv id b = k) ∨ ((∀ j : Nat, j < 256 → okB id j b = false) ∧ slv id b = -1) := by
  unfold slv
  rcases hf : (List.range 256).find? (fun k => okB id (k : Nat) b) with _ | k
  · right
    rw [List.find?_eq_none] at hf
    exact ⟨fun j hj => by have := hf j (by simpa using hj); simpa using this, rfl⟩
  · left
    rw [List.find?_range_eq_some] at hf
    obtain ⟨h1, h2, h3⟩ := hf
    exact ⟨k, by simpa using h2, h1, fun j hj => by have := h3 j hj; simpa using this, rfl⟩
def slvOk (id bits : Int) : Bool := ptB id && btB bits
theorem slvOk_iff (id bits : Int) : slvOk id bits = true ↔ (0 ≤ id ∧ id < 64) ∧ 0 ≤ bits ∧ bits ≤ 5 := by simp [slvOk, ptB_iff, btB_iff]
def slvR (id bits : Int) : Int := if slvOk id bits = true then slv id bits.toNat else -1
theorem slvR_bad {id bits : Int} (h : slvOk id bits = false) : slvR id bits = -1 := by unfold slvR; rw [if_neg (by rw [h]; decide)]
theorem slvR_ok {id bits : Int} (h : slvOk id bits = true) : slvR id bits = slv id bits.toNat := by unfold slvR; rw [if_pos h]
theorem slv_zero (id : Int) : slv id 0 = 0 := slv_at (k := 0) (by omega) (okB_zero _ _) (fun j hj => by omega)
/-- easier puzzles have no larger smallest solutions -/
theorem slv_less {id : Int} {a b k : Nat} (h : a ≤ b) (hk : slv id b = k) : 0 ≤ slv id a ∧ slv id a ≤ k := by
  rcases slv_is id b with ⟨q, hq, h1, _, h2⟩ | ⟨_, h2⟩
  · obtain rfl : q = k := by omega
    have h3 := okB_less h h1
    rcases slv_is id a with ⟨r, hr, h4, h5, h6⟩ | ⟨h5, _⟩
    · rw [h6]
      have : r ≤ q := Nat.le_of_not_lt fun hlt => by have := h5 q hlt; rw [h3] at this; cases this
      omega
    · have := h5 q hq; rw [h3] at this; cases this
  · omega
theorem slvR_bd (id bits : Int) : -1 ≤ slvR id bits ∧ slvR id bits ≤ 255 := by
  rcases h : slvOk id bits with _ | _
  · rw [slvR_bad h]; omega
  · rw [slvR_ok h]
    rcases slv_is id bits.toNat with ⟨k, hk, _, _, h2⟩ | ⟨_, h2⟩ <;> omega

/-! ### answers -/
/-- how many of the first n are a -/
def cnA (zs : List Int) (a : Int) : Nat → Nat
  | 0 => 0
  | k + 1 => cnA zs a k + if gt zs k = a then 1 else 0
theorem cnA_le (zs : List Int) (a : Int) (n : Nat) : cnA zs a n ≤ n := by
  induction n with
  | zero => simp [cnA]
  | succ n ih => unfold cnA; split <;> omega
/-- two different answers share the votes -/
theorem cnA_two (zs : List Int) {a b : Int} (h : a ≠ b) (n : Nat) : cnA zs a n + cnA zs b n ≤ n := by
  induction n with
  | zero => simp [cnA]
  | succ n ih =>
    unfold cnA
    split
    · rename_i h1
      rw [if_neg (by omega)]; omega
    · split <;> omega
theorem cnA_pos {zs : List Int} {a : Int} {n : Nat} (h : 0 < cnA zs a n) : ∃ i, i < n ∧ gt zs i = a := by
  induction n with
  | zero => simp [cnA] at h
  | succ n ih =>
    unfold cnA at h
    split at h
    · rename_i h1; exact ⟨n, by omega, h1⟩
    · obtain ⟨i, hi, he⟩ := ih (by omega); exact ⟨i, by omega, he⟩
/-- more than half of the answers are a -/
def mjA (zs : List Int) (a : Int) : Bool := decide (zs.length < 2 * cnA zs a zs.length)
theorem mj_uniq {zs : List Int} {a b : Int} (ha : mjA zs a = true) (hb : mjA zs b = true) : a = b := by
  simp only [mjA, decide_eq_true_eq] at ha hb
  exact Decidable.byContradiction fun h => by have := cnA_two zs h zs.length; omega
theorem mj_in {zs : List Int} {a : Int} (h : mjA zs a = true) : ∃ i, i < zs.length ∧ gt zs i = a := by
  simp only [mjA, decide_eq_true_eq] at h
  exact cnA_pos (by omega)
/-- the first answer that has the majority -/
def ansTo (zs : List Int) : Nat → Option Int
  | 0 => none
  | k + 1 => match ansTo zs k with
    | some a => some a
    | none => if mjA zs (gt zs k) = true then some (gt zs k) else none
def ansR (zs : List Int) : Int := if zs.length ≤ 7 then (match ansTo zs zs.length with | some a => a | none => -1) else -1
theorem ansTo_none {zs : List Int} {n : Nat} (h : ∀ i, i < n → mjA zs (gt zs i) = false) : ansTo zs n = none := by
  induction n with
  | zero => rfl
  | succ n ih =>
    unfold ansTo
    rw [ih (fun i hi => h i (by omega))]
    simp [h n (by omega)]
theorem ansTo_some {zs : List Int} {n i : Nat} (hi : i < n) (h : mjA zs (gt zs i) = true) : ansTo zs n = some (gt zs i) := by
  induction n with
  | zero => omega
  | succ n ih =>
    unfold ansTo
    by_cases hin : i < n
    · rw [ih hin]
    · obtain rfl : i = n := by omega
      rcases ha : ansTo zs i with _ | a
      · simp [h]
      · have hb : ∀ n a, ansTo zs n = some a → mjA zs a = true := by
          intro n
          induction n with
          | zero => intro a h; cases h
          | succ n ihn =>
            intro a h
            unfold ansTo at h
            rcases hq : ansTo zs n with _ | b
            · rw [hq] at h
              simp only at h
              split at h
              · rename_i h2; injection h with h; rw [← h]; exact h2
              · cases h
            · rw [hq] at h
              simp only at h
              injection h with h
              rw [← h]; exact ihn b hq
        simp only
        rw [mj_uniq (hb _ _ ha) h]
theorem ansR_long {zs : List Int} (h : 7 < zs.length) : ansR zs = -1 := by unfold ansR; rw [if_neg (by omega)]
theorem ansR_some {zs : List Int} {i : Nat} (h7 : zs.length ≤ 7) (hi : i < zs.length) (h : mjA zs (gt zs i) = true) : ansR zs = gt zs i := by unfold ansR; rw [if_pos h7, ansTo_some hi h]
theorem ansR_none {zs : List Int} (h7 : zs.length ≤ 7) (h : ∀ i, i < zs.length → mjA zs (gt zs i) = false) : ansR zs = -1 := by unfold ansR; rw [if_pos h7, ansTo_none h]
/-- the answer of P138 -/
theorem ansR_is {zs : List Int} (h7 : zs.length ≤ 7) : (∃ i, i < zs.length ∧ mjA zs (gt zs i) = true ∧ ansR zs = gt zs i) ∨ ((∀ i, i < zs.length → mjA zs (gt zs i) = false) ∧ ansR zs = -1) := by
  by_cases hx : ∃ i, i < zs.length ∧ mjA zs (gt zs i) = true
  · obtain ⟨i, hi, h⟩ := hx
    exact .inl ⟨i, hi, h, ansR_some h7 hi h⟩
  · have hn : ∀ i, i < zs.length → mjA zs (gt zs i) = false := fun i hi => by
      rcases h : mjA zs (gt zs i) with _ | _
      · rfl
      · exact absurd ⟨i, hi, h⟩ hx
    exact .inr ⟨hn, ansR_none h7 hn⟩
end Go.Proofs.Ytblhaccjngjekaa
