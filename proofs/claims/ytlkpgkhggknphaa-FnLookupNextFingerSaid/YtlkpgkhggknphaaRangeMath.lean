/- Ranges of keys on sets of nodes as lists of numbers: the nodes that hold them. -/
import Derived.Test.YtlkpgkhggknphaaLookMath
namespace Go.Proofs.Ytlkpgkhggknphaa
set_option linter.unusedVariables false

/-- the x-th node from place k on, around the circle -/
def gRot (zs : List Int) (k x : Nat) : Int := gt zs ((k + x) % zs.length)
theorem gRot_zero {zs : List Int} {k : Nat} (hk : k < zs.length) : gRot zs k 0 = gt zs k := by
  unfold gRot; rw [Nat.add_zero, Nat.mod_eq_of_lt hk]
theorem gRot_mem {zs : List Int} (hv : vldB zs = true) (k x : Nat) : gRot zs k x ∈ zs := gt_mem (Nat.mod_lt _ (by have := vld_len hv; omega))
theorem gRot_lo {zs : List Int} {k x : Nat} (h : k + x < zs.length) : gRot zs k x = gt zs (k + x) := by unfold gRot; rw [Nat.mod_eq_of_lt h]
theorem gRot_hi {zs : List Int} {k x : Nat} (hk : k < zs.length) (hx : x < zs.length) (h : zs.length ≤ k + x) : gRot zs k x = gt zs (k + x - zs.length) := by
  unfold gRot; rw [Nat.mod_eq_sub_mod h, Nat.mod_eq_of_lt (by omega)]

/-- the node behind a node -/
theorem nxt_after {zs : List Int} (hv : vldB zs = true) {k x : Nat} : nxtL zs ((gRot zs k x + 1) % 64) = gRot zs k (x + 1) := by
  have hl := vld_len hv
  have ha := vld_asc hv
  obtain ⟨j, hj, hj', ej⟩ : ∃ j, j < zs.length ∧ (k + x) % zs.length = j ∧ (k + (x + 1)) % zs.length = (j + 1) % zs.length :=
    ⟨(k + x) % zs.length, Nat.mod_lt _ (by omega), rfl, by rw [Nat.mod_add_mod]; rfl⟩
  unfold gRot
  rw [hj', ej]
  have pj := vld_pt hv (gt_mem hj)
  rcases Nat.lt_or_ge (j + 1) zs.length with e | e
  · rw [Nat.mod_eq_of_lt e]
    have pn := vld_pt hv (gt_mem e)
    have h1 := asc_lt ha (show j < j + 1 by omega) e
    refine nxt_uniq hv (by omega) (by omega) (gt_mem e) (fun y hy => ?_)
    obtain ⟨i, hi, rfl⟩ := mem_gt hy
    have py := vld_pt hv (gt_mem hi)
    rcases Nat.lt_trichotomy i (j + 1) with h | h | h
    · have : gt zs i ≤ gt zs j := by
        rcases Nat.eq_or_lt_of_le (show i ≤ j by omega) with e' | e'
        · subst e'; omega
        · have := asc_lt ha e' hj; omega
      omega
    · subst h; omega
    · have := asc_lt ha h hi; omega
  · have ej' : j + 1 = zs.length := by omega
    rw [ej', Nat.mod_self]
    have p0 := vld_pt hv (gt_mem (zs := zs) (i := 0) (by omega))
    refine nxt_uniq hv (by omega) (by omega) (gt_mem (by omega)) (fun y hy => ?_)
    obtain ⟨i, hi, rfl⟩ := mem_gt hy
    have py := vld_pt hv (gt_mem hi)
    have h0 : gt zs 0 ≤ gt zs i := by
      rcases Nat.eq_zero_or_pos i with e' | e'
      · subst e'; omega
      · have := asc_lt ha e' hi; omega
    have h1 : gt zs i ≤ gt zs j := by
      rcases Nat.eq_or_lt_of_le (show i ≤ j by omega) with e' | e'
      · subst e'; omega
      · have := asc_lt ha e' hj; omega
    omega

/-- from the next node on the nodes are farther and farther away -/
theorem rot_asc {zs : List Int} (hv : vldB zs = true) {a : Int} (h0 : 0 ≤ a) (h1 : a < 64) {k : Nat} (hk : k < zs.length) (he : gt zs k = nxtL zs a) {x y : Nat} (hxy : x < y) (hy : y < zs.length) :
    dist a (gRot zs k x) < dist a (gRot zs k y) := by
  have hl := vld_len hv
  have ha := vld_asc hv
  have pk := vld_pt hv (gt_mem hk)
  have inj : ∀ i j, i < zs.length → j < zs.length → gt zs i = gt zs j → i = j := by
    intro i j hi hj e
    rcases Nat.lt_trichotomy i j with h | h | h
    · have := asc_lt ha h hj; omega
    · exact h
    · have := asc_lt ha h hi; omega
  have hx := vld_pt hv (gRot_mem hv k x)
  have hy' := vld_pt hv (gRot_mem hv k y)
  unfold dist
  rcases nxt_cases zs a (by omega) with ⟨j, hj, h2, h3, h4⟩ | ⟨h2, h4⟩
  · have : k = j := inj k j hk hj (by rw [he, h4])
    subst this
    rcases Nat.lt_or_ge (k + y) zs.length with e | e
    · rw [gRot_lo e] at hy' ⊢
      rw [gRot_lo (show k + x < zs.length by omega)] at hx ⊢
      have g1 := asc_lt ha (show k + x < k + y by omega) e
      have g2 : gt zs k ≤ gt zs (k + x) := by
        rcases Nat.eq_zero_or_pos x with e' | e'
        · subst e'; exact Int.le_refl _
        · have := asc_lt ha (show k < k + x by omega) (by omega); omega
      omega
    · rw [gRot_hi hk hy e] at hy' ⊢
      have g3 := h2 (k + y - zs.length) (by omega)
      rcases Nat.lt_or_ge (k + x) zs.length with e2 | e2
      · rw [gRot_lo e2] at hx ⊢
        have g2 : gt zs k ≤ gt zs (k + x) := by
          rcases Nat.eq_zero_or_pos x with e' | e'
          · subst e'; exact Int.le_refl _
          · have := asc_lt ha (show k < k + x by omega) (by omega); omega
        omega
      · rw [gRot_hi hk (by omega) e2] at hx ⊢
        have g1 := asc_lt ha (show k + x - zs.length < k + y - zs.length by omega) (by omega)
        have g4 := h2 (k + x - zs.length) (by omega)
        omega
  · have : k = 0 := inj k 0 hk (by omega) (by rw [he, h4])
    subst this
    rw [gRot_lo (show 0 + y < zs.length by omega)] at hy' ⊢
    rw [gRot_lo (show 0 + x < zs.length by omega)] at hx ⊢
    have g1 := asc_lt ha (show 0 + x < 0 + y by omega) (by omega)
    have g2 := h2 (0 + x) (by omega)
    have g3 := h2 (0 + y) (by omega)
    omega
theorem rot_sur {zs : List Int} {k : Nat} (hk : k < zs.length) {z : Int} (hz : z ∈ zs) : ∃ x, x < zs.length ∧ gRot zs k x = z := by
  obtain ⟨i, hi, rfl⟩ := mem_gt hz
  rcases Nat.lt_or_ge i k with h | h
  · exact ⟨i + zs.length - k, by omega, by rw [gRot_hi hk (by omega) (by omega)]; congr 1; omega⟩
  · exact ⟨i - k, by omega, by rw [gRot_lo (by omega)]; congr 1; omega⟩

/-- from the x-th node on, n nodes at most, up to the first one that is at least as far away as b -/
def rngF (zs : List Int) (k : Nat) (a b : Int) : Nat → Nat → List Int
  | 0, _ => []
  | n + 1, x => gRot zs k x :: (if dist a b ≤ dist a (gRot zs k x) then [] else rngF zs k a b n (x + 1))
/-- the nodes that hold the keys from a to b; k: the place of the first one -/
def rngL (zs : List Int) (k : Nat) (a b : Int) : List Int := rngF zs k a b zs.length 0
/-- the first m nodes from place k on -/
def rotTo (zs : List Int) (k m : Nat) : List Int := (List.range m).map (gRot zs k)
theorem rotTo_len (zs : List Int) (k m : Nat) : (rotTo zs k m).length = m := by simp [rotTo]
theorem rotTo_succ (zs : List Int) (k m : Nat) : rotTo zs k (m + 1) = rotTo zs k m ++ [gRot zs k m] := by simp [rotTo, List.range_succ]
theorem gt_rotTo {zs : List Int} {k m i : Nat} (h : i < m) : gt (rotTo zs k m) i = gRot zs k i := by
  rw [gt_get (by rw [rotTo_len]; exact h)]; simp [rotTo]

/-- the first m nodes are those that hold the range -/
def IsRng (zs : List Int) (k : Nat) (a b : Int) (m : Nat) : Prop :=
  1 ≤ m ∧ m ≤ zs.length ∧ (∀ x, x + 1 < m → dist a (gRot zs k x) < dist a b) ∧ (m = zs.length ∨ dist a b ≤ dist a (gRot zs k (m - 1)))
theorem rng_of (zs : List Int) (k : Nat) (a b : Int) : ∀ n x, x + n = zs.length → (∀ y, y < x → dist a (gRot zs k y) < dist a b) → 1 ≤ n → ∃ m, IsRng zs k a b m ∧ x < m ∧ rotTo zs k x ++ rngF zs k a b n x = rotTo zs k m := by
  intro n
  induction n with
  | zero => intro x _ _ h; omega
  | succ n ih =>
    intro x hx hb _
    by_cases e : dist a b ≤ dist a (gRot zs k x)
    · refine ⟨x + 1, ⟨by omega, by omega, fun y hy => hb y (by omega), .inr (by simpa using e)⟩, by omega, ?_⟩
      rw [rngF, if_pos e, rotTo_succ]
    · rcases Nat.eq_zero_or_pos n with h0 | h0
      · subst h0
        refine ⟨x + 1, ⟨by omega, by omega, fun y hy => hb y (by omega), .inl (by omega)⟩, by omega, ?_⟩
        rw [rngF, if_neg e, rotTo_succ, rngF]
      · obtain ⟨m, h1, h2, h3⟩ := ih (x + 1) (by omega) (fun y hy => by
          rcases Nat.eq_or_lt_of_le (show y ≤ x by omega) with h | h
          · subst h; omega
          · exact hb y h) h0
        refine ⟨m, h1, by omega, ?_⟩
        rw [rngF, if_neg e, ← h3, rotTo_succ]
        simp
theorem rng_is {zs : List Int} (hv : vldB zs = true) (k : Nat) (a b : Int) : ∃ m, IsRng zs k a b m ∧ rngL zs k a b = rotTo zs k m := by
  obtain ⟨m, h1, _, h3⟩ := rng_of zs k a b zs.length 0 (by omega) (fun y h => by omega) (vld_len hv).1
  exact ⟨m, h1, by simpa [rotTo, rngL] using h3⟩

/-- each key of the range is held by a listed node -/
theorem rng_has {zs : List Int} (hv : vldB zs = true) {a b : Int} (h0 : 0 ≤ a) (h1 : a < 64) {k m : Nat} (hk : k < zs.length) (he : gt zs k = nxtL zs a) (hm : IsRng zs k a b m) {t : Int} (ht : 0 ≤ t) (ht' : t ≤ dist a b) :
    nxtL zs ((a + t) % 64) ∈ rotTo zs k m := by
  obtain ⟨m1, m2, m3, m4⟩ := hm
  have hd := dist_bd a b
  obtain ⟨x, hx, ex⟩ := rot_sur hk (nxt_mem hv ((a + t) % 64))
  suffices x < m by
    rw [← ex]; exact List.mem_map.2 ⟨x, List.mem_range.2 this, rfl⟩
  rcases Nat.lt_or_ge x m with h | h
  · exact h
  · exfalso
    have m5 : dist a b ≤ dist a (gRot zs k (m - 1)) := by
      rcases m4 with h' | h'
      · omega
      · exact h'
    have h2 := rot_asc hv h0 h1 hk he (show m - 1 < x by omega) hx
    have h3 := nxt_min hv (key := (a + t) % 64) (by omega) (by omega) (gRot_mem hv k (m - 1))
    rw [← ex] at h3
    have p1 := vld_pt hv (gRot_mem hv k (m - 1))
    have p2 := vld_pt hv (gRot_mem hv k x)
    unfold dist at m5 h2 hd ht'
    omega
/-- each listed node holds a key of the range -/
theorem rng_key {zs : List Int} (hv : vldB zs = true) {a b : Int} (h0 : 0 ≤ a) (h1 : a < 64) {k m : Nat} (hk : k < zs.length) (he : gt zs k = nxtL zs a) (hm : IsRng zs k a b m) {x : Nat} (hx : x < m) :
    ∃ t : Int, 0 ≤ t ∧ t ≤ dist a b ∧ nxtL zs ((a + t) % 64) = gRot zs k x := by
  obtain ⟨m1, m2, m3, m4⟩ := hm
  have hd := dist_bd a b
  have px := vld_pt hv (gRot_mem hv k x)
  have dx := dist_bd a (gRot zs k x)
  rcases Int.lt_or_le (dist a b) (dist a (gRot zs k x)) with h | h
  · refine ⟨dist a b, hd.1, Int.le_refl _, nxt_uniq hv (by omega) (by omega) (gRot_mem hv k x) (fun y hy => ?_)⟩
    obtain ⟨x', hx', rfl⟩ := rot_sur hk hy
    have py := vld_pt hv (gRot_mem hv k x')
    rcases Nat.lt_trichotomy x' x with e | e | e
    · have := m3 x' (by omega)
      unfold dist at *; omega
    · subst e; exact Int.le_refl _
    · have := rot_asc hv h0 h1 hk he e hx'
      unfold dist at *; omega
  · refine ⟨dist a (gRot zs k x), dx.1, h, ?_⟩
    have e : (a + dist a (gRot zs k x)) % 64 = gRot zs k x := by unfold dist; omega
    rw [e]; exact nxt_self hv (gRot_mem hv k x)
/-- no node is listed twice -/
theorem rng_once {zs : List Int} (hv : vldB zs = true) {a b : Int} (h0 : 0 ≤ a) (h1 : a < 64) {k m : Nat} (hk : k < zs.length) (he : gt zs k = nxtL zs a) (hm : m ≤ zs.length) {x : Nat} (hx : x < m) : hasB (rotTo zs k x) (gRot zs k x) = false := by
  cases h : hasB (rotTo zs k x) (gRot zs k x)
  · rfl
  · exfalso
    rw [hasB_iff] at h
    obtain ⟨y, hy, e⟩ := List.mem_map.1 h
    have := rot_asc hv h0 h1 hk he (List.mem_range.1 hy) (by omega)
    rw [e] at this; omega
theorem rotTo_take {zs : List Int} {k m x : Nat} (h : x ≤ m) : (rotTo zs k m).take x = rotTo zs k x := by
  unfold rotTo
  rw [← List.map_take, List.take_range]
  congr 2; omega
/-- a single key -/
theorem rng_one {zs : List Int} (hv : vldB zs = true) {a : Int} {k : Nat} (hk : k < zs.length) : rngL zs k a a = [gt zs k] := by
  have hl := vld_len hv
  unfold rngL
  rw [show zs.length = (zs.length - 1) + 1 by omega, rngF, gRot_zero hk, if_pos]
  have : dist a a = 0 := by unfold dist; omega
  rw [this]; exact (dist_bd _ _).1
/-- the place of the next node -/
theorem nxt_place {zs : List Int} (hv : vldB zs = true) (a : Int) : ∃ k, k < zs.length ∧ gt zs k = nxtL zs a := mem_gt (nxt_mem hv a)
theorem place_one {zs : List Int} (hv : vldB zs = true) {i j : Nat} (hi : i < zs.length) (hj : j < zs.length) (e : gt zs i = gt zs j) : i = j := by
  have ha := vld_asc hv
  rcases Nat.lt_trichotomy i j with h | h | h
  · have := asc_lt ha h hj; omega
  · exact h
  · have := asc_lt ha h hi; omega

end Go.Proofs.Ytlkpgkhggknphaa
