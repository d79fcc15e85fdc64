/- Scans as lists: what the functions of chapter 41 compute. -/
import Derived.Test.YtenhaccdiamagaaLsMath
namespace Go.Proofs.Ytenhaccdiamagaa
set_option linter.unusedVariables false

theorem int_lt_or (a b : Int) : a < b ∨ b ≤ a := by omega
/-! ### keys -/
/-- strictly ascending positions, of whatever number -/
def kyB (zs : List Int) : Bool := ascTo zs zs.length
theorem asc_all {zs : List Int} {n : Nat} : ascTo zs n = true ↔ ∀ k, k < n → okAt zs k = true := by
  refine ⟨fun h k hk => asc_ok hk h, fun h => ?_⟩
  induction n with
  | zero => rfl
  | succ n ih => simp only [ascTo, Bool.and_eq_true]; exact ⟨ih fun k hk => h k (by omega), h n (by omega)⟩
theorem okAt_iff {zs : List Int} {k : Nat} : okAt zs k = true ↔ (0 ≤ gt zs k ∧ gt zs k < 64) ∧ (k = 0 ∨ gt zs (k - 1) < gt zs k) := by
  simp only [okAt, Bool.and_eq_true, Bool.or_eq_true, decide_eq_true_eq, ptB_iff]
theorem ky_pt {zs : List Int} (h : kyB zs = true) {k : Nat} (hk : k < zs.length) : 0 ≤ gt zs k ∧ gt zs k < 64 := (okAt_iff.1 (asc_ok hk h)).1
theorem ky_step {zs : List Int} (h : kyB zs = true) {k : Nat} (hk : k + 1 < zs.length) : gt zs k < gt zs (k + 1) := by
  rcases (okAt_iff.1 (asc_ok hk h)).2 with h' | h'
  · omega
  · exact h'
theorem ky_lt {zs : List Int} (h : kyB zs = true) {i j : Nat} (hij : i < j) (hj : j < zs.length) : gt zs i < gt zs j := by
  induction j with
  | zero => omega
  | succ j ih =>
    have h1 := ky_step h hj
    rcases Nat.lt_or_ge i j with h' | h'
    · have := ih h' (by omega); omega
    · obtain rfl : i = j := by omega
      exact h1
theorem ky_iff {zs : List Int} : kyB zs = true ↔ (∀ z ∈ zs, 0 ≤ z ∧ z < 64) ∧ zs.Pairwise (fun x y => x < y) := by
  constructor
  · intro h
    refine ⟨fun z hz => ?_, List.pairwise_iff_getElem.2 fun i j hi hj hij => ?_⟩
    · obtain ⟨i, hi, rfl⟩ := List.getElem_of_mem hz
      rw [← gt_get hi]; exact ky_pt h hi
    · rw [← gt_get hi, ← gt_get hj]; exact ky_lt h hij hj
  · rintro ⟨h1, h2⟩
    refine asc_all.2 fun k hk => okAt_iff.2 ⟨?_, ?_⟩
    · rw [gt_get hk]; exact h1 _ (List.getElem_mem _)
    · rcases k with _ | k
      · exact .inl rfl
      · refine .inr ?_
        rw [Nat.add_sub_cancel, gt_get hk, gt_get (by omega)]
        exact (List.pairwise_iff_getElem.1 h2) k (k + 1) (by omega) hk (by omega)
theorem ky_nil : kyB [] = true := rfl
theorem ky_no_pt {zs : List Int} {k : Nat} (hk : k < zs.length) (h : ptB (gt zs k) = false) : kyB zs = false := asc_no hk (by simp only [okAt, h, Bool.false_and])
theorem ky_no_lt {zs : List Int} {j : Nat} (hk : j + 1 < zs.length) (h : gt zs (j + 1) ≤ gt zs j) : kyB zs = false := by
  refine asc_no hk ?_
  simp only [okAt, Nat.add_sub_cancel, Bool.and_eq_false_iff, Bool.or_eq_false_iff, decide_eq_false_iff_not]
  exact .inr ⟨by omega, by omega⟩
/-- the keys from a on, less than b -/
def btw (K : List Int) (a b : Int) : List Int := K.filter fun z => decide (a ≤ z) && decide (z < b)
theorem mem_btw {K : List Int} {a b z : Int} : z ∈ btw K a b ↔ z ∈ K ∧ a ≤ z ∧ z < b := by simp [btw, List.mem_filter]
theorem btw_len (K : List Int) (a b : Int) : (btw K a b).length ≤ K.length := List.length_filter_le _ _
theorem btw_take_s {K : List Int} {k : Nat} (hk : k < K.length) (a b : Int) : btw (K.take (k + 1)) a b = btw (K.take k) a b ++ if (decide (a ≤ gt K k) && decide (gt K k < b)) = true then [gt K k] else [] := by
  unfold btw
  rw [List.take_add_one, List.getElem?_eq_getElem hk, List.filter_append, ← gt_get hk]
  congr 1
  cases h : (decide (a ≤ gt K k) && decide (gt K k < b)) <;> simp_all
theorem ky_btw {K : List Int} (h : kyB K = true) (a b : Int) : kyB (btw K a b) = true := by
  obtain ⟨h1, h2⟩ := ky_iff.1 h
  exact ky_iff.2 ⟨fun z hz => h1 z (mem_btw.1 hz).1, h2.filter _⟩
/-- two ranges side by side -/
theorem btw_app {K : List Int} (h : K.Pairwise (fun x y => x < y)) {a b c : Int} (hab : a ≤ b) (hbc : b ≤ c) : btw K a b ++ btw K b c = btw K a c := by
  induction K with
  | nil => rfl
  | cons z K ih =>
    obtain ⟨h1, h2⟩ := List.pairwise_cons.1 h
    have ih := ih h2
    rcases int_lt_or z b with hz | hz
    · have e1 : btw (z :: K) b c = btw K b c := by
        unfold btw; rw [List.filter_cons_of_neg (by simp; omega)]
      rw [e1]
      by_cases ha : a ≤ z
      · have e2 : btw (z :: K) a b = z :: btw K a b := by unfold btw; rw [List.filter_cons_of_pos (by simp; omega)]
        have e3 : btw (z :: K) a c = z :: btw K a c := by unfold btw; rw [List.filter_cons_of_pos (by simp; omega)]
        rw [e2, e3, List.cons_append, ih]
      · have e2 : btw (z :: K) a b = btw K a b := by unfold btw; rw [List.filter_cons_of_neg (by simp; omega)]
        have e3 : btw (z :: K) a c = btw K a c := by unfold btw; rw [List.filter_cons_of_neg (by simp; omega)]
        rw [e2, e3, ih]
    · have e0 : btw (z :: K) a b = [] := by
        unfold btw
        rw [List.filter_eq_nil_iff]
        intro y hy
        have : z ≤ y := by
          rcases List.mem_cons.1 hy with rfl | hy
          · exact Int.le_refl _
          · have := h1 y hy; omega
        simp; omega
      rw [e0, List.nil_append]
      unfold btw
      apply List.filter_congr
      intro y hy
      have : z ≤ y := by
        rcases List.mem_cons.1 hy with rfl | hy
        · exact Int.le_refl _
        · have := h1 y hy; omega
      rw [Bool.eq_iff_iff]; simp; omega
theorem btw_nil {K : List Int} {a b : Int} (h : b ≤ a) : btw K a b = [] := by
  unfold btw
  rw [List.filter_eq_nil_iff]
  intro y _; simp; omega
theorem btw_all {K : List Int} (h : kyB K = true) : btw K 0 64 = K := by
  unfold btw
  rw [List.filter_eq_self]
  intro z hz
  have := (ky_iff.1 h).1 z hz
  simp; omega

/-! ### scans -/
/-- a scan: the next position, the keys that were told -/
structure Sc where
  x : Int
  t : List Int
def toldB (s : Sc) : Bool := s.t.all fun z => decide (z < s.x)
def scB (s : Sc) : Bool := toldB s && decide (0 ≤ s.x ∧ s.x ≤ 64) && kyB s.t
theorem scB_iff (s : Sc) : scB s = true ↔ (∀ z ∈ s.t, z < s.x) ∧ (0 ≤ s.x ∧ s.x ≤ 64) ∧ kyB s.t = true := by
  simp only [scB, toldB, Bool.and_eq_true, List.all_eq_true, decide_eq_true_eq, and_assoc]
theorem toldB_no {s : Sc} {k : Nat} (hk : k < s.t.length) (h : s.x ≤ gt s.t k) : scB s = false := by
  have : toldB s = false := by
    unfold toldB
    rw [List.all_eq_false]
    exact ⟨gt s.t k, by rw [gt_get hk]; exact List.getElem_mem _, by simp; omega⟩
  simp only [scB, this, Bool.false_and]
theorem toldB_yes {s : Sc} (h : ∀ k, k < s.t.length → gt s.t k < s.x) : toldB s = true := by
  unfold toldB
  rw [List.all_eq_true]
  intro z hz
  obtain ⟨k, hk, rfl⟩ := List.getElem_of_mem hz
  rw [decide_eq_true_eq, ← gt_get hk]; exact h k hk
theorem sc_len {s : Sc} (h : scB s = true) : s.t.length ≤ 64 := by
  have hk := ((scB_iff s).1 h).2.2
  have hp : ∀ i, i < s.t.length → (i : Int) ≤ gt s.t i := fun i hi => by
    induction i with
    | zero => have := (ky_pt hk hi).1; omega
    | succ i ih => have h1 := ih (by omega); have h2 := ky_step hk hi; omega
  rcases Nat.lt_or_ge 64 s.t.length with h' | h'
  · have h1 := hp 64 h'
    have h2 := ky_pt hk (k := 64) h'
    omega
  · exact h'
theorem ky_len {K : List Int} (h : kyB K = true) : K.length ≤ 64 := sc_len (s := ⟨64, K⟩) ((scB_iff _).2 ⟨fun z hz => ((ky_iff.1 h).1 z hz).2, by simp, h⟩)
def doneB (s : Sc) : Bool := scB s && decide (s.x = 64)
/-- the position behind the range that holds position p -/
def nxE (L : List Ls) (p : Int) : Int := if p ≤ (ofL L p).e then (ofL L p).e + 1 else 64
theorem nx_bd {L : List Ls} (h : lvB L = true) {p : Int} (h1 : p < 64) : p < nxE L p ∧ nxE L p ≤ 64 := by
  have := lv_e h (at_lt (by have := (lv_len h).1; omega) p)
  unfold nxE ofL
  split <;> omega
/-- .. is held by one lease -/
theorem nx_same {L : List Ls} (h : lvB L = true) {p k : Int} (h1 : p ≤ k) (h2 : k < nxE L p) (h3 : nxE L p ≤ 64) : ofL L k = ofL L p := by
  have hl := (lv_len h).1
  have hp := fd_le L p
  rcases Nat.lt_or_ge (fdL L p) L.length with hf | hf
  · have ha := fd_at hf
    have e : ofL L p = gl L (fdL L p) := by unfold ofL atL; rw [if_pos hf]
    have hk : k ≤ (gl L (fdL L p)).e := by unfold nxE at h2; rw [e, if_pos ha] at h2; omega
    have e2 : fdL L k = fdL L p := fd_eq (by omega) (fun i hi => by have := fd_below hi; omega) (fun _ => hk)
    unfold ofL atL
    rw [e2]
  · have e2 : fdL L k = L.length := fd_eq (Nat.le_refl _) (fun i hi => by have := fd_below (L := L) (key := p) (i := i) (by omega); omega) (fun h => by omega)
    unfold ofL atL
    rw [e2, if_neg (by omega), if_neg (by omega)]
/-- the lease of the position behind is a later one -/
theorem nx_fd {L : List Ls} (h : lvB L = true) {p : Int} (hx : nxE L p < 64) : fdL L p < fdL L (nxE L p) := by
  have hl := (lv_len h).1
  have hp := fd_le L p
  rcases Nat.lt_or_ge (fdL L p) L.length with hf | hf
  · have e : ofL L p = gl L (fdL L p) := by unfold ofL atL; rw [if_pos hf]
    have hx2 : nxE L p = (gl L (fdL L p)).e + 1 := by unfold nxE; rw [e, if_pos (fd_at hf)]
    rcases Nat.lt_or_ge (fdL L p) (fdL L (nxE L p)) with h' | h'
    · exact h'
    · exfalso
      have h1 := fd_at (L := L) (key := nxE L p) (by omega)
      rcases Nat.eq_or_lt_of_le h' with h2 | h2
      · rw [h2] at h1; omega
      · have := lv_lt h h2 hf; omega
  · exfalso
    have e : ofL L p = gl L 0 := by unfold ofL atL; rw [if_neg (by omega)]
    have h0 := fd_below (L := L) (key := p) (i := 0) (by omega)
    unfold nxE at hx
    rw [e, if_neg (by omega)] at hx
    omega
theorem nx_last {L : List Ls} (h : lvB L = true) {p : Int} (hf : fdL L p = L.length) : nxE L p = 64 := by
  have hl := (lv_len h).1
  have e : ofL L p = gl L 0 := by unfold ofL atL; rw [if_neg (by omega)]
  have h0 := fd_below (L := L) (key := p) (i := 0) (by omega)
  unfold nxE
  rw [e, if_neg (by omega)]
/-- a step -/
def stS (L : List Ls) (K : List Int) (s : Sc) : Sc := ⟨nxE L s.x, s.t ++ btw K s.x (nxE L s.x)⟩
theorem stS_ok {L : List Ls} {K : List Int} {s : Sc} (h : lvB L = true) (hK : kyB K = true) (hs : scB s = true) (hx : s.x < 64) : scB (stS L K s) = true := by
  obtain ⟨h1, h2, h3⟩ := (scB_iff s).1 hs
  have hn := nx_bd h hx
  obtain ⟨a1, a2⟩ := ky_iff.1 h3
  obtain ⟨b1, b2⟩ := ky_iff.1 (ky_btw hK s.x (nxE L s.x))
  refine (scB_iff _).2 ⟨fun z hz => ?_, ⟨by show 0 ≤ nxE L s.x; omega, hn.2⟩, ky_iff.2 ⟨fun z hz => ?_, List.pairwise_append.2 ⟨a2, b2, fun y hy z hz => ?_⟩⟩⟩
  · show z < nxE L s.x
    rcases List.mem_append.1 hz with hz | hz
    · have := h1 z hz; omega
    · exact (mem_btw.1 hz).2.2
  · rcases List.mem_append.1 hz with hz | hz
    · exact a1 z hz
    · exact b1 z hz
  · have := h1 y hy
    have := (mem_btw.1 hz).2.1
    omega
def stOk (L : List Ls) (K : List Int) (s : Sc) : Bool := lvB L && kyB K && scB s
theorem stOk_iff (L : List Ls) (K : List Int) (s : Sc) : stOk L K s = true ↔ lvB L = true ∧ kyB K = true ∧ scB s = true := by simp [stOk, and_assoc]
/-- what ScanStep answers -/
def stR (L : List Ls) (K : List Int) (s : Sc) : Sc × Bool := if stOk L K s = true then (if s.x = 64 then (s, false) else (stS L K s, true)) else (⟨0, []⟩, false)
theorem stR_bad {L : List Ls} {K : List Int} {s : Sc} (h : stOk L K s = false) : stR L K s = (⟨0, []⟩, false) := by unfold stR; rw [if_neg (by rw [h]; decide)]
theorem stR_end {L : List Ls} {K : List Int} {s : Sc} (h : stOk L K s = true) (hx : s.x = 64) : stR L K s = (s, false) := by unfold stR; rw [if_pos h, if_pos hx]
theorem stR_yes {L : List Ls} {K : List Int} {s : Sc} (h : stOk L K s = true) (hx : ¬ s.x = 64) : stR L K s = (stS L K s, true) := by unfold stR; rw [if_pos h, if_neg hx]
theorem stR_ok {L : List Ls} {K : List Int} {s : Sc} (h : (stR L K s).2 = true) : stOk L K s = true ∧ s.x < 64 ∧ stR L K s = (stS L K s, true) := by
  cases hk : stOk L K s
  · rw [stR_bad hk] at h; cases h
  · by_cases hx : s.x = 64
    · rw [stR_end hk hx] at h; cases h
    · have := ((scB_iff _).1 ((stOk_iff _ _ _).1 hk).2.2).2.1
      exact ⟨rfl, by omega, stR_yes hk hx⟩
theorem stR_len (L : List Ls) (K : List Int) (s : Sc) : (stR L K s).1.t.length ≤ s.t.length + K.length := by
  unfold stR
  split
  · split
    · simp
    · show (s.t ++ btw K s.x (nxE L s.x)).length ≤ _
      rw [List.length_append]; have := btw_len K s.x (nxE L s.x); omega
  · simp

/-! ### whole scans -/
/-- the next position after n steps -/
def posN (L : List Ls) : Nat → Int
  | 0 => 0
  | n + 1 => nxE L (posN L n)
/-- the scan after n steps -/
def runS (L : List Ls) (K : List Int) : Nat → Sc
  | 0 => ⟨0, []⟩
  | n + 1 => stS L K (runS L K n)
theorem runS_x (L : List Ls) (K : List Int) (n : Nat) : (runS L K n).x = posN L n := by
  induction n with
  | zero => rfl
  | succ n ih => show nxE L (runS L K n).x = _; rw [ih]; rfl
theorem pos_bd {L : List Ls} (h : lvB L = true) {n : Nat} (hn : ∀ j, j < n → posN L j < 64) : 0 ≤ posN L n ∧ posN L n ≤ 64 ∧ (n : Int) ≤ posN L n := by
  induction n with
  | zero => simp [posN]
  | succ n ih =>
    obtain ⟨h1, h2, h3⟩ := ih fun j hj => hn j (by omega)
    have := nx_bd h (hn n (by omega))
    show 0 ≤ nxE L (posN L n) ∧ nxE L (posN L n) ≤ 64 ∧ _ ≤ nxE L (posN L n)
    omega
theorem run_told {L : List Ls} {K : List Int} (h : lvB L = true) (hK : kyB K = true) {n : Nat} (hn : ∀ j, j < n → posN L j < 64) : (runS L K n).t = btw K 0 (posN L n) := by
  induction n with
  | zero => rw [posN, btw_nil (Int.le_refl _)]; rfl
  | succ n ih =>
    have hb := pos_bd (n := n) h (fun j hj => hn j (show j < n + 1 by omega))
    have hx := nx_bd h (hn n (by omega))
    show (runS L K n).t ++ btw K (runS L K n).x (nxE L (runS L K n).x) = btw K 0 (nxE L (posN L n))
    rw [ih fun j hj => hn j (by omega), runS_x, btw_app (ky_iff.1 hK).2 hb.1 (by omega)]
theorem run_ok {L : List Ls} {K : List Int} (h : lvB L = true) (hK : kyB K = true) {n : Nat} (hn : ∀ j, j < n → posN L j < 64) : scB (runS L K n) = true := by
  induction n with
  | zero => exact (scB_iff _).2 ⟨fun z hz => (by cases hz), (by simp [runS]), rfl⟩
  | succ n ih => exact stS_ok h hK (ih fun j hj => hn j (by omega)) (by rw [runS_x]; exact hn n (by omega))
/-- at most one step more than there are leases -/
theorem run_few {L : List Ls} (h : lvB L = true) {n : Nat} (hn : ∀ j, j < n → posN L j < 64) : n ≤ fdL L (posN L n) ∨ (posN L n = 64 ∧ n ≤ L.length + 1) := by
  induction n with
  | zero => exact .inl (Nat.zero_le _)
  | succ n ih =>
    have hp := hn n (by omega)
    rcases ih fun j hj => hn j (by omega) with h1 | ⟨h1, _⟩
    · show n + 1 ≤ fdL L (nxE L (posN L n)) ∨ (nxE L (posN L n) = 64 ∧ _)
      have hl := fd_le L (posN L n)
      have hb := nx_bd h hp
      rcases int_lt_or (nxE L (posN L n)) 64 with hx | hx
      · have := nx_fd h hx
        exact .inl (by omega)
      · exact .inr ⟨by omega, by omega⟩
    · omega
/-- the number of steps of a whole scan -/
def allN (L : List Ls) : Nat := (List.range 65).findIdx fun n => decide (posN L n = 64)
theorem allN_is {L : List Ls} (h : lvB L = true) : posN L (allN L) = 64 ∧ ∀ j, j < allN L → posN L j < 64 := by
  have hall : ∀ n, n ≤ 64 → (∀ j, j < n → posN L j < 64) ∨ ∃ j, j < 65 ∧ posN L j = 64 := by
    intro n
    induction n with
    | zero => intro _; exact .inl fun j hj => by omega
    | succ n ih =>
      intro hn
      rcases ih (by omega) with h1 | h1
      · have := pos_bd h h1
        by_cases he : posN L n = 64
        · exact .inr ⟨n, by omega, he⟩
        · refine .inl fun j hj => ?_
          rcases Nat.lt_or_ge j n with h' | h'
          · exact h1 j h'
          · obtain rfl : j = n := by omega
            omega
      · exact .inr h1
  have hex : ∃ j, j < 65 ∧ posN L j = 64 := by
    rcases hall 64 (Nat.le_refl _) with h1 | h1
    · have := pos_bd h h1
      exact ⟨64, by omega, by omega⟩
    · exact h1
  obtain ⟨j, hj, he⟩ := hex
  have hlt : (List.range 65).findIdx (fun n => decide (posN L n = 64)) < (List.range 65).length := List.findIdx_lt_length_of_exists ⟨j, by simpa using hj, by simpa using he⟩
  have h1 := List.findIdx_getElem (w := hlt)
  have eR : ∀ (i : Nat) (hi : i < (List.range 65).length), (List.range 65)[i] = i := fun i hi => by simp
  rw [decide_eq_true_eq, eR] at h1
  refine ⟨h1, fun i hi => ?_⟩
  induction i using Nat.strongRecOn with
  | ind i ih =>
    have hb := pos_bd h (fun j hj => ih j hj (by omega))
    have h2 := List.not_of_lt_findIdx hi
    rw [eR, decide_eq_false_iff_not] at h2
    omega
theorem allN_eq {L : List Ls} (h : lvB L = true) {n : Nat} (hn : ∀ j, j < n → posN L j < 64) (he : ¬ posN L n < 64) : allN L = n := by
  obtain ⟨h1, h2⟩ := allN_is h
  rcases Nat.lt_trichotomy (allN L) n with h' | h' | h'
  · have := hn _ h'; omega
  · exact h'
  · exact absurd (h2 n h') he
theorem allN_le {L : List Ls} (h : lvB L = true) : 1 ≤ allN L ∧ allN L ≤ L.length + 1 ∧ allN L ≤ 64 := by
  obtain ⟨h1, h2⟩ := allN_is h
  have hb := pos_bd h h2
  have hf := run_few h h2
  have hl := fd_le L (posN L (allN L))
  refine ⟨?_, by omega, by omega⟩
  rcases Nat.eq_zero_or_pos (allN L) with h0 | h0
  · rw [h0] at h1; simp [posN] at h1
  · exact h0
theorem all_told {L : List Ls} {K : List Int} (h : lvB L = true) (hK : kyB K = true) : (runS L K (allN L)).t = K := by
  obtain ⟨h1, h2⟩ := allN_is h
  rw [run_told h hK h2, h1, btw_all hK]
def allOk (L : List Ls) (K : List Int) : Bool := lvB L && kyB K
theorem allOk_iff (L : List Ls) (K : List Int) : allOk L K = true ↔ lvB L = true ∧ kyB K = true := by simp [allOk]
/-- what ScanAll answers -/
def allR (L : List Ls) (K : List Int) : List Int × Int := if allOk L K = true then (K, ((allN L : Nat) : Int)) else ([], -1)
theorem allR_bad {L : List Ls} {K : List Int} (h : allOk L K = false) : allR L K = ([], -1) := by unfold allR; rw [if_neg (by rw [h]; decide)]
theorem allR_ok {L : List Ls} {K : List Int} (h : allOk L K = true) : allR L K = (K, ((allN L : Nat) : Int)) := by unfold allR; rw [if_pos h]
theorem allR_len (L : List Ls) (K : List Int) : (allR L K).1.length ≤ K.length := by unfold allR; split <;> simp

/-! ### a scan while leases and keys change -/
/-- told are only keys of A or B; what is in both and was passed is told -/
structure MvIs (A B : List Int) (s : Sc) : Prop where
  ok : scB s = true
  from_ : ∀ z ∈ s.t, z ∈ A ∨ z ∈ B
  told : ∀ z, 0 ≤ z → z < s.x → z ∈ A → z ∈ B → z ∈ s.t
theorem mvIs_new (A B : List Int) : MvIs A B ⟨0, []⟩ := ⟨(scB_iff _).2 ⟨fun z hz => (by cases hz), (by simp), rfl⟩, fun z hz => (by cases hz), fun z h1 h2 => (by simp only at h2; omega)⟩
theorem MvIs.step {A B K : List Int} {L : List Ls} {s : Sc} (h : MvIs A B s) (hL : lvB L = true) (hK : kyB K = true) (hx : s.x < 64) (hin : ∀ z ∈ K, z ∈ A ∨ z ∈ B) (hall : ∀ z, z ∈ A → z ∈ B → z ∈ K) : MvIs A B (stS L K s) := by
  refine ⟨stS_ok hL hK h.ok hx, fun z hz => ?_, fun z h0 hz ha hb => ?_⟩
  · rcases List.mem_append.1 hz with hz | hz
    · exact h.from_ z hz
    · exact hin z (mem_btw.1 hz).1
  · rcases int_lt_or z s.x with h' | h'
    · exact List.mem_append.2 (.inl (h.told z h0 h' ha hb))
    · exact List.mem_append.2 (.inr (mem_btw.2 ⟨hall z ha hb, h', hz⟩))
end Go.Proofs.Ytenhaccdiamagaa
