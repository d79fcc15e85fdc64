/- Leases as lists: what the functions of chapter 12 compute. -/
import Derived.Test.YtenhaccdiamagaaMA
namespace Go.Proofs.Ytenhaccdiamagaa
set_option linter.unusedVariables false

structure Ls where
  e : Int
  o : Int
  u : Int

def gl (L : List Ls) (i : Nat) : Ls := L.getD i ⟨0, 0, 0⟩
theorem gl_get {L : List Ls} {i : Nat} (h : i < L.length) : gl L i = L[i] := by simp [gl, List.getElem?_eq_getElem h]
theorem gl_ext {L M : List Ls} (hl : L.length = M.length) (h : ∀ i, i < L.length → gl L i = gl M i) : L = M := by
  apply List.ext_getElem hl
  intro i h1 h2
  have := h i h1
  rwa [gl_get h1, gl_get h2] at this
theorem gl_set_eq {L : List Ls} {i : Nat} (x : Ls) (h : i < L.length) : gl (L.set i x) i = x := by
  rw [gl_get (by simpa using h)]; simp
theorem gl_set_ne {L : List Ls} {i j : Nat} (x : Ls) (h : i ≠ j) : gl (L.set i x) j = gl L j := by
  simp [gl, List.getElem?_set_ne h]
theorem gl_out {L : List Ls} {i : Nat} (h : L.length ≤ i) : gl L i = ⟨0, 0, 0⟩ := by simp [gl, List.getElem?_eq_none h]

def tmB (u : Int) : Bool := decide (0 ≤ u ∧ u ≤ 999)
theorem tmB_iff (u : Int) : tmB u = true ↔ 0 ≤ u ∧ u ≤ 999 := by simp [tmB]
theorem tmB_no (u : Int) : tmB u = false ↔ u < 0 ∨ 999 < u := by simp [tmB]; omega
/-- each of the three numbers is in its range -/
def lzB (x : Ls) : Bool := ptB x.e && ptB x.o && tmB x.u
theorem lzB_iff (x : Ls) : lzB x = true ↔ (0 ≤ x.e ∧ x.e < 64) ∧ (0 ≤ x.o ∧ x.o < 64) ∧ 0 ≤ x.u ∧ x.u ≤ 999 := by
  simp [lzB, ptB_iff, tmB_iff, and_assoc]
def okL (L : List Ls) (k : Nat) : Bool := lzB (gl L k) && (decide (k = 0) || decide ((gl L (k - 1)).e < (gl L k).e))
def okTo (L : List Ls) : Nat → Bool
  | 0 => true
  | k + 1 => okTo L k && okL L k
/-- the leases are valid -/
def lvB (L : List Ls) : Bool := decide (1 ≤ L.length ∧ L.length ≤ 12) && okTo L L.length

theorem okTo_iff (L : List Ls) (n : Nat) : okTo L n = true ↔ ∀ k, k < n → okL L k = true := by
  induction n with
  | zero => simp [okTo]
  | succ n ih =>
    simp only [okTo, Bool.and_eq_true, ih]
    refine ⟨fun h k hk => ?_, fun h => ⟨fun k hk => h k (by omega), h n (by omega)⟩⟩
    rcases Nat.lt_or_ge k n with h' | h'
    · exact h.1 k h'
    · obtain rfl : k = n := by omega
      exact h.2
theorem okTo_no {L : List Ls} {n k : Nat} (hk : k < n) (h : okL L k = false) : okTo L n = false := by
  rcases hb : okTo L n with _ | _
  · rfl
  · rw [(okTo_iff L n).1 hb k hk] at h; cases h
theorem lvB_no {L : List Ls} {k : Nat} (hk : k < L.length) (h : okL L k = false) : lvB L = false := by
  simp only [lvB, okTo_no hk h, Bool.and_false]
theorem lvB_no_ls {L : List Ls} {k : Nat} (hk : k < L.length) (h : lzB (gl L k) = false) : lvB L = false := lvB_no hk (by simp only [okL, h, Bool.false_and])
theorem lvB_no_lt {L : List Ls} {j : Nat} (hk : j + 1 < L.length) (h : (gl L (j + 1)).e ≤ (gl L j).e) : lvB L = false := by
  refine lvB_no hk ?_
  simp only [okL, Nat.add_sub_cancel, Bool.and_eq_false_iff, Bool.or_eq_false_iff, decide_eq_false_iff_not]
  exact .inr ⟨by omega, by omega⟩
theorem lvB_no_len {L : List Ls} (h : ¬ (1 ≤ L.length ∧ L.length ≤ 12)) : lvB L = false := by
  simp only [lvB, Bool.and_eq_false_iff, decide_eq_false_iff_not]; exact .inl h
theorem lvB_yes {L : List Ls} (h1 : 1 ≤ L.length) (h2 : L.length ≤ 12) (h : okTo L L.length = true) : lvB L = true := by
  simp only [lvB, h, Bool.and_true, decide_eq_true_eq]; exact ⟨h1, h2⟩
theorem okTo_z {L : List Ls} (h : lzB (gl L 0) = true) : okTo L 1 = true := by simp [okTo, okL, h]
theorem okTo_s {L : List Ls} {j : Nat} (h : okTo L (j + 1) = true) (hp : lzB (gl L (j + 1)) = true) (hl : (gl L j).e < (gl L (j + 1)).e) : okTo L (j + 1 + 1) = true := by
  rw [okTo, h]; simp only [Bool.true_and, okL, hp, Nat.add_sub_cancel, Bool.or_eq_true, decide_eq_true_eq]; exact .inr hl

theorem lv_len {L : List Ls} (h : lvB L = true) : 1 ≤ L.length ∧ L.length ≤ 12 := by
  simp only [lvB, Bool.and_eq_true, decide_eq_true_eq] at h; exact h.1
theorem lv_ok {L : List Ls} (h : lvB L = true) {k : Nat} (hk : k < L.length) : okL L k = true := by
  simp only [lvB, Bool.and_eq_true] at h; exact (okTo_iff _ _).1 h.2 k hk
theorem lv_ls {L : List Ls} (h : lvB L = true) {k : Nat} (hk : k < L.length) : lzB (gl L k) = true := by
  have := lv_ok h hk; simp only [okL, Bool.and_eq_true] at this; exact this.1
theorem lv_e {L : List Ls} (h : lvB L = true) {k : Nat} (hk : k < L.length) : 0 ≤ (gl L k).e ∧ (gl L k).e < 64 := ((lzB_iff _).1 (lv_ls h hk)).1
theorem lv_o {L : List Ls} (h : lvB L = true) {k : Nat} (hk : k < L.length) : 0 ≤ (gl L k).o ∧ (gl L k).o < 64 := ((lzB_iff _).1 (lv_ls h hk)).2.1
theorem lv_u {L : List Ls} (h : lvB L = true) {k : Nat} (hk : k < L.length) : 0 ≤ (gl L k).u ∧ (gl L k).u ≤ 999 := ((lzB_iff _).1 (lv_ls h hk)).2.2
theorem lv_step {L : List Ls} (h : lvB L = true) {k : Nat} (hk : k + 1 < L.length) : (gl L k).e < (gl L (k + 1)).e := by
  have := lv_ok h hk
  simp only [okL, Bool.and_eq_true, Bool.or_eq_true, decide_eq_true_eq, Nat.add_sub_cancel] at this
  rcases this.2 with h' | h'
  · omega
  · exact h'
theorem lv_lt {L : List Ls} (h : lvB L = true) {i j : Nat} (hij : i < j) (hj : j < L.length) : (gl L i).e < (gl L j).e := by
  induction j with
  | zero => omega
  | succ j ih =>
    have h1 := lv_step h hj
    rcases Nat.lt_or_ge i j with h' | h'
    · have := ih h' (by omega); omega
    · obtain rfl : i = j := by omega
      exact h1
theorem lv_mono {L : List Ls} (h : lvB L = true) {i j : Nat} (hi : i < L.length) (hj : j < L.length) : (gl L i).e < (gl L j).e ↔ i < j := by
  refine ⟨fun hh => ?_, fun hh => lv_lt h hh hj⟩
  rcases Nat.lt_or_ge i j with h' | h'
  · exact h'
  · rcases Nat.eq_or_lt_of_le h' with h' | h'
    · subst h'; omega
    · have := lv_lt h h' hi; omega
theorem lv_of {L : List Ls} (h1 : 1 ≤ L.length) (h2 : L.length ≤ 12) (hs : ∀ k, k < L.length → lzB (gl L k) = true) (hl : ∀ k, k + 1 < L.length → (gl L k).e < (gl L (k + 1)).e) : lvB L = true := by
  refine lvB_yes h1 h2 ((okTo_iff _ _).2 fun k hk => ?_)
  simp only [okL, hs k hk, Bool.true_and, Bool.or_eq_true, decide_eq_true_eq]
  rcases k with _ | k
  · exact .inl rfl
  · exact .inr (hl k hk)

/-- the first index whose end is not below a key; the length if there is none -/
def fdL (L : List Ls) (key : Int) : Nat := L.findIdx fun x => decide (key ≤ x.e)
theorem fd_le (L : List Ls) (key : Int) : fdL L key ≤ L.length := List.findIdx_le_length
theorem fd_below {L : List Ls} {key : Int} {i : Nat} (h : i < fdL L key) : (gl L i).e < key := by
  have hl := fd_le L key
  have := List.not_of_lt_findIdx h
  rw [gl_get (by omega)]
  simpa using this
theorem fd_at {L : List Ls} {key : Int} (h : fdL L key < L.length) : key ≤ (gl L (fdL L key)).e := by
  have := List.findIdx_getElem (w := h)
  rw [gl_get h]
  exact of_decide_eq_true this
theorem fd_eq {L : List Ls} {key : Int} {k : Nat} (hk : k ≤ L.length) (hb : ∀ i, i < k → (gl L i).e < key) (ha : k < L.length → key ≤ (gl L k).e) : fdL L key = k := by
  rcases Nat.lt_trichotomy (fdL L key) k with h | h | h
  · have h1 := fd_at (L := L) (key := key) (by omega)
    have h2 := hb _ h
    omega
  · exact h
  · have h1 := fd_below h
    have h2 := ha (by have := fd_le L key; omega)
    omega
/-- the index of the lease that holds a key -/
def atL (L : List Ls) (key : Int) : Nat := if fdL L key < L.length then fdL L key else 0
theorem at_lt {L : List Ls} (h : 0 < L.length) (key : Int) : atL L key < L.length := by unfold atL; split <;> omega
theorem at_mod {L : List Ls} (h : 0 < L.length) (key : Int) : fdL L key % L.length = atL L key := by
  unfold atL
  split
  · exact Nat.mod_eq_of_lt (by assumption)
  · have := fd_le L key
    rw [show fdL L key = L.length by omega, Nat.mod_self]
/-- the lease that holds a key -/
def ofL (L : List Ls) (key : Int) : Ls := gl L (atL L key)
theorem fd_whole {L : List Ls} (h : lvB L = true) (key : Int) : ((ofL L key).e = key) ↔ (fdL L key < L.length ∧ (gl L (fdL L key)).e = key) := by
  have hl := (lv_len h).1
  unfold ofL atL
  by_cases hf : fdL L key < L.length
  · simp [hf]
  · simp only [hf, if_false, false_and, iff_false]
    have := fd_below (L := L) (key := key) (i := 0) (by have := fd_le L key; omega)
    omega
theorem fd_end {L : List Ls} (h : lvB L = true) {i : Nat} (hi : i < L.length) : fdL L (gl L i).e = i := fd_eq (by omega) (fun j hj => lv_lt h hj hi) (fun _ => Int.le_refl _)
theorem at_end {L : List Ls} (h : lvB L = true) {i : Nat} (hi : i < L.length) : atL L (gl L i).e = i := by unfold atL; rw [fd_end h hi, if_pos hi]

/-- the lists agree in their ends -/
def SameE (L M : List Ls) : Prop := L.length = M.length ∧ ∀ i, i < L.length → (gl L i).e = (gl M i).e
theorem SameE.fd {L M : List Ls} (h : SameE L M) (key : Int) : fdL L key = fdL M key := by
  refine fd_eq (by rw [h.1]; exact fd_le M key) (fun i hi => ?_) (fun hk => ?_)
  · rw [h.2 i (by have := fd_le M key; have := h.1; omega)]; exact fd_below hi
  · rw [h.2 _ hk]; exact fd_at (by have := h.1; omega)
theorem SameE.at_ {L M : List Ls} (h : SameE L M) (key : Int) : atL L key = atL M key := by unfold atL; rw [h.fd key, h.1]
theorem SameE.lv {L M : List Ls} (h : SameE L M) (hv : lvB L = true) (ho : ∀ i, i < M.length → (0 ≤ (gl M i).o ∧ (gl M i).o < 64) ∧ 0 ≤ (gl M i).u ∧ (gl M i).u ≤ 999) : lvB M = true := by
  obtain ⟨h1, h2⟩ := lv_len hv
  have hl := h.1
  refine lv_of (by omega) (by omega) (fun k hk => ?_) (fun k hk => ?_)
  · rw [lzB_iff, ← h.2 k (by omega)]; exact ⟨lv_e hv (by omega), ho k hk⟩
  · rw [← h.2 k (by omega), ← h.2 (k + 1) (by omega)]; exact lv_step hv (by omega)
theorem sameE_set {L : List Ls} {k : Nat} {x : Ls} (hx : x.e = (gl L k).e) : SameE L (L.set k x) := by
  refine ⟨by simp, fun i hi => ?_⟩
  by_cases h : k = i
  · subst h; rw [gl_set_eq _ hi, hx]
  · rw [gl_set_ne _ h]
theorem lv_set {L : List Ls} (hv : lvB L = true) {k : Nat} {x : Ls} (hx : x.e = (gl L k).e) (ho : 0 ≤ x.o ∧ x.o < 64) (hu : 0 ≤ x.u ∧ x.u ≤ 999) : lvB (L.set k x) = true := by
  refine (sameE_set hx).lv hv fun i hi => ?_
  have hi' : i < L.length := by simpa using hi
  by_cases h : k = i
  · subst h; rw [gl_set_eq _ hi']; exact ⟨ho, hu⟩
  · rw [gl_set_ne _ h]; exact ⟨lv_o hv hi', lv_u hv hi'⟩

/-! ### putting a lease in between -/
def insL (L : List Ls) (k : Nat) (x : Ls) : List Ls := L.take k ++ x :: L.drop k
theorem insL_len {L : List Ls} {k : Nat} (h : k ≤ L.length) (x : Ls) : (insL L k x).length = L.length + 1 := by simp [insL]; omega
theorem ins_lt {L : List Ls} {k i : Nat} (h : k ≤ L.length) (x : Ls) (hi : i < k) : gl (insL L k x) i = gl L i := by
  unfold gl insL
  rw [List.getD_eq_getElem?_getD, List.getElem?_append_left (by simp; omega), List.getElem?_take_of_lt hi, List.getD_eq_getElem?_getD]
theorem ins_eq {L : List Ls} {k : Nat} (h : k ≤ L.length) (x : Ls) : gl (insL L k x) k = x := by
  unfold gl insL
  rw [List.getD_eq_getElem?_getD, List.getElem?_append_right (by simp; omega)]
  simp [Nat.min_eq_left h]
theorem ins_gt {L : List Ls} {k i : Nat} (h : k ≤ L.length) (x : Ls) (hi : k ≤ i) : gl (insL L k x) (i + 1) = gl L i := by
  unfold gl insL
  rw [List.getD_eq_getElem?_getD, List.getElem?_append_right (by simp; omega), List.length_take, Nat.min_eq_left h, show i + 1 - k = (i - k) + 1 by omega, List.getElem?_cons_succ, List.getElem?_drop, show k + (i - k) = i by omega, List.getD_eq_getElem?_getD]
theorem lv_ins {L : List Ls} (hv : lvB L = true) {x : Ls} (hx : lzB x = true) (hl : L.length < 12) (hne : (ofL L x.e).e ≠ x.e) : lvB (insL L (fdL L x.e) x) = true := by
  have hk := fd_le L x.e
  have hlen := insL_len hk x
  have hn1 := (lv_len hv).1
  refine lv_of (by omega) (by omega) (fun i hi => ?_) (fun i hi => ?_)
  · rcases Nat.lt_trichotomy i (fdL L x.e) with h | h | h
    · rw [ins_lt hk x h]; exact lv_ls hv (by omega)
    · rw [h, ins_eq hk x]; exact hx
    · obtain ⟨i, rfl⟩ : ∃ j, i = j + 1 := ⟨i - 1, by omega⟩
      rw [ins_gt hk x (by omega)]; exact lv_ls hv (by omega)
  · rcases Nat.lt_trichotomy (i + 1) (fdL L x.e) with h | h | h
    · rw [ins_lt hk x h, ins_lt hk x (by omega)]; exact lv_step hv (by omega)
    · rw [ins_lt hk x (by omega), h, ins_eq hk x]; exact fd_below (by omega)
    · rw [ins_gt hk x (by omega)]
      rcases Nat.lt_or_ge (fdL L x.e) i with h' | h'
      · obtain ⟨i, rfl⟩ : ∃ j, i = j + 1 := ⟨i - 1, by omega⟩
        rw [ins_gt hk x (by omega)]; exact lv_step hv (by omega)
      · obtain rfl : i = fdL L x.e := by omega
        rw [ins_eq hk x]
        have h1 := fd_at (L := L) (key := x.e) (by omega)
        have h2 : ¬ (gl L (fdL L x.e)).e = x.e := fun h3 => hne ((fd_whole hv _).2 ⟨by omega, h3⟩)
        omega
/-- which lease holds a key once one lies in between -/
theorem of_ins {L : List Ls} (hv : lvB L = true) {x : Ls} (hx : lzB x = true) (hl : L.length < 12) (hne : (ofL L x.e).e ≠ x.e) (key : Int) :
    ofL (insL L (fdL L x.e) x) key = ofL L key ∨ (ofL (insL L (fdL L x.e) x) key = x ∧ atL L key = atL L x.e) := by
  have hk := fd_le L x.e
  have hlen := insL_len hk x
  have hn1 := (lv_len hv).1
  have hv2 := lv_ins hv hx hl hne
  have hkey := fd_le L key
  by_cases h1 : fdL L key < fdL L x.e
  · left
    have e : fdL (insL L (fdL L x.e) x) key = fdL L key := fd_eq (by omega) (fun i hi => by rw [ins_lt hk x (by omega)]; exact fd_below hi) (fun _ => by rw [ins_lt hk x h1]; exact fd_at (by omega))
    unfold ofL atL
    rw [e, if_pos (by omega), if_pos (by omega), ins_lt hk x h1]
  · by_cases h2 : key ≤ x.e
    · right
      have e : fdL (insL L (fdL L x.e) x) key = fdL L x.e := fd_eq (by omega) (fun i hi => by rw [ins_lt hk x hi]; exact fd_below (by omega)) (fun _ => by rw [ins_eq hk x]; exact h2)
      have e2 : fdL L key = fdL L x.e := by
        rcases Nat.lt_or_ge (fdL L x.e) (fdL L key) with h | h
        · have h3 := fd_below h
          have h4 := fd_at (L := L) (key := x.e) (by omega)
          omega
        · omega
      refine ⟨?_, by unfold atL; rw [e2]⟩
      unfold ofL atL
      rw [e, if_pos (by omega), ins_eq hk x]
    · have e : fdL (insL L (fdL L x.e) x) key = fdL L key + 1 := by
        refine fd_eq (by omega) (fun i hi => ?_) (fun hh => ?_)
        · rcases Nat.lt_trichotomy i (fdL L x.e) with h | h | h
          · rw [ins_lt hk x h]; exact fd_below (by omega)
          · rw [h, ins_eq hk x]; omega
          · obtain ⟨i, rfl⟩ : ∃ j, i = j + 1 := ⟨i - 1, by omega⟩
            rw [ins_gt hk x (by omega)]; exact fd_below (by omega)
        · rw [ins_gt hk x (by omega)]; exact fd_at (by omega)
      unfold ofL atL
      rw [e, hlen]
      by_cases h3 : fdL L key < L.length
      · left
        rw [if_pos (by omega), if_pos h3, ins_gt hk x (by omega)]
      · rw [if_neg (by omega), if_neg h3]
        by_cases h4 : fdL L x.e = 0
        · right
          refine ⟨?_, by split <;> omega⟩
          have := ins_eq hk x
          rwa [h4] at this ⊢
        · left
          rw [ins_lt hk x (by omega)]
theorem of_ins_self {L : List Ls} (hv : lvB L = true) {x : Ls} (hx : lzB x = true) (hl : L.length < 12) (hne : (ofL L x.e).e ≠ x.e) : atL (insL L (fdL L x.e) x) x.e = fdL L x.e ∧ ofL (insL L (fdL L x.e) x) x.e = x := by
  have hk := fd_le L x.e
  have hlen := insL_len hk x
  have e : fdL (insL L (fdL L x.e) x) x.e = fdL L x.e := fd_eq (by omega) (fun i hi => by rw [ins_lt hk x hi]; exact fd_below hi) (fun _ => by rw [ins_eq hk x]; exact Int.le_refl _)
  have e2 : atL (insL L (fdL L x.e) x) x.e = fdL L x.e := by unfold atL; rw [e, if_pos (by omega)]
  exact ⟨e2, by unfold ofL; rw [e2, ins_eq hk x]⟩
theorem ins_set {L : List Ls} {k : Nat} (h : k ≤ L.length) (x y : Ls) : (insL L k x).set k y = insL L k y := by
  unfold insL
  rw [List.set_append, if_neg (by simp; omega)]
  simp [Nat.min_eq_left h]

/-! ### the operations -/
/-- handing over -/
def handOk (L : List Ls) (fr at_ to ut : Int) : Bool := lvB L && ptB fr && ptB at_ && ptB to && tmB ut
def handR (L : List Ls) (fr at_ to ut : Int) : List Ls × Bool :=
  if handOk L fr at_ to ut = true then
    if (ofL L at_).o ≠ fr then (L, false)
    else if (ofL L at_).e = at_ then (L.set (atL L at_) ⟨at_, to, ut⟩, true)
    else if 12 ≤ L.length then (L, false)
    else (insL L (fdL L at_) ⟨at_, to, ut⟩, true)
  else ([], false)
theorem hand_no {L : List Ls} {fr at_ to ut : Int} (h : handOk L fr at_ to ut = false) : handR L fr at_ to ut = ([], false) := by unfold handR; rw [if_neg (by rw [h]; decide)]
theorem hand_o {L : List Ls} {fr at_ to ut : Int} (h : handOk L fr at_ to ut = true) (h1 : ¬ (ofL L at_).o = fr) : handR L fr at_ to ut = (L, false) := by unfold handR; rw [if_pos h, if_pos h1]
theorem hand_set {L : List Ls} {fr at_ to ut : Int} (h : handOk L fr at_ to ut = true) (h1 : (ofL L at_).o = fr) (h2 : (ofL L at_).e = at_) : handR L fr at_ to ut = (L.set (atL L at_) ⟨at_, to, ut⟩, true) := by
  unfold handR; rw [if_pos h, if_neg (by simpa using h1), if_pos h2]
theorem hand_full {L : List Ls} {fr at_ to ut : Int} (h : handOk L fr at_ to ut = true) (h1 : (ofL L at_).o = fr) (h2 : ¬ (ofL L at_).e = at_) (h3 : 12 ≤ L.length) : handR L fr at_ to ut = (L, false) := by
  unfold handR; rw [if_pos h, if_neg (by simpa using h1), if_neg h2, if_pos h3]
theorem hand_ins {L : List Ls} {fr at_ to ut : Int} (h : handOk L fr at_ to ut = true) (h1 : (ofL L at_).o = fr) (h2 : ¬ (ofL L at_).e = at_) (h3 : L.length < 12) : handR L fr at_ to ut = (insL L (fdL L at_) ⟨at_, to, ut⟩, true) := by
  unfold handR; rw [if_pos h, if_neg (by simpa using h1), if_neg h2, if_neg (by omega)]
theorem handOk_iff (L : List Ls) (fr at_ to ut : Int) : handOk L fr at_ to ut = true ↔ lvB L = true ∧ (0 ≤ fr ∧ fr < 64) ∧ (0 ≤ at_ ∧ at_ < 64) ∧ (0 ≤ to ∧ to < 64) ∧ 0 ≤ ut ∧ ut ≤ 999 := by
  simp only [handOk, Bool.and_eq_true, ptB_iff, tmB_iff, and_assoc]

/-- taking over -/
def takeOk (L : List Ls) (key to now ut : Int) : Bool := lvB L && ptB key && ptB to && tmB now && tmB ut
def takeR (L : List Ls) (key to now ut : Int) : List Ls × Bool :=
  if takeOk L key to now ut = true then
    if now ≤ (ofL L key).u then (L, false)
    else (L.set (atL L key) ⟨(ofL L key).e, to, ut⟩, true)
  else ([], false)
theorem take_no' {L : List Ls} {key to now ut : Int} (h : takeOk L key to now ut = false) : takeR L key to now ut = ([], false) := by unfold takeR; rw [if_neg (by rw [h]; decide)]
theorem take_keep {L : List Ls} {key to now ut : Int} (h : takeOk L key to now ut = true) (h1 : now ≤ (ofL L key).u) : takeR L key to now ut = (L, false) := by unfold takeR; rw [if_pos h, if_pos h1]
theorem take_set {L : List Ls} {key to now ut : Int} (h : takeOk L key to now ut = true) (h1 : ¬ now ≤ (ofL L key).u) : takeR L key to now ut = (L.set (atL L key) ⟨(ofL L key).e, to, ut⟩, true) := by unfold takeR; rw [if_pos h, if_neg h1]
theorem takeOk_iff (L : List Ls) (key to now ut : Int) : takeOk L key to now ut = true ↔ lvB L = true ∧ (0 ≤ key ∧ key < 64) ∧ (0 ≤ to ∧ to < 64) ∧ (0 ≤ now ∧ now ≤ 999) ∧ 0 ≤ ut ∧ ut ≤ 999 := by
  simp only [takeOk, Bool.and_eq_true, ptB_iff, tmB_iff, and_assoc]

/-- renewing -/
def rnB (ow now ut : Int) (x : Ls) : Bool := decide (x.o = ow ∧ now ≤ x.u ∧ x.u < ut)
def rnL (ow now ut : Int) (x : Ls) : Ls := if rnB ow now ut x = true then ⟨x.e, x.o, ut⟩ else x
def renOk (L : List Ls) (ow now ut : Int) : Bool := lvB L && ptB ow && tmB now && tmB ut
def renTo (L : List Ls) (ow now ut : Int) (k : Nat) : List Ls := (L.take k).map (rnL ow now ut) ++ L.drop k
def renN (L : List Ls) (ow now ut : Int) : Nat → Nat
  | 0 => 0
  | k + 1 => renN L ow now ut k + if rnB ow now ut (gl L k) = true then 1 else 0
def renR (L : List Ls) (ow now ut : Int) : List Ls × Int :=
  if renOk L ow now ut = true then (L.map (rnL ow now ut), renN L ow now ut L.length) else ([], -1)
theorem renOk_iff (L : List Ls) (ow now ut : Int) : renOk L ow now ut = true ↔ lvB L = true ∧ (0 ≤ ow ∧ ow < 64) ∧ (0 ≤ now ∧ now ≤ 999) ∧ 0 ≤ ut ∧ ut ≤ 999 := by
  simp only [renOk, Bool.and_eq_true, ptB_iff, tmB_iff, and_assoc]
theorem renN_le (L : List Ls) (ow now ut : Int) (k : Nat) : renN L ow now ut k ≤ k := by
  induction k with
  | zero => simp [renN]
  | succ k ih => simp only [renN]; split <;> omega
theorem renTo_len (L : List Ls) (ow now ut : Int) {k : Nat} (h : k ≤ L.length) : (renTo L ow now ut k).length = L.length := by simp [renTo]; omega
theorem renTo_lt {L : List Ls} {ow now ut : Int} {k i : Nat} (h : k ≤ L.length) (hi : i < k) : gl (renTo L ow now ut k) i = rnL ow now ut (gl L i) := by
  rw [gl_get (by rw [renTo_len _ _ _ _ h]; omega), gl_get (show i < L.length by omega)]
  simp only [renTo]
  rw [List.getElem_append_left (by simp; omega)]
  simp
theorem renTo_ge {L : List Ls} {ow now ut : Int} {k i : Nat} (h : k ≤ L.length) (hi : k ≤ i) : gl (renTo L ow now ut k) i = gl L i := by
  unfold gl renTo
  rw [List.getD_eq_getElem?_getD, List.getElem?_append_right (by simp; omega), List.length_map, List.length_take, Nat.min_eq_left h, List.getElem?_drop, show k + (i - k) = i by omega, List.getD_eq_getElem?_getD]
theorem renTo_zero (L : List Ls) (ow now ut : Int) : renTo L ow now ut 0 = L := by simp [renTo]
theorem renTo_all (L : List Ls) (ow now ut : Int) : renTo L ow now ut L.length = L.map (rnL ow now ut) := by simp [renTo]
theorem renTo_no {L : List Ls} {ow now ut : Int} {k : Nat} (h : k < L.length) (hb : rnB ow now ut (gl L k) = false) : renTo L ow now ut (k + 1) = renTo L ow now ut k := by
  refine gl_ext (by rw [renTo_len _ _ _ _ (by omega), renTo_len _ _ _ _ (by omega)]) fun i hi => ?_
  rcases Nat.lt_trichotomy i k with h' | h' | h'
  · rw [renTo_lt (by omega) (by omega), renTo_lt (by omega) h']
  · subst h'
    rw [renTo_lt (by omega) (by omega), renTo_ge (by omega) (Nat.le_refl _)]
    unfold rnL; rw [if_neg (by rw [hb]; decide)]
  · rw [renTo_ge (by omega) (by omega), renTo_ge (by omega) (by omega)]
theorem renTo_yes {L : List Ls} {ow now ut : Int} {k : Nat} (h : k < L.length) (hb : rnB ow now ut (gl L k) = true) : renTo L ow now ut (k + 1) = (renTo L ow now ut k).set k ⟨(gl L k).e, (gl L k).o, ut⟩ := by
  refine gl_ext (by rw [List.length_set, renTo_len _ _ _ _ (by omega), renTo_len _ _ _ _ (by omega)]) fun i hi => ?_
  rw [renTo_len _ _ _ _ (by omega)] at hi
  rcases Nat.lt_trichotomy i k with h' | h' | h'
  · rw [gl_set_ne _ (by omega), renTo_lt (by omega) (by omega), renTo_lt (by omega) h']
  · subst h'
    rw [gl_set_eq _ (by rw [renTo_len _ _ _ _ (by omega)]; exact hi), renTo_lt (by omega) (by omega)]
    unfold rnL; rw [if_pos hb]
  · rw [gl_set_ne _ (by omega), renTo_ge (by omega) (by omega), renTo_ge (by omega) (by omega)]
theorem ren_gl {L : List Ls} {ow now ut : Int} {i : Nat} (h : i < L.length) : gl (L.map (rnL ow now ut)) i = rnL ow now ut (gl L i) := by
  rw [← renTo_all, renTo_lt (Nat.le_refl _) h]
theorem rnL_e (ow now ut : Int) (x : Ls) : (rnL ow now ut x).e = x.e := by unfold rnL; split <;> rfl
theorem rnL_o (ow now ut : Int) (x : Ls) : (rnL ow now ut x).o = x.o := by unfold rnL; split <;> rfl
theorem rnL_u (ow now ut : Int) (x : Ls) : x.u ≤ (rnL ow now ut x).u := by
  unfold rnL
  split
  · rename_i h; simp only [rnB, decide_eq_true_eq] at h; show x.u ≤ ut; omega
  · exact Int.le_refl _
theorem rnL_again (ow now ut : Int) (x : Ls) : rnB ow now ut (rnL ow now ut x) = false := by
  unfold rnL
  split
  · simp only [rnB, decide_eq_false_iff_not]; show ¬ (x.o = ow ∧ now ≤ ut ∧ ut < ut); omega
  · rename_i h; simpa using h
theorem ren_lv {L : List Ls} {ow now ut : Int} (h : renOk L ow now ut = true) : lvB (L.map (rnL ow now ut)) = true := by
  obtain ⟨hv, _, _, hu⟩ := (renOk_iff _ _ _ _).1 h
  refine SameE.lv (L := L) ⟨by simp, fun i hi => by rw [ren_gl hi, rnL_e]⟩ hv fun i hi => ?_
  have hi' : i < L.length := by simpa using hi
  rw [ren_gl hi', rnL_o]
  refine ⟨lv_o hv hi', ?_⟩
  unfold rnL
  split
  · exact hu
  · exact lv_u hv hi'
theorem renN_again {L : List Ls} {ow now ut : Int} (k : Nat) (hk : k ≤ L.length) : renN (L.map (rnL ow now ut)) ow now ut k = 0 := by
  induction k with
  | zero => rfl
  | succ k ih => simp only [renN, ih (by omega)]; rw [ren_gl (by omega), rnL_again]; rfl
theorem rnL_twice (ow now ut : Int) (x : Ls) : rnL ow now ut (rnL ow now ut x) = rnL ow now ut x := by
  have h := rnL_again ow now ut x
  show (if rnB ow now ut (rnL ow now ut x) = true then _ else rnL ow now ut x) = _
  rw [if_neg (by rw [h]; decide)]
theorem ren_again (L : List Ls) (ow now ut : Int) : (L.map (rnL ow now ut)).map (rnL ow now ut) = L.map (rnL ow now ut) := by
  rw [List.map_map]
  apply List.map_congr_left
  intro x _
  exact rnL_twice ow now ut x

/-- merging -/
def sameLs (x y : Ls) : Bool := decide (x.o = y.o ∧ x.u = y.u)
def mgTo (L : List Ls) : Nat → List Ls
  | 0 => []
  | k + 1 => mgTo L k ++ if sameLs (gl L k) (gl L (k + 1)) = true then [] else [gl L k]
/-- what the model holds behind k rounds -/
def mgS (L : List Ls) : Nat → List Ls
  | 0 => []
  | k + 1 => mgTo L k ++ [gl L k]
def mgR (L : List Ls) : List Ls := if lvB L = true then mgS L L.length else []
theorem mgTo_len (L : List Ls) (k : Nat) : (mgTo L k).length ≤ k := by
  induction k with
  | zero => simp [mgTo]
  | succ k ih => simp only [mgTo, List.length_append]; split <;> simp <;> omega
theorem mgS_len (L : List Ls) (k : Nat) : (mgS L k).length ≤ k := by
  cases k with
  | zero => simp [mgS]
  | succ k => have := mgTo_len L k; simp [mgS]; omega
theorem mgR_len (L : List Ls) : (mgR L).length ≤ 12 := by
  unfold mgR
  split
  · have := mgS_len L L.length; have := lv_len (by assumption); omega
  · simp

/-! ### counting keys -/
/-- how many keys below n are held by leases with property p -/
def kcn (L : List Ls) (p : Nat → Bool) : Nat → Nat
  | 0 => 0
  | n + 1 => kcn L p n + if p (atL L n) = true then 1 else 0
theorem kcn_le (L : List Ls) (p : Nat → Bool) (n : Nat) : kcn L p n ≤ n := by
  induction n with
  | zero => simp [kcn]
  | succ n ih => simp only [kcn]; split <;> omega
theorem kcn_run {L : List Ls} {p : Nat → Bool} {i : Nat} : ∀ (m n : Nat), (∀ k : Nat, n ≤ k → k < n + m → atL L k = i) → kcn L p (n + m) = kcn L p n + if p i = true then m else 0
  | 0, n, _ => by simp
  | m + 1, n, h => by
    rw [show n + (m + 1) = (n + m) + 1 by omega, kcn, kcn_run m n (fun k h1 h2 => h k h1 (by omega)), h (n + m) (by omega) (by omega)]
    split <;> omega
theorem kcn_congr {L M : List Ls} {p q : Nat → Bool} (n : Nat) (h : ∀ k : Nat, k < n → p (atL L k) = q (atL M k)) : kcn L p n = kcn M q n := by
  induction n with
  | zero => rfl
  | succ n ih => rw [kcn, kcn, ih (fun k hk => h k (by omega)), h n (by omega)]
/-- the keys of an owner -/
def ownB (L : List Ls) (ow : Int) (i : Nat) : Bool := decide ((gl L i).o = ow)
def keysN (L : List Ls) (ow : Int) : Nat := kcn L (ownB L ow) 64
def keysI (L : List Ls) (ow : Int) : Int := if lvB L && ptB ow then (keysN L ow : Int) else -1
theorem keysN_congr {L M : List Ls} {ow : Int} (h : ∀ key : Int, (ofL L key).o = (ofL M key).o) : keysN L ow = keysN M ow :=
  kcn_congr 64 fun k _ => by unfold ownB; have := h k; unfold ofL at this; rw [this]
/-- before each end -/
theorem at_mid {L : List Ls} (hv : lvB L = true) {i : Nat} (hi : i < L.length) {k : Int} (h1 : ∀ j, j < i → (gl L j).e < k) (h2 : k ≤ (gl L i).e) : atL L k = i := by
  have : fdL L k = i := fd_eq (by omega) h1 (fun _ => h2)
  unfold atL; rw [this, if_pos hi]
theorem at_above {L : List Ls} (hv : lvB L = true) {k : Int} (h : (gl L (L.length - 1)).e < k) : atL L k = 0 := by
  have hl := (lv_len hv).1
  have : fdL L k = L.length := fd_eq (Nat.le_refl _) (fun j hj => by
    rcases Nat.lt_or_ge j (L.length - 1) with h' | h'
    · have := lv_lt hv h' (by omega); omega
    · rw [show j = L.length - 1 by omega]; exact h) (fun hh => by omega)
  unfold atL; rw [this, if_neg (by omega)]
/-- how far the count has come behind k leases: the program's own sum -/
def upTo (L : List Ls) (p : Nat → Bool) : Nat → Int
  | 0 => 0
  | k + 1 => (kcn L p ((gl L k).e + 1).toNat : Int) + if p 0 = true then 63 - (gl L (L.length - 1)).e else 0
def turn (a b : Int) : Int := if a = b then 64 else (b - a) % 64
theorem upTo_one {L : List Ls} (hv : lvB L = true) (p : Nat → Bool) : upTo L p 1 = if p 0 = true then turn (gl L (L.length - 1)).e (gl L 0).e else 0 := by
  have hl := lv_len hv
  have h0 := lv_e hv (k := 0) (by omega)
  have hz := lv_e hv (k := L.length - 1) (by omega)
  have hc := kcn_run (L := L) (p := p) (i := 0) ((gl L 0).e + 1).toNat 0 (fun k _ hk => at_mid hv (by omega) (fun j hj => by omega) (by omega))
  simp only [kcn, Nat.zero_add] at hc
  simp only [upTo, hc]
  split
  · unfold turn
    by_cases h1 : L.length = 1
    · rw [h1]; simp; omega
    · have := lv_lt hv (i := 0) (j := L.length - 1) (by omega) (by omega)
      rw [if_neg (by omega)]; omega
  · simp
theorem upTo_succ {L : List Ls} (hv : lvB L = true) (p : Nat → Bool) {k : Nat} (hk : k + 1 < L.length) : upTo L p (k + 2) = upTo L p (k + 1) + if p (k + 1) = true then turn (gl L k).e (gl L (k + 1)).e else 0 := by
  have h1 := lv_step hv hk
  have h2 := lv_e hv (k := k) (by omega)
  have h3 := lv_e hv hk
  have hc := kcn_run (L := L) (p := p) (i := k + 1) ((gl L (k + 1)).e - (gl L k).e).toNat ((gl L k).e + 1).toNat (fun q h4 h5 => at_mid hv hk (fun j hj => by
    rcases Nat.lt_or_ge j k with h' | h'
    · have := lv_lt hv h' (show k < L.length by omega); omega
    · rw [show j = k by omega]; omega) (by omega))
  rw [show ((gl L k).e + 1).toNat + ((gl L (k + 1)).e - (gl L k).e).toNat = ((gl L (k + 1)).e + 1).toNat by omega] at hc
  simp only [upTo, hc]
  have ht : turn (gl L k).e (gl L (k + 1)).e = (gl L (k + 1)).e - (gl L k).e := by unfold turn; rw [if_neg (by omega)]; omega
  rw [ht]
  split <;> split <;> omega
theorem upTo_all {L : List Ls} (hv : lvB L = true) (p : Nat → Bool) : upTo L p L.length = kcn L p 64 := by
  have hl := lv_len hv
  obtain ⟨n, hn⟩ : ∃ n, L.length = n + 1 := ⟨L.length - 1, by omega⟩
  have hz := lv_e hv (k := n) (by omega)
  have hc := kcn_run (L := L) (p := p) (i := 0) (63 - (gl L n).e).toNat ((gl L n).e + 1).toNat (fun q h4 h5 => at_above hv (by rw [hn]; simp only [Nat.add_sub_cancel]; omega))
  rw [show ((gl L n).e + 1).toNat + (63 - (gl L n).e).toNat = 64 by omega] at hc
  rw [hc, hn]
  simp only [upTo, hn, Nat.add_sub_cancel]
  split <;> omega
theorem upTo_bd {L : List Ls} (hv : lvB L = true) (p : Nat → Bool) {k : Nat} (hk : k ≤ L.length) : 0 ≤ upTo L p k ∧ upTo L p k ≤ 1000 := by
  cases k with
  | zero => simp [upTo]
  | succ k =>
    have h1 := lv_e hv (k := k) (by omega)
    have h2 := lv_e hv (k := L.length - 1) (by omega)
    have h3 := kcn_le L p ((gl L k).e + 1).toNat
    simp only [upTo]
    split <;> omega
end Go.Proofs.Ytenhaccdiamagaa
