/- Placement as lists: what the functions of chapter 31 compute. -/
import Derived.Test.YtidabcdaodlfeaaMA
namespace Go.Proofs.Ytidabcdaodlfeaa
set_option linter.unusedVariables false

/-- a token: position, node -/
structure Tk where
  p : Int
  n : Int

def gk (L : List Tk) (i : Nat) : Tk := L.getD i ⟨0, 0⟩
theorem gk_get {L : List Tk} {i : Nat} (h : i < L.length) : gk L i = L[i] := by simp [gk, List.getElem?_eq_getElem h]
theorem gk_ext {L M : List Tk} (hl : L.length = M.length) (h : ∀ i, i < L.length → gk L i = gk M i) : L = M := by
  apply List.ext_getElem hl
  intro i h1 h2
  have := h i h1
  rwa [gk_get h1, gk_get h2] at this
theorem gk_set_eq {L : List Tk} {i : Nat} (x : Tk) (h : i < L.length) : gk (L.set i x) i = x := by
  rw [gk_get (by simpa using h)]; simp
theorem gk_set_ne {L : List Tk} {i j : Nat} (x : Tk) (h : i ≠ j) : gk (L.set i x) j = gk L j := by
  simp [gk, List.getElem?_set_ne h]
theorem gk_mem {L : List Tk} {i : Nat} (h : i < L.length) : gk L i ∈ L := by rw [gk_get h]; exact List.getElem_mem _
theorem mem_gk {L : List Tk} {x : Tk} (h : x ∈ L) : ∃ i, i < L.length ∧ gk L i = x := by
  obtain ⟨i, hi, he⟩ := List.getElem_of_mem h
  exact ⟨i, hi, by rw [gk_get hi]; exact he⟩

/-! ### tokens -/
/-- the position of a node's token -/
def tok (n : Int) (i : Nat) : Int := (37 * n + 23 * i + 7 * i * i) % 64
theorem tok_pt (n : Int) (i : Nat) : 0 ≤ tok n i ∧ tok n i < 64 := by unfold tok; omega
def tkL (n : Int) (w : Nat) : List Int := (List.range w).map (tok n)
theorem tkL_len (n : Int) (w : Nat) : (tkL n w).length = w := by simp [tkL]
theorem tkL_s (n : Int) (w : Nat) : tkL n (w + 1) = tkL n w ++ [tok n w] := by simp [tkL, List.range_succ]
theorem tkL_gt (n : Int) {w i : Nat} (h : i < w) : gt (tkL n w) i = tok n i := by rw [gt_get (by rw [tkL_len]; exact h)]; simp [tkL]
theorem tkL_take (n : Int) {w k : Nat} (h : k ≤ w) : (tkL n w).take k = tkL n k := by
  unfold tkL
  rw [← List.map_take, List.take_range, Nat.min_eq_left h]
def tkOk (n w : Int) : Bool := ptB n && decide (1 ≤ w ∧ w ≤ 5)
theorem tkOk_iff (n w : Int) : tkOk n w = true ↔ (0 ≤ n ∧ n < 64) ∧ 1 ≤ w ∧ w ≤ 5 := by simp [tkOk, ptB_iff]
def tkR (n w : Int) : List Int := if tkOk n w = true then tkL n w.toNat else []
theorem tkR_bad {n w : Int} (h : tkOk n w = false) : tkR n w = [] := by unfold tkR; rw [if_neg (by rw [h]; decide)]
theorem tkR_ok {n w : Int} (h : tkOk n w = true) : tkR n w = tkL n w.toNat := by unfold tkR; rw [if_pos h]
theorem tkR_len (n w : Int) : (tkR n w).length ≤ 5 := by
  unfold tkR; split
  · rename_i h; rw [tkL_len]; have := (tkOk_iff _ _).1 h; omega
  · simp

/-! ### tables -/
/-- one of the first k tokens of node number i is at p -/
def hitTo (zs : List Int) (i : Nat) (p : Int) : Nat → Bool
  | 0 => false
  | k + 1 => hitTo zs i p k || decide (tok (gt zs i) k = p)
theorem hitTo_iff (zs : List Int) (i : Nat) (p : Int) (n : Nat) : hitTo zs i p n = true ↔ ∃ k, k < n ∧ tok (gt zs i) k = p := by
  induction n with
  | zero => simp [hitTo]
  | succ n ih =>
    simp only [hitTo, Bool.or_eq_true, ih, decide_eq_true_eq]
    constructor
    · rintro (⟨k, h1, h2⟩ | h)
      · exact ⟨k, by omega, h2⟩
      · exact ⟨n, by omega, h⟩
    · rintro ⟨k, h1, h2⟩
      rcases Nat.lt_or_ge k n with h' | h'
      · exact .inl ⟨k, h', h2⟩
      · obtain rfl : k = n := by omega
        exact .inr h2
def hit (zs ws : List Int) (i : Nat) (p : Int) : Bool := hitTo zs i p (gt ws i).toNat
/-- what a position holds when the nodes from number m on, of m + d, have been looked at -/
def atP (zs ws : List Int) (p : Int) : Nat → Nat → List Tk
  | _, 0 => []
  | m, d + 1 => if hit zs ws m p = true then [⟨p, gt zs m⟩] else atP zs ws p (m + 1) d
theorem atP_some (zs ws : List Int) (p : Int) (m d : Nat) : (atP zs ws p m d = [] ∧ ∀ i, m ≤ i → i < m + d → hit zs ws i p = false) ∨ ∃ i, m ≤ i ∧ i < m + d ∧ hit zs ws i p = true ∧ (∀ j, m ≤ j → j < i → hit zs ws j p = false) ∧ atP zs ws p m d = [⟨p, gt zs i⟩] := by
  induction d generalizing m with
  | zero => exact .inl ⟨rfl, fun i h1 h2 => by omega⟩
  | succ d ih =>
    unfold atP
    rcases hh : hit zs ws m p with _ | _
    · rw [if_neg (by decide)]
      rcases ih (m + 1) with ⟨h1, h2⟩ | ⟨i, h1, h2, h3, h4, h5⟩
      · refine .inl ⟨h1, fun i hi hi' => ?_⟩
        rcases Nat.eq_or_lt_of_le hi with e | e
        · subst e; exact hh
        · exact h2 i (by omega) (by omega)
      · refine .inr ⟨i, by omega, by omega, h3, fun j hj hj' => ?_, h5⟩
        rcases Nat.eq_or_lt_of_le hj with e | e
        · subst e; exact hh
        · exact h4 j (by omega) hj'
    · rw [if_pos rfl]
      exact .inr ⟨m, Nat.le_refl _, by omega, hh, fun j h1 h2 => by omega, rfl⟩
theorem atP_len (zs ws : List Int) (p : Int) (m d : Nat) : (atP zs ws p m d).length ≤ 1 := by
  rcases atP_some zs ws p m d with ⟨h, _⟩ | ⟨i, _, _, _, _, h⟩ <;> rw [h] <;> simp
/-- the table of the positions below n -/
def tabTo (zs ws : List Int) : Nat → List Tk
  | 0 => []
  | p + 1 => tabTo zs ws p ++ atP zs ws p 0 zs.length
theorem tabTo_len (zs ws : List Int) (n : Nat) : (tabTo zs ws n).length ≤ n := by
  induction n with
  | zero => simp [tabTo]
  | succ n ih => rw [tabTo, List.length_append]; have := atP_len zs ws n 0 zs.length; omega
/-- weights in range -/
def wsB (ws : List Int) : Bool := ws.all fun w => decide (1 ≤ w ∧ w ≤ 5)
theorem wsB_iff (ws : List Int) : wsB ws = true ↔ ∀ i, i < ws.length → 1 ≤ gt ws i ∧ gt ws i ≤ 5 := by
  unfold wsB
  rw [List.all_eq_true]
  constructor
  · intro h i hi
    have := h _ (List.getElem_mem hi)
    rw [gt_get hi]
    simpa using this
  · intro h w hw
    obtain ⟨i, hi, rfl⟩ := List.getElem_of_mem hw
    have := h i hi
    rw [gt_get hi] at this
    simpa using this
theorem mem_tab (zs ws : List Int) (n : Nat) (x : Tk) : x ∈ tabTo zs ws n ↔ ∃ p : Nat, p < n ∧ x ∈ atP zs ws p 0 zs.length := by
  induction n with
  | zero => simp [tabTo]
  | succ n ih =>
    rw [tabTo, List.mem_append, ih]
    constructor
    · rintro (⟨p, h1, h2⟩ | h)
      · exact ⟨p, by omega, h2⟩
      · exact ⟨n, by omega, h⟩
    · rintro ⟨p, h1, h2⟩
      rcases Nat.lt_or_ge p n with h' | h'
      · exact .inl ⟨p, h', h2⟩
      · obtain rfl : p = n := by omega
        exact .inr h2
/-- a token of the table -/
theorem mem_tab_iff (zs ws : List Int) (n : Nat) (x : Tk) : x ∈ tabTo zs ws n ↔ ∃ (p i : Nat), p < n ∧ i < zs.length ∧ hit zs ws i p = true ∧ (∀ j, j < i → hit zs ws j p = false) ∧ x = ⟨p, gt zs i⟩ := by
  rw [mem_tab]
  constructor
  · rintro ⟨p, hp, hx⟩
    rcases atP_some zs ws p 0 zs.length with ⟨h, _⟩ | ⟨i, h1, h2, h3, h4, h5⟩
    · rw [h] at hx; cases hx
    · rw [h5] at hx
      exact ⟨p, i, hp, by omega, h3, fun j hj => h4 j (Nat.zero_le _) hj, by simpa using hx⟩
  · rintro ⟨p, i, hp, hi, h3, h4, rfl⟩
    refine ⟨p, hp, ?_⟩
    rcases atP_some zs ws p 0 zs.length with ⟨_, h⟩ | ⟨j, h1, h2, h5, h6, h7⟩
    · rw [h i (Nat.zero_le _) (by omega)] at h3; cases h3
    · rw [h7]
      rcases Nat.lt_trichotomy i j with e | e | e
      · rw [h6 i (Nat.zero_le _) e] at h3; cases h3
      · subst e; simp
      · rw [h4 j e] at h5; cases h5
def ordK (L : List Tk) : Prop := L.Pairwise fun x y => x.p < y.p
theorem tab_ord (zs ws : List Int) (n : Nat) : ordK (tabTo zs ws n) ∧ ∀ x ∈ tabTo zs ws n, 0 ≤ x.p ∧ x.p < n := by
  have hb : ∀ n, ∀ x ∈ tabTo zs ws n, 0 ≤ x.p ∧ x.p < n := fun n x hx => by
    obtain ⟨p, i, hp, _, _, _, rfl⟩ := (mem_tab_iff _ _ _ _).1 hx
    simp only
    omega
  refine ⟨?_, hb n⟩
  unfold ordK
  induction n with
  | zero => simp [tabTo]
  | succ n ih =>
    rw [tabTo, List.pairwise_append]
    refine ⟨ih, ?_, fun a ha b hbm => ?_⟩
    · rcases atP_some zs ws n 0 zs.length with ⟨h, _⟩ | ⟨i, _, _, _, _, h⟩ <;> rw [h] <;> simp
    · have h1 := hb n a ha
      rcases atP_some zs ws n 0 zs.length with ⟨h, _⟩ | ⟨i, _, _, _, _, h⟩
      · rw [h] at hbm; cases hbm
      · rw [h] at hbm
        obtain rfl : b = ⟨n, gt zs i⟩ := by simpa using hbm
        simp only
        omega

/-! ### valid tables, owners -/
def okK (L : List Tk) (k : Nat) : Bool := ptB (gk L k).p && ptB (gk L k).n && (decide (k = 0) || decide ((gk L (k - 1)).p < (gk L k).p))
def okKTo (L : List Tk) : Nat → Bool
  | 0 => true
  | k + 1 => okKTo L k && okK L k
/-- a table is in order -/
def tbB (L : List Tk) : Bool := okKTo L L.length && decide (0 < L.length)
theorem okKTo_iff (L : List Tk) (n : Nat) : okKTo L n = true ↔ ∀ k, k < n → okK L k = true := by
  induction n with
  | zero => simp [okKTo]
  | succ n ih =>
    simp only [okKTo, Bool.and_eq_true, ih]
    refine ⟨fun h k hk => ?_, fun h => ⟨fun k hk => h k (by omega), h n (by omega)⟩⟩
    rcases Nat.lt_or_ge k n with h' | h'
    · exact h.1 k h'
    · obtain rfl : k = n := by omega
      exact h.2
theorem okKTo_no {L : List Tk} {n k : Nat} (hk : k < n) (h : okK L k = false) : okKTo L n = false := by
  rcases hb : okKTo L n with _ | _
  · rfl
  · rw [(okKTo_iff L n).1 hb k hk] at h; cases h
theorem tbB_no {L : List Tk} {k : Nat} (hk : k < L.length) (h : okK L k = false) : tbB L = false := by simp only [tbB, okKTo_no hk h, Bool.false_and]
theorem tbB_no_p {L : List Tk} {k : Nat} (hk : k < L.length) (h : ptB (gk L k).p = false) : tbB L = false := tbB_no hk (by simp only [okK, h, Bool.false_and])
theorem tbB_no_n {L : List Tk} {k : Nat} (hk : k < L.length) (h : ptB (gk L k).n = false) : tbB L = false := tbB_no hk (by simp only [okK, h, Bool.and_false, Bool.false_and])
theorem tbB_no_lt {L : List Tk} {j : Nat} (hk : j + 1 < L.length) (h : (gk L (j + 1)).p ≤ (gk L j).p) : tbB L = false := by
  refine tbB_no hk ?_
  simp only [okK, Nat.add_sub_cancel, Bool.and_eq_false_iff, Bool.or_eq_false_iff, decide_eq_false_iff_not]
  exact .inr ⟨by omega, by omega⟩
theorem okKTo_z {L : List Tk} (h : ptB (gk L 0).p = true) (h' : ptB (gk L 0).n = true) : okKTo L 1 = true := by simp [okKTo, okK, h, h']
theorem okKTo_s {L : List Tk} {j : Nat} (h : okKTo L (j + 1) = true) (hp : ptB (gk L (j + 1)).p = true) (hn : ptB (gk L (j + 1)).n = true) (hl : (gk L j).p < (gk L (j + 1)).p) : okKTo L (j + 1 + 1) = true := by
  rw [okKTo, h]; simp only [Bool.true_and, okK, hp, hn, Nat.add_sub_cancel, Bool.or_eq_true, decide_eq_true_eq]; exact .inr hl
theorem tbB_all {L : List Tk} (h : okKTo L L.length = true) : tbB L = decide (0 < L.length) := by simp only [tbB, h, Bool.true_and]
theorem tb_len {L : List Tk} (h : tbB L = true) : 0 < L.length := by simp only [tbB, Bool.and_eq_true, decide_eq_true_eq] at h; exact h.2
theorem tb_ok {L : List Tk} (h : tbB L = true) {k : Nat} (hk : k < L.length) : okK L k = true := by
  simp only [tbB, Bool.and_eq_true] at h; exact (okKTo_iff _ _).1 h.1 k hk
theorem tb_p {L : List Tk} (h : tbB L = true) {k : Nat} (hk : k < L.length) : 0 ≤ (gk L k).p ∧ (gk L k).p < 64 := by
  have := tb_ok h hk; simp only [okK, Bool.and_eq_true] at this; exact (ptB_iff _).1 this.1.1
theorem tb_n {L : List Tk} (h : tbB L = true) {k : Nat} (hk : k < L.length) : 0 ≤ (gk L k).n ∧ (gk L k).n < 64 := by
  have := tb_ok h hk; simp only [okK, Bool.and_eq_true] at this; exact (ptB_iff _).1 this.1.2
theorem tb_step {L : List Tk} (h : tbB L = true) {k : Nat} (hk : k + 1 < L.length) : (gk L k).p < (gk L (k + 1)).p := by
  have := tb_ok h hk
  simp only [okK, Bool.and_eq_true, Bool.or_eq_true, decide_eq_true_eq, Nat.add_sub_cancel] at this
  rcases this.2 with h' | h'
  · omega
  · exact h'
theorem tb_lt {L : List Tk} (h : tbB L = true) {i j : Nat} (hij : i < j) (hj : j < L.length) : (gk L i).p < (gk L j).p := by
  induction j with
  | zero => omega
  | succ j ih =>
    have h1 := tb_step h hj
    rcases Nat.lt_or_ge i j with h' | h'
    · have := ih h' (by omega); omega
    · obtain rfl : i = j := by omega
      exact h1
theorem tb_of {L : List Tk} (h0 : 0 < L.length) (hs : ∀ x ∈ L, (0 ≤ x.p ∧ x.p < 64) ∧ 0 ≤ x.n ∧ x.n < 64) (ho : ordK L) : tbB L = true := by
  simp only [tbB, Bool.and_eq_true, decide_eq_true_eq]
  refine ⟨(okKTo_iff _ _).2 fun k hk => ?_, h0⟩
  obtain ⟨h1, h2⟩ := hs _ (gk_mem hk)
  simp only [okK, (ptB_iff _).2 h1, (ptB_iff _).2 h2, Bool.true_and, Bool.or_eq_true, decide_eq_true_eq]
  rcases k with _ | k
  · exact .inl rfl
  · refine .inr ?_
    have := (List.pairwise_iff_getElem.1 ho) k (k + 1) (by omega) hk (by omega)
    rwa [← gk_get, ← gk_get] at this

/-- the first token at a key or behind it; the length if there is none -/
def fdT (L : List Tk) (key : Int) : Nat := L.findIdx fun x => decide (key ≤ x.p)
theorem fdT_le (L : List Tk) (key : Int) : fdT L key ≤ L.length := List.findIdx_le_length
theorem fdT_below {L : List Tk} {key : Int} {i : Nat} (h : i < fdT L key) : (gk L i).p < key := by
  have hl := fdT_le L key
  have := List.not_of_lt_findIdx h
  rw [gk_get (by omega)]
  simpa using this
theorem fdT_at {L : List Tk} {key : Int} (h : fdT L key < L.length) : key ≤ (gk L (fdT L key)).p := by
  have := List.findIdx_getElem (w := h)
  rw [gk_get h]
  exact of_decide_eq_true this
theorem fdT_eq {L : List Tk} {key : Int} {k : Nat} (hk : k ≤ L.length) (hb : ∀ i, i < k → (gk L i).p < key) (ha : k < L.length → key ≤ (gk L k).p) : fdT L key = k := by
  rcases Nat.lt_trichotomy (fdT L key) k with h | h | h
  · have h1 := fdT_at (L := L) (key := key) (by omega)
    have h2 := hb _ h
    omega
  · exact h
  · have h1 := fdT_below h
    have h2 := ha (by have := fdT_le L key; omega)
    omega
/-- the node that holds a key -/
def ownT (L : List Tk) (key : Int) : Int := if fdT L key < L.length then (gk L (fdT L key)).n else (gk L 0).n
theorem own_at {L : List Tk} {key : Int} {k : Nat} (hk : k < L.length) (hb : ∀ i, i < k → (gk L i).p < key) (ha : key ≤ (gk L k).p) : ownT L key = (gk L k).n := by
  have := fdT_eq (by omega) hb (fun _ => ha)
  unfold ownT; rw [this, if_pos hk]
theorem own_end {L : List Tk} {key : Int} (hb : ∀ i, i < L.length → (gk L i).p < key) : ownT L key = (gk L 0).n := by
  have := fdT_eq (Nat.le_refl _) hb (fun h => by omega)
  unfold ownT; rw [this, if_neg (by omega)]
theorem own_pt {L : List Tk} (h : tbB L = true) (key : Int) : 0 ≤ ownT L key ∧ ownT L key < 64 := by
  unfold ownT
  split
  · rename_i hf; exact tb_n h hf
  · exact tb_n h (tb_len h)
/-- P132 -/
theorem own_token {L : List Tk} (h : tbB L = true) {i : Nat} (hi : i < L.length) : ownT L (gk L i).p = (gk L i).n :=
  own_at hi (fun j hj => tb_lt h hj hi) (Int.le_refl _)
def ownOk (L : List Tk) (key : Int) : Bool := tbB L && ptB key
theorem ownOk_iff (L : List Tk) (key : Int) : ownOk L key = true ↔ tbB L = true ∧ 0 ≤ key ∧ key < 64 := by simp [ownOk, ptB_iff]
def ownR (L : List Tk) (key : Int) : Int := if ownOk L key = true then ownT L key else -1
theorem ownR_bad {L : List Tk} {key : Int} (h : ownOk L key = false) : ownR L key = -1 := by unfold ownR; rw [if_neg (by rw [h]; decide)]
theorem ownR_ok {L : List Tk} {key : Int} (h : ownOk L key = true) : ownR L key = ownT L key := by unfold ownR; rw [if_pos h]

/-! ### loads -/
/-- how many of the first n keys a node holds -/
def ldN (L : List Tk) (node : Int) : Nat → Nat
  | 0 => 0
  | k + 1 => ldN L node k + if ownT L k = node then 1 else 0
theorem ldN_le (L : List Tk) (node : Int) (n : Nat) : ldN L node n ≤ n := by
  induction n with
  | zero => simp [ldN]
  | succ n ih => unfold ldN; split <;> omega
def ldR (L : List Tk) (node : Int) : Int := if ownOk L node = true then (ldN L node 64 : Nat) else -1
theorem ldR_bad {L : List Tk} {key : Int} (h : ownOk L key = false) : ldR L key = -1 := by unfold ldR; rw [if_neg (by rw [h]; decide)]
theorem ldR_ok {L : List Tk} {key : Int} (h : ownOk L key = true) : ldR L key = (ldN L key 64 : Nat) := by unfold ldR; rw [if_pos h]
/-- the loads of the first m nodes -/
def sumLd (L : List Tk) (n : Nat) : Nat → Nat
  | 0 => 0
  | m + 1 => sumLd L n m + ldN L m n
/-- .. how many of the first n keys are held by one of the first m -/
def cntLd (L : List Tk) (m : Nat) : Nat → Nat
  | 0 => 0
  | k + 1 => cntLd L m k + if ownT L k < m then 1 else 0
theorem sum_cnt {L : List Tk} (h : tbB L = true) (n m : Nat) : sumLd L n m = cntLd L m n := by
  induction m with
  | zero =>
    have : ∀ n, cntLd L 0 n = 0 := fun n => by
      induction n with
      | zero => rfl
      | succ n ih => unfold cntLd; rw [ih, if_neg (by have := own_pt h (n : Int); omega)]
    rw [this]; rfl
  | succ m ih =>
    rw [sumLd, ih]
    clear ih
    induction n with
    | zero => rfl
    | succ n ih =>
      have h1 := own_pt h (n : Int)
      simp only [cntLd, ldN]
      rw [← ih]
      rcases Int.lt_trichotomy (ownT L n) m with e | e | e
      · rw [if_pos e, if_neg (by omega), if_pos (by push_cast; omega)]; omega
      · rw [if_neg (by omega), if_pos e, if_pos (by push_cast; omega)]; omega
      · rw [if_neg (by omega), if_neg (by omega), if_neg (by push_cast; omega)]; omega
/-- P127 -/
theorem sum_all {L : List Tk} (h : tbB L = true) : sumLd L 64 64 = 64 := by
  rw [sum_cnt h]
  have : ∀ n, cntLd L 64 n = n := fun n => by
    induction n with
    | zero => rfl
    | succ n ih => unfold cntLd; rw [ih, if_pos (by have := own_pt h (n : Int); omega)]
  exact this 64
theorem ld_pos {L : List Tk} {node : Int} {n k : Nat} (hk : k < n) (h : ownT L k = node) : 1 ≤ ldN L node n := by
  induction n with
  | zero => omega
  | succ n ih =>
    unfold ldN
    rcases Nat.lt_or_ge k n with h' | h'
    · have := ih h'; omega
    · obtain rfl : k = n := by omega
      rw [if_pos h]; omega

/-! ### moved keys -/
def mvTo (A B : List Tk) (n : Nat) : List Int := ((List.range n).filter fun k => decide (ownT A (k : Nat) ≠ ownT B (k : Nat))).map fun (k : Nat) => (k : Int)
theorem mvTo_s (A B : List Tk) (n : Nat) : mvTo A B (n + 1) = mvTo A B n ++ if ownT A n ≠ ownT B n then [(n : Int)] else [] := by
  unfold mvTo
  rw [List.range_succ, List.filter_append, List.map_append]
  congr 1
  by_cases h : ownT A n = ownT B n <;> simp [h]
theorem mvTo_len (A B : List Tk) (n : Nat) : (mvTo A B n).length ≤ n := by
  unfold mvTo; rw [List.length_map]; exact Nat.le_trans (List.length_filter_le _ _) (by simp)
theorem mem_mv (A B : List Tk) (n : Nat) (x : Int) : x ∈ mvTo A B n ↔ ∃ k : Nat, k < n ∧ x = (k : Int) ∧ ownT A k ≠ ownT B k := by
  unfold mvTo
  simp only [List.mem_map, List.mem_filter, List.mem_range, decide_eq_true_eq]
  constructor
  · rintro ⟨k, ⟨h1, h2⟩, rfl⟩; exact ⟨k, h1, rfl, h2⟩
  · rintro ⟨k, h1, rfl, h2⟩; exact ⟨k, ⟨h1, h2⟩, rfl⟩
theorem mv_swap (A B : List Tk) (n : Nat) : mvTo A B n = mvTo B A n := by
  unfold mvTo
  congr 1
  apply List.filter_congr
  intro k _
  rw [Bool.eq_iff_iff, decide_eq_true_eq, decide_eq_true_eq]
  exact ⟨fun h e => h e.symm, fun h e => h e.symm⟩
def mvR (A B : List Tk) : List Int := if tbB A = true ∧ tbB B = true then mvTo A B 64 else []
theorem mvR_len (A B : List Tk) : (mvR A B).length ≤ 64 := by unfold mvR; split; exact mvTo_len _ _ _; simp
theorem mvR_bad {A B : List Tk} (h : tbB A = false ∨ tbB B = false) : mvR A B = [] := by
  unfold mvR; rw [if_neg]; rintro ⟨h1, h2⟩; rcases h with h | h
  · rw [h] at h1; cases h1
  · rw [h] at h2; cases h2
theorem mvR_ok {A B : List Tk} (h : tbB A = true) (h' : tbB B = true) : mvR A B = mvTo A B 64 := by unfold mvR; rw [if_pos ⟨h, h'⟩]
end Go.Proofs.Ytidabcdaodlfeaa
