/- Caches as lists: finding a key, what a heap by time tells of the oldest, sorting by key. -/
import Derived.Test.YtdlapnelehehgabCaMath
import Derived.Test.YtdlapnelehehgabHeapUp
namespace Go.Proofs.Ytdlapnelehehgab
set_option linter.unusedVariables false

/-! ### finding -/
/-- the key is there -/
def thB (L : List Ls) (key : Int) : Bool := decide (fdL L key < L.length ∧ (gl L (fdL L key)).e = key)
theorem th_iff {L : List Ls} (h : lvB L = true) (key : Int) : thB L key = true ↔ ∃ x ∈ L, x.e = key := by
  unfold thB
  rw [decide_eq_true_eq]
  constructor
  · rintro ⟨h1, h2⟩; exact ⟨_, gl_mem h1, h2⟩
  · rintro ⟨x, hx, he⟩
    obtain ⟨i, hi, rfl⟩ := mem_gl hx
    have hf : fdL L key = i := fd_eq (by omega) (fun j hj => by have := lv_lt h hj hi; omega) (fun _ => by omega)
    rw [hf]; exact ⟨hi, he⟩
theorem th_lt {L : List Ls} {key : Int} (h : thB L key = true) : fdL L key < L.length := (of_decide_eq_true h).1
theorem th_key {L : List Ls} {key : Int} (h : thB L key = true) : (gl L (fdL L key)).e = key := (of_decide_eq_true h).2
theorem drop_th {L : List Ls} {key : Int} (h : lvB L = true) (ht : thB L key = true) : dropL L key = L.take (fdL L key) ++ L.drop (fdL L key + 1) := by
  have hl := th_lt ht
  have hk := th_key ht
  have e : L = L.take (fdL L key) ++ gl L (fdL L key) :: L.drop (fdL L key + 1) := by
    conv => lhs; rw [← List.take_append_drop (fdL L key) L, List.drop_eq_getElem_cons hl, ← gl_get hl]
  unfold dropL
  conv => lhs; rw [e]
  rw [List.filter_append, List.filter_cons, if_neg (by simp [hk])]
  congr 1
  · rw [List.filter_eq_self]
    intro x hx
    have := fd_take key hx
    simp; omega
  · rw [List.filter_eq_self]
    intro x hx
    obtain ⟨i, hi, rfl⟩ := List.getElem_of_mem hx
    simp only [List.length_drop] at hi
    rw [List.getElem_drop, ← gl_get (by omega)]
    have := lv_lt h (i := fdL L key) (j := fdL L key + 1 + i) (by omega) (by omega)
    simp; omega
theorem drop_nth {L : List Ls} {key : Int} (h : lvB L = true) (ht : thB L key = false) : dropL L key = L := by
  refine drop_none fun x hx he => ?_
  have := (th_iff h key).2 ⟨x, hx, he⟩
  rw [ht] at this; cases this
theorem dropR_th {L : List Ls} {key : Int} (h : dropOk L key = true) : dropR L key = (dropL L key, thB L key) :=
  dropR_had h _ (th_iff ((dropOk_iff _ _).1 h).1 key)
theorem get_th {L : List Ls} {key now : Int} (h : getOk L key now = true) (ht : thB L key = true) : getR L key now = if frB (gl L (fdL L key)) now = true then ((gl L (fdL L key)).o, true) else (0, false) := by
  have hl := th_lt ht
  have hk := th_key ht
  have hv := ((getOk_iff _ _ _).1 h).1
  split
  · rename_i hf
    exact get_yes h (gl_mem hl) ((htB_iff _ _ _).2 ⟨hk, hf⟩)
  · rename_i hf
    refine get_no fun x hx => ?_
    rcases hh : htB key now x with _ | _
    · rfl
    · obtain ⟨h1, h2⟩ := (htB_iff _ _ _).1 hh
      rw [ord_eq (lv_ord hv) hx (gl_mem hl) (by rw [h1, hk])] at h2
      exact absurd h2 hf
theorem get_nth {L : List Ls} {key now : Int} (h : lvB L = true) (ht : thB L key = false) : getR L key now = (0, false) := by
  refine get_no fun x hx => ?_
  rcases hh : htB key now x with _ | _
  · rfl
  · have := (th_iff h key).2 ⟨x, hx, ((htB_iff _ _ _).1 hh).1⟩
    rw [ht] at this; cases this
/-- room for a key -/
theorem room_ok {L : List Ls} {key : Int} (h : lvB L = true) (hr : thB L key = true ∨ L.length ≠ 6) : roomL L key = dropL L key := by
  refine room_some ?_
  have h6 := lv_len h
  rcases drop_len (key := key) h with ⟨_, _, h3⟩ | ⟨h1, h2⟩
  · omega
  · rw [h1]
    rcases hr with hr | hr
    · obtain ⟨x, hx, he⟩ := (th_iff h key).1 hr
      exact absurd he (h2 x hx)
    · omega
theorem room_old {L : List Ls} {key : Int} (h : lvB L = true) (ht : thB L key = false) (h6 : L.length = 6) : roomL L key = dropL L (gl L (oldL L)).e := by
  have hd := drop_nth h ht
  rw [room_full (by rw [hd, h6]; omega), hd]

/-! ### by time -/
/-- older, of one time with the smaller key -/
def lsB (x y : Ls) : Bool := decide (x.u < y.u ∨ (x.u = y.u ∧ x.e < y.e))
/-- comparing two numbers -/
def cmI (a b : Int) : Int := if a < b then -1 else if b < a then 1 else 0
theorem cm_lsB (x y : Ls) : decide ((if cmI x.u y.u = 0 then cmI x.e y.e else cmI x.u y.u) < 0) = lsB x y := by
  unfold cmI lsB
  rw [Bool.eq_iff_iff]
  simp only [decide_eq_true_eq]
  split <;> split <;> (try split) <;> omega
theorem cmI_lt (a b : Int) : decide (cmI a b < 0) = decide (a < b) := by
  unfold cmI
  rw [Bool.eq_iff_iff]; simp only [decide_eq_true_eq]
  split <;> (try split) <;> omega
theorem cmI_z (a b : Int) : (cmI a b == 0) = decide (a = b) := by
  unfold cmI
  rw [Bool.eq_iff_iff]; simp only [decide_eq_true_eq, beq_iff_eq]
  split <;> (try split) <;> omega
/-- not behind -/
def leB (a b : Ls) : Prop := lsB b a = false
theorem leB_refl (a : Ls) : leB a a := by simp [leB, lsB]
theorem leB_trans (a b c : Ls) (h1 : leB a b) (h2 : leB b c) : leB a c := by
  simp only [leB, lsB, decide_eq_false_iff_not] at h1 h2 ⊢
  omega
theorem leB_of (a b : Ls) (h : lsB a b = true) : leB a b := by
  simp only [leB, lsB, decide_eq_false_iff_not, decide_eq_true_eq] at h ⊢
  omega
theorem toL_gl (L : List Ls) (n : Nat) (h : n ≤ L.length) : Heap.toL (gl L) n = L.take n := by
  induction n with
  | zero => simp [Heap.toL]
  | succ n ih => rw [Heap.toL_s, ih (by omega), take_succ (by omega)]
/-- the first of a heap of a cache's entries is the oldest -/
theorem heap_old {L M : List Ls} {n : Nat} (h : lvB L = true) (h0 : 0 < n) (hi : Heap.Is leB (gl M) n 0) (hp : (Heap.toL (gl M) n).Perm L) : gl M 0 = gl L (oldL L) := by
  have hm : gl M 0 ∈ L := hp.subset (Heap.mem_toL.2 ⟨0, h0, rfl⟩)
  have hmin : ∀ y ∈ L, leB (gl M 0) y := fun y hy => by
    obtain ⟨i, hi', rfl⟩ := Heap.mem_toL.1 (hp.symm.subset hy)
    exact hi.first leB_refl leB_trans i hi'
  obtain ⟨k, hk, hke⟩ := mem_gl hm
  rw [← hke] at hmin ⊢
  congr 1
  refine (old_eq hk (fun i hi => ?_) (fun i hi => ?_)).symm
  · have := hmin _ (gl_mem hi)
    simp only [leB, lsB, decide_eq_false_iff_not] at this; omega
  · have h1 := hmin _ (gl_mem (show i < L.length by omega))
    have h2 := lv_lt h hi hk
    simp only [leB, lsB, decide_eq_false_iff_not] at h1; omega

/-! ### sweeping -/
def exB (x : Ls) (now : Int) : Bool := decide (x.u + 10 < now)
def raB (x : Ls) (now : Int) : Bool := decide (now < x.u)
theorem fr_ex (x : Ls) (now : Int) : frB x now = (!exB x now && !raB x now) := by
  unfold frB exB raB
  rw [Bool.eq_iff_iff]; simp; omega
/-- what is left of a heap: the expired are gone -/
theorem sweep_left {L P R : List Ls} {now : Int} (hp : (P ++ R).Perm L) (h1 : ∀ x ∈ P, exB x now = true) (h2 : ∀ x ∈ R, exB x now = false) : (R.filter fun x => !raB x now).Perm (swL L now) := by
  have h3 := hp.filter (fun x => frB x now)
  rw [List.filter_append] at h3
  have e1 : P.filter (fun x => frB x now) = [] := by
    rw [List.filter_eq_nil_iff]
    intro x hx
    rw [fr_ex, h1 x hx]; simp
  have e2 : R.filter (fun x => frB x now) = R.filter (fun x => !raB x now) := by
    refine List.filter_congr fun x hx => ?_
    rw [fr_ex, h2 x hx]; simp
  rw [e1, e2, List.nil_append] at h3
  exact h3

/-! ### sorting -/
/-- the first i + 1 are sorted, but for element j, that may be before those ahead of it -/
def SrtX (f : Nat → Ls) (i j : Nat) : Prop := ∀ p q, p < q → q ≤ i → q ≠ j → (f p).e ≤ (f q).e
theorem SrtX.step {f : Nat → Ls} {i j : Nat} (h : SrtX f i j) (hj : 0 < j) (hji : j ≤ i) (hlt : (f j).e < (f (j - 1)).e) : SrtX (Heap.sw f j (j - 1)) i (j - 1) := by
  intro p q hpq hqi hq
  by_cases e1 : q = j
  · subst e1
    rw [Heap.sw_l]
    by_cases e2 : p = q - 1
    · subst e2; rw [Heap.sw_r]; omega
    · rw [Heap.sw_o f (by omega) e2]
      exact h p (q - 1) (by omega) (by omega) (by omega)
  · rw [Heap.sw_o f e1 hq]
    by_cases e2 : p = j
    · subst e2; rw [Heap.sw_l]; exact h (p - 1) q (by omega) hqi e1
    · by_cases e3 : p = j - 1
      · subst e3; rw [Heap.sw_r]; exact h j q (by omega) hqi e1
      · rw [Heap.sw_o f e2 e3]; exact h p q hpq hqi e1
/-- the first n are sorted -/
def Srt (f : Nat → Ls) (n : Nat) : Prop := ∀ p q, p < q → q < n → (f p).e ≤ (f q).e
theorem SrtX.start {f : Nat → Ls} {i : Nat} (h : Srt f i) : SrtX f i i := fun p q hpq hq hne => h p q hpq (by omega)
theorem SrtX.zero {f : Nat → Ls} {i : Nat} (h : SrtX f i 0) : Srt f (i + 1) := fun p q hpq hq => h p q hpq (by omega) (by omega)
theorem SrtX.stop {f : Nat → Ls} {i j : Nat} (h : SrtX f i j) (hj : 0 < j) (hji : j ≤ i) (hle : (f (j - 1)).e ≤ (f j).e) : Srt f (i + 1) := by
  intro p q hpq hq
  by_cases e : q = j
  · subst e
    by_cases e2 : p = q - 1
    · subst e2; exact hle
    · have := h p (q - 1) (by omega) (by omega) (by omega); omega
  · exact h p q hpq (by omega) e
/-- sorted by key, and the same entries as a cache: the cache -/
theorem sort_eq {S M : List Ls} (hs : Srt (gl S) S.length) (ho : ordL M) (hp : S.Perm M) : S = M := by
  refine List.Perm.eq_of_pairwise (le := fun x y : Ls => x.e ≤ y.e) (fun a b ha hb h1 h2 => ?_) ?_ ?_ hp
  · exact ord_eq ho (hp.subset ha) hb (by omega)
  · rw [List.pairwise_iff_getElem]
    intro i j hi hj hij
    have := hs i j hij hj
    rwa [gl_get hi, gl_get hj] at this
  · exact List.Pairwise.imp (fun h => by omega) ho
end Go.Proofs.Ytdlapnelehehgab
