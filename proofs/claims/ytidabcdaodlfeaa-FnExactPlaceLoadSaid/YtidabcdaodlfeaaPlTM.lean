/- The program keeps tokens in a map: what the map holds after some nodes and tokens, as a function of the position; its keys in order are the table's positions. -/
import Derived.Test.YtidabcdaodlfeaaPlMath2
import Derived.Maps.OwnSet
import Derived.Lib.SlKeysI
namespace Go.Proofs.Ytidabcdaodlfeaa
open Go.RowKit Go.Maps
set_option linter.unusedVariables false

theorem atP_snoc (zs ws : List Int) (p : Int) (m d : Nat) : atP zs ws p m (d + 1) = if atP zs ws p m d = [] then (if hit zs ws (m + d) p = true then [⟨p, gt zs (m + d)⟩] else []) else atP zs ws p m d := by
  induction d generalizing m with
  | zero =>
    rw [if_pos (show atP zs ws p m 0 = [] from rfl), Nat.add_zero]
    rfl
  | succ d ih =>
    have e1 : atP zs ws p m (d + 1 + 1) = if hit zs ws m p = true then [⟨p, gt zs m⟩] else atP zs ws p (m + 1) (d + 1) := rfl
    have e2 : atP zs ws p m (d + 1) = if hit zs ws m p = true then [⟨p, gt zs m⟩] else atP zs ws p (m + 1) d := rfl
    rw [e1, e2]
    cases h : hit zs ws m p
    · simp only [Bool.false_eq_true, if_false]
      rw [ih (m + 1), show m + 1 + d = m + (d + 1) by omega]
    · simp
/-- the node that has position p among the first i nodes -/
def fstP (zs ws : List Int) (i : Nat) (p : Int) : Option Int := (atP zs ws p 0 i).head?.map Tk.n
/-- .. and the first k tokens of node number i -/
def curF (zs ws : List Int) (i k : Nat) (p : Int) : Option Int :=
  match fstP zs ws i p with
  | some n => some n
  | none => if hitTo zs i p k = true then some (gt zs i) else none
theorem curF_some {zs ws : List Int} {i k : Nat} {p n : Int} (h : fstP zs ws i p = some n) : curF zs ws i k p = some n := by unfold curF; rw [h]
theorem curF_none {zs ws : List Int} {i k : Nat} {p : Int} (h : fstP zs ws i p = none) : curF zs ws i k p = if hitTo zs i p k = true then some (gt zs i) else none := by unfold curF; rw [h]
theorem curF_zero (zs ws : List Int) (i : Nat) : curF zs ws i 0 = fstP zs ws i := by
  funext p
  cases h : fstP zs ws i p
  · rw [curF_none h]; simp [hitTo]
  · rw [curF_some h]
theorem fstP_none {zs ws : List Int} {i : Nat} {p : Int} : fstP zs ws i p = none ↔ atP zs ws p 0 i = [] := by
  unfold fstP
  cases h : atP zs ws p 0 i <;> simp
theorem curF_end {zs ws : List Int} {i c : Nat} (hc : (gt ws i).toNat = c) : curF zs ws i c = fstP zs ws (i + 1) := by
  subst hc
  funext p
  cases h : fstP zs ws i p
  · rw [curF_none h]
    unfold fstP
    rw [atP_snoc, if_pos (fstP_none.1 h), Nat.zero_add]
    show (if hit zs ws i p = true then _ else _) = _
    cases hh : hit zs ws i p <;> simp
  · rw [curF_some h]
    have hn : ¬ atP zs ws p 0 i = [] := fun e => by rw [fstP_none.2 e] at h; cases h
    unfold fstP at h ⊢
    rw [atP_snoc, if_neg hn, h]
theorem curF_yes {zs ws : List Int} {i k : Nat} {q : Int} (hq : tok (gt zs i) k = q) (h : curF zs ws i k q = none) : curF zs ws i (k + 1) = fun p => if p = q then some (gt zs i) else curF zs ws i k p := by
  funext p
  have h0 : fstP zs ws i q = none := by
    cases hf : fstP zs ws i q
    · rfl
    · rw [curF_some hf] at h; cases h
  cases hf : fstP zs ws i p
  · rw [curF_none hf, curF_none hf]
    by_cases e : p = q
    · rw [if_pos e, if_pos (by simp only [hitTo, Bool.or_eq_true, decide_eq_true_eq]; exact .inr (hq.trans e.symm))]
    · have : decide (tok (gt zs i) k = p) = false := by rw [decide_eq_false_iff_not, hq]; exact fun e' => e e'.symm
      rw [if_neg e]
      simp only [hitTo, this, Bool.or_false]
  · rw [curF_some hf, curF_some hf, if_neg]
    intro e; subst e; rw [h0] at hf; cases hf
theorem curF_no {zs ws : List Int} {i k : Nat} {q : Int} (hq : tok (gt zs i) k = q) (h : (curF zs ws i k q).isSome = true) : curF zs ws i (k + 1) = curF zs ws i k := by
  funext p
  cases hf : fstP zs ws i p
  · rw [curF_none hf, curF_none hf]
    by_cases e : p = q
    · subst e
      rw [curF_none hf] at h
      have hh : hitTo zs i p k = true := by
        cases hx : hitTo zs i p k
        · rw [hx] at h; cases h
        · rfl
      simp only [hitTo, hh, Bool.true_or]
    · have : decide (tok (gt zs i) k = p) = false := by rw [decide_eq_false_iff_not, hq]; exact fun e' => e e'.symm
      simp only [hitTo, this, Bool.or_false]
  · rw [curF_some hf, curF_some hf]

/-- a map from numbers to numbers, position by position -/
structure MapIs (D : DataW Unit) (f : Int → Option Int) : Prop where
  isMap : IsMap D
  has : ∀ p, Maps.has D (.int .i64 p) = (f p).isSome
  at_ : ∀ p n, f p = some n → ∀ z, D.atKey (.int .i64 p) z = .lit (.int .i64 n)
theorem mapIs_new : MapIs (.map []) fun _ => none := ⟨isMap_empty, fun p => rfl, fun p n h => by cases h⟩
theorem MapIs.put {D : DataW Unit} {f : Int → Option Int} (h : MapIs D f) (q n : Int) : MapIs (D.put (.int .i64 q) (.lit (.int .i64 n))) fun p => if p = q then some n else f p := by
  have hk : WideAt.IsKeyLit (.int .i64 q) := trivial
  refine ⟨h.isMap.put _ _, fun p => ?_, fun p m hp z => ?_⟩
  · by_cases e : p = q
    · subst e; rw [has_put_same h.isMap hk, if_pos rfl]; rfl
    · rw [has_put_other (by intro e'; injection e' with _ e'; exact e e'), if_neg e]; exact h.has p
  · by_cases e : p = q
    · subst e
      rw [if_pos rfl] at hp
      injection hp with hp; subst hp
      exact atKey_put_same h.isMap hk _ _
    · rw [if_neg e] at hp
      rw [atKey_put_other (by intro e'; injection e' with _ e'; exact e e')]
      exact h.at_ p m hp z

/-- the positions of a table -/
def posT (L : List Tk) : List Int := L.map Tk.p
theorem posT_len (L : List Tk) : (posT L).length = L.length := by simp [posT]
theorem posT_gt {L : List Tk} {i : Nat} (h : i < L.length) : gt (posT L) i = (gk L i).p := by
  rw [gt_get (by rw [posT_len]; exact h), gk_get h]; simp [posT]
theorem posT_asc {L : List Tk} (h : ordK L) : (posT L).Pairwise (fun x y => x < y) := List.pairwise_map.2 h
theorem tab_fst {zs ws : List Int} {x : Tk} (h : x ∈ tabTo zs ws 64) : fstP zs ws zs.length x.p = some x.n := by
  obtain ⟨p, hp, hx⟩ := (mem_tab _ _ _ _).1 h
  rcases atP_some zs ws p 0 zs.length with ⟨h0, _⟩ | ⟨i, _, _, _, _, h1⟩
  · rw [h0] at hx; cases hx
  · rw [h1] at hx
    obtain rfl : x = ⟨p, gt zs i⟩ := by simpa using hx
    unfold fstP
    simp only
    rw [h1]; rfl
theorem fst_tab {zs ws : List Int} {q : Int} (h : (fstP zs ws zs.length q).isSome = true) : q ∈ posT (tabTo zs ws 64) := by
  rcases atP_some zs ws q 0 zs.length with ⟨h0, _⟩ | ⟨i, h1, h2, h3, h4, h5⟩
  · rw [fstP_none.2 h0] at h; cases h
  · obtain ⟨k, _, hk⟩ := (hit_iff _ _ _ _).1 h3
    obtain ⟨t0, t1⟩ := tok_pt (gt zs i) k
    rw [hk] at t0 t1
    obtain ⟨m, rfl⟩ : ∃ m : Nat, q = (m : Int) := ⟨q.toNat, by omega⟩
    have : (⟨(m : Int), gt zs i⟩ : Tk) ∈ tabTo zs ws 64 := (mem_tab _ _ _ _).2 ⟨m, by omega, by rw [h5]; simp⟩
    exact List.mem_map.2 ⟨_, this, rfl⟩
/-- the map's keys, sorted, are the table's positions -/
theorem keys_sorted {zs ws : List Int} {D : DataW Unit} {P : Program} {k : TypeId} {R : Value → Option (DataW Unit × List MemPlace)} {w : World} {b n : Nat}
    (h : MapIs D (fstP zs ws zs.length)) (hown : w.ownsMap P k R b n D) (K : Keyed P k) (hk : P.underlying k = some (.int .i64)) {ss : List Int} (hs : ss.Perm (intKeys D)) :
    ss.mergeSort (fun x y => decide (x ≤ y)) = posT (tabTo zs ws 64) := by
  have ho := posT_asc (tab_ord zs ws 64).1
  have hc : CollectedI D (fun _ => false) (posT (tabTo zs ws 64)) := by
    refine ⟨ho.imp fun h => by omega, fun x => ?_⟩
    rw [h.has x]
    constructor
    · intro hx
      obtain ⟨y, hy, rfl⟩ := List.mem_map.1 hx
      rw [tab_fst hy]; exact ⟨rfl, rfl⟩
    · rintro ⟨hx, _⟩; exact fst_tab hx
  have hp := hc.perm hown K hk (fun _ => rfl)
  have e := mergeSort_of_perm_i (hs.trans hp.symm)
  refine e.trans (List.mergeSort_of_pairwise (ho.imp fun h => ?_))
  simp only [decide_eq_true_eq]; omega
end Go.Proofs.Ytidabcdaodlfeaa
