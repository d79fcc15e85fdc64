/- The steps of a ring as functions on lists; a safe ring stays safe. -/
import Derived.Test.YtcbbdhmloniolaaMB
namespace Go.Proofs.Ytcbbdhmloniolaa
set_option linter.unusedVariables false


def idxR (r : List Nd) (x : Int) : Nat := (fndI r x).toNat
theorem idx_live {r : List Nd} {x : Int} (h : liveB r x = true) : idxR r x < r.length ∧ (gn r (idxR r x)).pos = x ∧ fndI r x = idxR r x := by
  obtain ⟨k, h1, h2, h3⟩ := fnd_live h
  unfold idxR; rw [h2]; exact ⟨by simpa using h1, by simpa using h3, by simp⟩
theorem gn_set' {r : List Nd} {k i : Nat} {n : Nd} (hi : i < r.length) : gn (r.set k n) i = if i = k then n else gn r i := by
  rw [gn_get (by simpa using hi), List.getElem_set]
  by_cases e : k = i
  · rw [if_pos e, if_pos e.symm]
  · rw [if_neg e, if_neg (Ne.symm e), gn_get hi]

def wAft (n : Nd) (x y : Int) : Nd := ⟨n.pos, n.bef, [x, y]⟩
def dropS (r : List Nd) (k : Nat) : List Nd := r.set k (wAft (gn r k) (gt (gn r k).aft 1) ((gt (gn r k).aft 1 + 1) % 64))
def dropR (r : List Nd) (k : Nat) : List Nd := if liveB r (gt (gn r k).aft 0) then r else dropS r k
def dropB (r : List Nd) (k : Nat) : Bool := !liveB r (gt (gn r k).aft 0)
def folR (r : List Nd) (k s : Nat) : List Nd := r.set k (wAft (gn r k) (gn r s).pos (gt (gn r s).aft 0))
def adoptB (r : List Nd) (k : Nat) : Bool := liveB r (gt (gn r k).aft 0)
def adoptR (r : List Nd) (k : Nat) : List Nd := if adoptB r k then folR r k (idxR r (gt (gn r k).aft 0)) else r
def closerB (r : List Nd) (k : Nat) (o : Int) : Bool := liveB r o && btwI (gn r k).pos o (gt (gn r k).aft 0)
def closerR (r : List Nd) (k : Nat) (o : Int) : List Nd := if closerB r k o then folR r k (idxR r o) else r
def keepB (r : List Nd) (n : Nd) (o : Int) : Bool := decide (0 ≤ n.bef) && liveB r n.bef && !btwI n.bef o n.pos
def notB (r : List Nd) (k : Nat) (o : Int) : Bool := liveB r o && !decide (o = (gn r k).pos) && !keepB r (gn r k) o
def notR (r : List Nd) (k : Nat) (o : Int) : List Nd := if notB r k o then r.set k ⟨(gn r k).pos, o, (gn r k).aft⟩ else r
/-- behind the loop that drops dead successors -/
def drop2 (r : List Nd) (k : Nat) : List Nd := if dropB r k then dropR (dropR r k) k else dropR r k
def first (r : List Nd) (k : Nat) : Int := gt (gn r k).aft 0
def stab2 (r : List Nd) (k : Nat) : List Nd := adoptR (drop2 r k) k
def stab3 (r : List Nd) (k : Nat) : List Nd := if 0 ≤ (gn (stab2 r k) (idxR (stab2 r k) (first (stab2 r k) k))).bef then closerR (stab2 r k) k (gn (stab2 r k) (idxR (stab2 r k) (first (stab2 r k) k))).bef else stab2 r k
def stabR (r : List Nd) (k : Nat) : List Nd := notR (stab3 r k) (idxR (stab3 r k) (first (stab3 r k) k)) (gn (stab3 r k) k).pos

/-- what a set of one node keeps -/
structure SetOk (r r' : List Nd) : Prop where
  len : r'.length = r.length
  pos : ∀ i, i < r.length → (gn r' i).pos = (gn r i).pos
  safe : safeB r' = true
theorem SetOk.refl {r : List Nd} (h : safeB r = true) : SetOk r r := ⟨rfl, fun _ _ => rfl, h⟩
theorem SetOk.trans {a b c : List Nd} (h : SetOk a b) (k : SetOk b c) : SetOk a c := ⟨k.len.trans h.len, fun i hi => (k.pos i (by rw [h.len]; exact hi)).trans (h.pos i hi), k.safe⟩
theorem live_same {r r' : List Nd} (hl : r'.length = r.length) (hp : ∀ i, i < r.length → (gn r' i).pos = (gn r i).pos) (x : Int) : liveB r' x = liveB r x := by
  rw [Bool.eq_iff_iff, live_iff, live_iff]
  constructor
  · rintro ⟨i, hi, h⟩; rw [hl] at hi; exact ⟨i, hi, by rw [← hp i hi]; exact h⟩
  · rintro ⟨i, hi, h⟩; exact ⟨i, by rw [hl]; exact hi, by rw [hp i hi]; exact h⟩
theorem safe_rv {r : List Nd} (h : safeB r = true) : rvB r = true := ((safe_iff r).1 h).1
theorem set_rv {r : List Nd} {k : Nat} {n : Nd} (h : rvB r = true) (hk : k < r.length) (hp : n.pos = (gn r k).pos) (hn : ndB n = true) : rvB (r.set k n) = true := by
  rw [rv_iff] at h ⊢
  have hpos : ∀ i, i < r.length → (gn (r.set k n) i).pos = (gn r i).pos := fun i hi => by
    rw [gn_set' hi]; by_cases e : i = k
    · rw [if_pos e, hp, e]
    · rw [if_neg e]
  refine ⟨by simpa using h.1, fun i hi => ?_⟩
  have hi' : i < r.length := by simpa using hi
  obtain ⟨h1, h2⟩ := h.2 i hi'
  refine ⟨?_, ?_⟩
  · rw [gn_set' hi']; by_cases e : i = k
    · rw [if_pos e]; exact hn
    · rw [if_neg e]; exact h1
  · rcases h2 with h2 | h2
    · exact .inl h2
    · exact .inr (by rw [hpos i hi', hpos (i - 1) (by omega)]; exact h2)
/-- a node is changed, nobody is skipped that was not skipped before -/
theorem safe_set {r : List Nd} {k : Nat} {n : Nd} (h : safeB r = true) (hk : k < r.length) (hp : n.pos = (gn r k).pos) (hn : ndB n = true) (hl : lsB r n = true) (hs : ∀ p, liveB r p = true → skB n p = true → skdB r p = true) : SetOk r (r.set k n) := by
  obtain ⟨hv, hls, h3⟩ := (safe_iff r).1 h
  have hlen : (r.set k n).length = r.length := by simp
  have hpos : ∀ i, i < r.length → (gn (r.set k n) i).pos = (gn r i).pos := fun i hi => by
    rw [gn_set' hi]; by_cases e : i = k
    · rw [if_pos e, hp, e]
    · rw [if_neg e]
  have hlive := live_same hlen hpos
  have hv' := set_rv hv hk hp hn
  refine ⟨hlen, hpos, (safe_iff _).2 ⟨hv', fun i hi => ?_, ?_⟩⟩
  · rw [hlen] at hi
    have e : ∀ m, lsB (r.set k n) m = lsB r m := fun m => by unfold lsB; rw [hlive, hlive]
    rw [e, gn_set' hi]
    by_cases e : i = k
    · rw [if_pos e]; exact hl
    · rw [if_neg e]; exact hls i hi
  · refine Nat.le_trans h3 (sub_len _ _ (pr_nodup hv) fun q hq => ?_)
    obtain ⟨h1, h2⟩ := (mem_pr _ _).1 hq
    refine (mem_pr _ _).2 ⟨by rw [hlive]; exact h1, (skd_no _ _).2 fun i hi => ?_⟩
    rw [hlen] at hi
    rw [gn_set' hi]
    by_cases e : i = k
    · rw [if_pos e]
      cases hsk : skB n q
      · rfl
      · rw [hs q h1 hsk] at h2; cases h2
    · rw [if_neg e]; exact (skd_no _ _).1 h2 i hi
theorem live_pt {r : List Nd} (hv : rvB r = true) {p : Int} (h : liveB r p = true) : 0 ≤ p ∧ p < 64 := by
  obtain ⟨i, hi, e⟩ := (live_iff _ _).1 h
  have := ((ndB_iff _).1 (rv_nd hv hi)).1
  rw [e] at this; exact this
theorem nd_open {r : List Nd} (hv : rvB r = true) {k : Nat} (hk : k < r.length) : (0 ≤ (gn r k).pos ∧ (gn r k).pos < 64) ∧ ((gn r k).bef = -1 ∨ 0 ≤ (gn r k).bef ∧ (gn r k).bef < 64) ∧ (0 ≤ gt (gn r k).aft 0 ∧ gt (gn r k).aft 0 < 64) ∧ (0 ≤ gt (gn r k).aft 1 ∧ gt (gn r k).aft 1 < 64) ∧ (gn r k).aft = [gt (gn r k).aft 0, gt (gn r k).aft 1] := by
  obtain ⟨h1, h2, x, y, ha, hx, hy⟩ := (ndB_iff _).1 (rv_nd hv hk)
  have e0 : gt [x, y] 0 = x := rfl
  have e1 : gt [x, y] 1 = y := rfl
  rw [ha, e0, e1]; exact ⟨h1, h2, hx, hy, rfl⟩
theorem nd_wAft {n : Nd} {x y : Int} (h : ndB n = true) (hx : 0 ≤ x ∧ x < 64) (hy : 0 ≤ y ∧ y < 64) : ndB (wAft n x y) = true := by
  obtain ⟨h1, h2, _⟩ := (ndB_iff _).1 h
  exact (ndB_iff _).2 ⟨h1, h2, x, y, rfl, hx, hy⟩
theorem sk_wAft (n : Nd) (x y p : Int) : skB (wAft n x y) p = (btwI n.pos p x || btwI x p y) := rfl
theorem skd_of {r : List Nd} {k : Nat} (hk : k < r.length) {p : Int} (h : skB (gn r k) p = true) : skdB r p = true := (skd_iff _ _).2 ⟨k, hk, h⟩

/-- dropping keeps a ring safe -/
theorem drop_ok {r : List Nd} {k : Nat} (h : safeB r = true) (hk : k < r.length) : SetOk r (dropR r k) := by
  unfold dropR
  split
  · exact SetOk.refl h
  · rename_i hx
    have hx : liveB r (gt (gn r k).aft 0) = false := by simpa using hx
    obtain ⟨hv, hls, _⟩ := (safe_iff r).1 h
    obtain ⟨hp, _, h0, h1, ha⟩ := nd_open hv hk
    have hy : liveB r (gt (gn r k).aft 1) = true := by have := hls k hk; rw [lsB, hx] at this; simpa using this
    refine safe_set h hk rfl (nd_wAft (rv_nd hv hk) h1 (by omega)) (by show lsB r (wAft _ _ _) = true; unfold lsB; show (liveB r (gt (gn r k).aft 1) || _) = true; rw [hy]; rfl) fun p hpl hsk => skd_of hk ?_
    have hpp := live_pt hv hpl
    rw [sk_wAft] at hsk
    rw [skB]
    simp only [Bool.or_eq_true, btwI_iff] at hsk ⊢
    have hne : p ≠ gt (gn r k).aft 0 := fun e => by rw [e] at hpl; rw [hx] at hpl; cases hpl
    rcases hsk with hsk | hsk <;> omega
theorem drop_first {r : List Nd} {k : Nat} (h : safeB r = true) (hk : k < r.length) : liveB (drop2 r k) (first (drop2 r k) k) = true ∧ SetOk r (drop2 r k) := by
  obtain ⟨hv, hls, _⟩ := (safe_iff r).1 h
  unfold drop2
  cases hx : liveB r (gt (gn r k).aft 0)
  · have hb : dropB r k = true := by simp [dropB, hx]
    rw [if_pos hb]
    have ho := drop_ok h hk
    have hk' : k < (dropR r k).length := by rw [ho.len]; exact hk
    have e : dropR r k = dropS r k := by rw [dropR, hx]; rfl
    have hy : liveB r (gt (gn r k).aft 1) = true := by have := hls k hk; rw [lsB, hx] at this; simpa using this
    have hf : gt (gn (dropR r k) k).aft 0 = gt (gn r k).aft 1 := by rw [e, dropS, gn_set' hk, if_pos rfl]; rfl
    have hlv : liveB (dropR r k) (gt (gn (dropR r k) k).aft 0) = true := by rw [hf, live_same ho.len ho.pos]; exact hy
    have e2 : dropR (dropR r k) k = dropR r k := by rw [dropR.eq_1 (dropR r k), if_pos hlv]
    rw [e2]; exact ⟨hlv, ho⟩
  · have hb : dropB r k = false := by simp [dropB, hx]
    rw [if_neg (by rw [hb]; simp)]
    have e : dropR r k = r := by rw [dropR, hx]; rfl
    rw [e]; exact ⟨hx, SetOk.refl h⟩
/-- following a live node at which nobody new is skipped -/
theorem fol_ok {r : List Nd} {k : Nat} {o : Int} (h : safeB r = true) (hk : k < r.length) (hl : liveB r o = true) (hb : o = gt (gn r k).aft 0 ∨ btwI (gn r k).pos o (gt (gn r k).aft 0) = true) : SetOk r (folR r k (idxR r o)) ∧ gt (gn (folR r k (idxR r o)) k).aft 0 = o := by
  obtain ⟨hv, hls, _⟩ := (safe_iff r).1 h
  obtain ⟨hs, hso, _⟩ := idx_live hl
  obtain ⟨hp, _, h0, h1, ha⟩ := nd_open hv hk
  obtain ⟨hp', _, h0', h1', ha'⟩ := nd_open hv hs
  rw [hso] at hp'
  refine ⟨?_, by rw [folR, gn_set' hk, if_pos rfl]; exact hso⟩
  refine safe_set h hk rfl (nd_wAft (rv_nd hv hk) (by rw [hso]; exact hp') h0') (by unfold lsB; show (liveB r (gn r (idxR r o)).pos || _) = true; rw [hso, hl]; rfl) fun p hpl hsk => ?_
  have hpp := live_pt hv hpl
  rw [sk_wAft, hso] at hsk
  rcases Bool.or_eq_true _ _ ▸ hsk with hsk | hsk
  · refine skd_of hk ?_
    rw [skB]
    simp only [Bool.or_eq_true, btwI_iff] at hsk hb ⊢
    omega
  · refine skd_of hs ?_
    rw [skB, hso, hsk]; rfl
theorem adopt_ok {r : List Nd} {k : Nat} (h : safeB r = true) (hk : k < r.length) : SetOk r (adoptR r k) := by
  unfold adoptR; split
  · rename_i hb; exact (fol_ok h hk hb (.inl rfl)).1
  · exact SetOk.refl h
theorem closer_ok {r : List Nd} {k : Nat} {o : Int} (h : safeB r = true) (hk : k < r.length) : SetOk r (closerR r k o) := by
  unfold closerR; split
  · rename_i hb
    unfold closerB at hb
    obtain ⟨h1, h2⟩ := Bool.and_eq_true _ _ ▸ hb
    exact (fol_ok h hk h1 (.inr h2)).1
  · exact SetOk.refl h
theorem not_ok {r : List Nd} {k : Nat} {o : Int} (h : safeB r = true) (hk : k < r.length) : SetOk r (notR r k o) := by
  unfold notR; split
  · rename_i hb
    obtain ⟨hv, hls, _⟩ := (safe_iff r).1 h
    have hl : liveB r o = true := by unfold notB at hb; simp at hb; exact hb.1.1
    have hop := live_pt hv hl
    obtain ⟨h1, h2, x, y, ha, hx, hy⟩ := (ndB_iff _).1 (rv_nd hv hk)
    refine safe_set h hk rfl ((ndB_iff _).2 ⟨h1, .inr hop, x, y, ha, hx, hy⟩) (by have := hls k hk; unfold lsB at this ⊢; exact this) fun p hpl hsk => skd_of hk hsk
  · exact SetOk.refl h
theorem stab2_ok {r : List Nd} {k : Nat} (h : safeB r = true) (hk : k < r.length) : SetOk r (stab2 r k) ∧ liveB (stab2 r k) (first (stab2 r k) k) = true := by
  obtain ⟨hl, ho⟩ := drop_first h hk
  have hk1 : k < (drop2 r k).length := by rw [ho.len]; exact hk
  have hb : adoptB (drop2 r k) k = true := hl
  have hf := fol_ok ho.safe hk1 hl (.inl rfl)
  have e : stab2 r k = folR (drop2 r k) k (idxR (drop2 r k) (first (drop2 r k) k)) := by rw [stab2, adoptR, if_pos hb]; rfl
  rw [e]
  refine ⟨ho.trans hf.1, ?_⟩
  have ef : first (folR (drop2 r k) k (idxR (drop2 r k) (first (drop2 r k) k))) k = first (drop2 r k) k := hf.2
  rw [ef, live_same hf.1.len hf.1.pos]; exact hl
theorem stab3_ok {r : List Nd} {k : Nat} (h : safeB r = true) (hk : k < r.length) : SetOk r (stab3 r k) ∧ liveB (stab3 r k) (first (stab3 r k) k) = true := by
  obtain ⟨h2, hl2⟩ := stab2_ok h hk
  have hk2 : k < (stab2 r k).length := by rw [h2.len]; exact hk
  unfold stab3
  split
  · generalize (gn (stab2 r k) (idxR (stab2 r k) (first (stab2 r k) k))).bef = o
    refine ⟨h2.trans (closer_ok h2.safe hk2), ?_⟩
    have ho := closer_ok (o := o) h2.safe hk2
    rw [live_same ho.len ho.pos]
    unfold closerR
    split
    · rename_i hb
      unfold closerB at hb
      obtain ⟨h1, h3⟩ := Bool.and_eq_true _ _ ▸ hb
      rw [first, (fol_ok h2.safe hk2 h1 (.inr h3)).2]; exact h1
    · exact hl2
  · exact ⟨h2, hl2⟩
theorem stab_ok {r : List Nd} {k : Nat} (h : safeB r = true) (hk : k < r.length) : SetOk r (stabR r k) := by
  obtain ⟨h3, hl3⟩ := stab3_ok h hk
  exact h3.trans (not_ok h3.safe (idx_live hl3).1)
end Go.Proofs.Ytcbbdhmloniolaa
