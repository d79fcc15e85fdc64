/- The laws of dropping. -/
import Derived.Test.YtcbbdhmloniolaaNwRing
import Derived.Test.YtcbbdhmloniolaaLawsH
import Derived.Test.YtcbbdhmloniolaaDrawS
namespace Go.Proofs.Ytcbbdhmloniolaa
open Go.RowKit
set_option linter.unusedVariables false

theorem prV_of {r : List Nd} (h : rvB r = true) : prV r = prL r := by unfold prV; rw [if_pos h]
theorem set_keepP {r : List Nd} {k : Nat} {n : Nd} (hv : rvB r = true) (hv' : rvB (r.set k n) = true) (hk : k < r.length) (hp : n.pos = (gn r k).pos) (hs : ∀ p, liveB r p = true → skB n p = true → skdB r p = true) : KeepP r (r.set k n) := fun x hx hl => by
  rw [prV_of hv] at hx
  rw [prV_of hv']
  obtain ⟨h1, h2⟩ := (mem_pr _ _).1 hx
  refine (mem_pr _ _).2 ⟨hl, (skd_no _ _).2 fun i hi => ?_⟩
  have hi' : i < r.length := by simpa using hi
  rw [gn_set' hi']
  by_cases e : i = k
  · rw [if_pos e]
    cases hsk : skB n x
    · rfl
    · rw [hs x h1 hsk] at h2; cases h2
  · rw [if_neg e]; exact (skd_no _ _).1 h2 i hi'
theorem drop_keepP {r : List Nd} {k : Nat} (h : safeB r = true) (hk : k < r.length) : KeepP r (dropR r k) := by
  have hok := drop_ok h hk
  unfold dropR at hok ⊢
  split at hok
  · rename_i hx; rw [if_pos hx]; exact fun x hx _ => hx
  · rename_i hx; rw [if_neg hx]
    have hx : liveB r (gt (gn r k).aft 0) = false := by simpa using hx
    obtain ⟨hv, hls, _⟩ := (safe_iff r).1 h
    obtain ⟨hp, _, h0, h1, ha⟩ := nd_open hv hk
    refine set_keepP hv (safe_rv hok.safe) hk rfl fun p hpl hsk => skd_of hk ?_
    have hpp := live_pt hv hpl
    rw [sk_wAft] at hsk
    rw [skB]
    simp only [Bool.or_eq_true, btwI_iff] at hsk ⊢
    have hne : p ≠ gt (gn r k).aft 0 := fun e => by rw [e] at hpl; rw [hx] at hpl; cases hpl
    rcases hsk with hsk | hsk <;> omega
theorem nd_ext3 {n m : Nd} (h1 : n.pos = m.pos) (h2 : n.bef = m.bef) (h3 : n.aft = m.aft) : n = m := by
  cases n; cases m; simp at h1 h2 h3; subst h1 h2 h3; rfl
theorem idx_same2 {r r' : List Nd} (hv : rvB r = true) (hl : r'.length = r.length) (hp : ∀ i, i < r.length → (gn r' i).pos = (gn r i).pos) {x : Int} (h : liveB r x = true) : idxR r' x = idxR r x := by
  obtain ⟨h1, h2, _⟩ := idx_live h
  obtain ⟨k1, k2, _⟩ := idx_live (show liveB r' x = true by rw [live_same hl hp]; exact h)
  have k3 := hp (idxR r' x) (by omega)
  rw [k2] at k3
  exact rv_inj hv (by omega) h1 (by rw [h2, ← k3])
theorem sz_rv4 {r : List Nd} (h : rvB r = true) : szR r ≤ 1048576 := by
  have h10 := rv_len h
  have : ∀ k, k ≤ r.length → sumA r k ≤ 2 * k := fun k => by
    induction k with
    | zero => intro _; exact Nat.le_refl _
    | succ k ih =>
      intro hk
      have h2 := (nd_open h (show k < r.length by omega)).2.2.2.2
      have h3 : (gn r k).aft.length = 2 := by rw [h2]; rfl
      have := ih (by omega)
      rw [sumA, h3]; omega
  have := this r.length (Nat.le_refl _)
  unfold szR; omega
theorem sel_sz4 {r : List Nd} {ok : Bool} {i : Int} {f : Nat → List Nd} (hf : safeB r = true → ∀ k, k < r.length → rvB (f k) = true) (hok : ok = true → safeB r = true) : szR (selR r ok i f) ≤ 1048576 := by
  unfold selR
  split
  · rename_i h
    split
    · rename_i hl; exact sz_rv4 (hf (hok h) _ (idx_live hl).1)
    · exact sz_rv4 (safe_rv (hok h))
  · simp [szR, sumA]


end Go.Proofs.Ytcbbdhmloniolaa
