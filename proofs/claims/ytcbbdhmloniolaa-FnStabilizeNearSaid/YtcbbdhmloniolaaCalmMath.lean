/- Rounds come to an end: a measure that each round lowers, or the ring stays as it is. -/
import Derived.Test.YtcbbdhmloniolaaStepMath
namespace Go.Proofs.Ytcbbdhmloniolaa
set_option linter.unusedVariables false

def dI (a b : Int) : Nat := ((b - a - 1) % 64).toNat
theorem dI_lt (a b : Int) : dI a b < 64 := by unfold dI; omega
theorem dI_btw1 {a o b : Int} (ha : 0 ≤ a ∧ a < 64) (ho : 0 ≤ o ∧ o < 64) (hb : 0 ≤ b ∧ b < 64) (h : btwI a o b = true) : dI a o < dI a b := by
  rw [btwI_iff] at h; unfold dI; omega
theorem dI_btw2 {a o b : Int} (ha : 0 ≤ a ∧ a < 64) (ho : 0 ≤ o ∧ o < 64) (hb : 0 ≤ b ∧ b < 64) (h : btwI a o b = true) : dI o b < dI a b := by
  rw [btwI_iff] at h; unfold dI; omega

def fm (r : List Nd) (n : Nd) : Nat := if liveB r (gt n.aft 0) then dI n.pos (gt n.aft 0) else 64
def bm (r : List Nd) (n : Nd) : Nat := if decide (0 ≤ n.bef) && liveB r n.bef then dI n.bef n.pos else 64
def sumTo (f : Nat → Nat) : Nat → Nat
  | 0 => 0
  | k + 1 => sumTo f k + f k
theorem sumTo_congr {f g : Nat → Nat} {n : Nat} (h : ∀ i, i < n → f i = g i) : sumTo f n = sumTo g n := by
  induction n with
  | zero => rfl
  | succ n ih => rw [sumTo, sumTo, ih (fun i hi => h i (by omega)), h n (by omega)]
theorem sumTo_one {f g : Nat → Nat} {n k : Nat} (hk : k < n) (h : ∀ i, i < n → i ≠ k → f i = g i) : sumTo f n + g k = sumTo g n + f k := by
  induction n with
  | zero => omega
  | succ n ih =>
    rw [sumTo, sumTo]
    by_cases e : k = n
    · subst e
      rw [sumTo_congr (fun i hi => h i (by omega) (by omega))]; omega
    · have := ih (by omega) (fun i hi => h i (by omega))
      have := h n (by omega) (Ne.symm e)
      omega
def vm (r : List Nd) (n : Nd) : Nat := fm r n + bm r n
def mm (r : List Nd) : Nat := sumTo (fun i => vm r (gn r i)) r.length
theorem mm_le {r r' : List Nd} (h : r' = r ∨ mm r' < mm r) : mm r' ≤ mm r := by
  rcases h with e | e
  · rw [e]; exact Nat.le_refl _
  · omega
theorem vm_same {r r' : List Nd} (h : ∀ x, liveB r' x = liveB r x) (n : Nd) : vm r' n = vm r n := by unfold vm fm bm; rw [h, h]
theorem live_set {r : List Nd} {k : Nat} {n : Nd} (hk : k < r.length) (hp : n.pos = (gn r k).pos) (x : Int) : liveB (r.set k n) x = liveB r x :=
  live_same (by simp) (fun i hi => by
    rw [gn_set' hi]
    by_cases e : i = k
    · rw [if_pos e, hp, e]
    · rw [if_neg e]) x
theorem set_mm {r : List Nd} {k : Nat} {n : Nd} (hk : k < r.length) (hp : n.pos = (gn r k).pos) : mm (r.set k n) + vm r (gn r k) = mm r + vm r n := by
  unfold mm
  rw [List.length_set]
  have h := sumTo_one (f := fun i => vm (r.set k n) (gn (r.set k n) i)) (g := fun i => vm r (gn r i)) hk (fun i hi hne => by
    show vm _ _ = vm _ _
    rw [vm_same (live_set hk hp), gn_set' hi, if_neg hne])
  have e : vm (r.set k n) (gn (r.set k n) k) = vm r n := by rw [vm_same (live_set hk hp), gn_set' hk, if_pos rfl]
  simp only [e] at h
  exact h
theorem drop_mm {r : List Nd} {k : Nat} (h : safeB r = true) (hk : k < r.length) : dropR r k = r ∨ mm (dropR r k) < mm r := by
  unfold dropR
  split
  · exact .inl rfl
  · rename_i hx
    have hx : liveB r (gt (gn r k).aft 0) = false := by simpa using hx
    have hy : liveB r (gt (gn r k).aft 1) = true := by have := ((safe_iff r).1 h).2.1 k hk; rw [lsB, hx] at this; simpa using this
    refine .inr ?_
    have hs := set_mm (r := r) (n := wAft (gn r k) (gt (gn r k).aft 1) ((gt (gn r k).aft 1 + 1) % 64)) hk rfl
    have e1 : fm r (wAft (gn r k) (gt (gn r k).aft 1) ((gt (gn r k).aft 1 + 1) % 64)) = dI (gn r k).pos (gt (gn r k).aft 1) := by
      unfold fm; show (if liveB r (gt (gn r k).aft 1) = true then _ else _) = _; rw [if_pos hy]; rfl
    have e2 : fm r (gn r k) = 64 := by unfold fm; rw [hx]; rfl
    have e3 : bm r (wAft (gn r k) (gt (gn r k).aft 1) ((gt (gn r k).aft 1 + 1) % 64)) = bm r (gn r k) := rfl
    have := dI_lt (gn r k).pos (gt (gn r k).aft 1)
    unfold vm at hs
    unfold dropS
    omega
/-- the ring in which the k-th node has the successors of its first successor -/
def adS (r : List Nd) (k : Nat) : List Nd := r.set k (wAft (gn r k) (first r k) (first r (idxR r (first r k))))
theorem adS_mm {r : List Nd} {k : Nat} (hk : k < r.length) : mm (adS r k) = mm r := by
  have hs := set_mm (r := r) (n := wAft (gn r k) (first r k) (first r (idxR r (first r k)))) hk rfl
  have e : vm r (wAft (gn r k) (first r k) (first r (idxR r (first r k)))) = vm r (gn r k) := rfl
  unfold adS
  omega
theorem adopt_adS {r : List Nd} {k : Nat} (hk : k < r.length) (hl : liveB r (first r k) = true) : adoptR r k = adS r k := by
  have h2 := (idx_live hl).2.1
  rw [adoptR, adoptB, show gt (gn r k).aft 0 = first r k from rfl, hl, if_pos rfl, folR, adS]
  rw [h2]; rfl
theorem closer_mm {r : List Nd} {k : Nat} {o : Int} (h : safeB r = true) (hk : k < r.length) (hl : liveB r (first r k) = true) : closerR r k o = r ∨ mm (closerR r k o) < mm r := by
  unfold closerR
  split
  · rename_i hb
    unfold closerB at hb
    obtain ⟨h1, h3⟩ := Bool.and_eq_true _ _ ▸ hb
    refine .inr ?_
    obtain ⟨_, hso, _⟩ := idx_live h1
    have hv := safe_rv h
    obtain ⟨hp, _, h0, _, _⟩ := nd_open hv hk
    have hop := live_pt hv h1
    have hs := set_mm (r := r) (n := wAft (gn r k) (gn r (idxR r o)).pos (gt (gn r (idxR r o)).aft 0)) hk rfl
    have e1 : fm r (wAft (gn r k) (gn r (idxR r o)).pos (gt (gn r (idxR r o)).aft 0)) = dI (gn r k).pos o := by
      unfold fm; show (if liveB r (gn r (idxR r o)).pos = true then dI (gn r k).pos (gn r (idxR r o)).pos else _) = _; rw [hso, if_pos h1]
    have e2 : fm r (gn r k) = dI (gn r k).pos (gt (gn r k).aft 0) := by unfold fm; rw [show liveB r (gt (gn r k).aft 0) = true from hl]; rfl
    have e3 : bm r (wAft (gn r k) (gn r (idxR r o)).pos (gt (gn r (idxR r o)).aft 0)) = bm r (gn r k) := rfl
    have := dI_btw1 hp hop h0 h3
    unfold vm at hs
    unfold folR
    omega
  · exact .inl rfl
theorem not_mm {r : List Nd} {k : Nat} {o : Int} (h : safeB r = true) (hk : k < r.length) : notR r k o = r ∨ mm (notR r k o) < mm r := by
  unfold notR
  split
  · rename_i hb
    refine .inr ?_
    unfold notB at hb
    simp only [Bool.and_eq_true, Bool.not_eq_true'] at hb
    obtain ⟨⟨h1, h2⟩, h3⟩ := hb
    have hv := safe_rv h
    obtain ⟨hp, hbf, _, _, _⟩ := nd_open hv hk
    have hop := live_pt hv h1
    have hs := set_mm (r := r) (n := ⟨(gn r k).pos, o, (gn r k).aft⟩) hk rfl
    have e1 : bm r ⟨(gn r k).pos, o, (gn r k).aft⟩ = dI o (gn r k).pos := by
      unfold bm; show (if (decide (0 ≤ o) && liveB r o) = true then dI o (gn r k).pos else _) = _; rw [h1, decide_eq_true hop.1]; rfl
    have e3 : fm r ⟨(gn r k).pos, o, (gn r k).aft⟩ = fm r (gn r k) := rfl
    have hlt := dI_lt o (gn r k).pos
    have e2 : dI o (gn r k).pos < bm r (gn r k) := by
      unfold bm
      split
      · rename_i hc
        unfold keepB at h3
        rw [hc] at h3
        have hbt : btwI (gn r k).bef o (gn r k).pos = true := by simpa using h3
        obtain ⟨hc1, hc2⟩ := Bool.and_eq_true _ _ ▸ hc
        exact dI_btw2 (live_pt hv hc2) hop hp hbt
      · exact hlt
    unfold vm at hs
    omega
  · exact .inl rfl
theorem stab_mm {r : List Nd} {k : Nat} (h : safeB r = true) (hk : k < r.length) : (liveB r (first r k) = true ∧ stabR r k = adS r k) ∨ mm (stabR r k) < mm r := by
  obtain ⟨h2, hl2⟩ := stab2_ok h hk
  obtain ⟨h3, hl3⟩ := stab3_ok h hk
  have hk2 : k < (stab2 r k).length := by rw [h2.len]; exact hk
  have n3 : stab3 r k = stab2 r k ∨ mm (stab3 r k) < mm (stab2 r k) := by
    unfold stab3
    split
    · exact closer_mm h2.safe hk2 hl2
    · exact .inl rfl
  have n4 : stabR r k = stab3 r k ∨ mm (stabR r k) < mm (stab3 r k) := not_mm h3.safe (idx_live hl3).1
  have le34 : mm (stabR r k) ≤ mm (stab2 r k) := by
    have a : mm (stab3 r k) ≤ mm (stab2 r k) := mm_le n3
    have b : mm (stabR r k) ≤ mm (stab3 r k) := mm_le n4
    omega
  obtain ⟨hd1, hd2⟩ := drop_first h hk
  have hkd : k < (drop2 r k).length := by rw [hd2.len]; exact hk
  have ead : stab2 r k = adS (drop2 r k) k := adopt_adS hkd hd1
  have emm : mm (stab2 r k) = mm (drop2 r k) := by rw [ead]; exact adS_mm hkd
  cases hx : liveB r (first r k)
  · refine .inr ?_
    have hb : dropB r k = true := by simp [dropB, show liveB r (gt (gn r k).aft 0) = false from hx]
    have hne : dropR r k ≠ r := fun e => by
      have hl := hd1
      rw [drop2, if_pos hb, e, e, hx] at hl
      cases hl
    have ho := drop_ok h hk
    have a1 : mm (dropR r k) < mm r := (drop_mm h hk).resolve_left hne
    have a2 : mm (dropR (dropR r k) k) ≤ mm (dropR r k) := by
      rcases drop_mm ho.safe (show k < (dropR r k).length by rw [ho.len]; exact hk) with e | e
      · rw [e]; exact Nat.le_refl _
      · omega
    have e : drop2 r k = dropR (dropR r k) k := by rw [drop2, if_pos hb]
    rw [e] at emm
    omega
  · have hb : dropB r k = false := by simp [dropB, show liveB r (gt (gn r k).aft 0) = true from hx]
    have e : drop2 r k = r := by rw [drop2, hb, if_neg (by simp), dropR, show liveB r (gt (gn r k).aft 0) = true from hx, if_pos rfl]
    rw [e] at emm ead
    rcases n3 with e3 | e3
    · rcases n4 with e4 | e4
      · exact .inl ⟨rfl, by rw [e4, e3, ead]⟩
      · rw [e3] at e4; exact .inr (by omega)
    · exact .inr (by
        have b : mm (stabR r k) ≤ mm (stab3 r k) := mm_le n4
        omega)

/-- the first k nodes have stabilized -/
def rndTo (r : List Nd) : Nat → List Nd
  | 0 => r
  | k + 1 => stabR (rndTo r k) k
def rndR (r : List Nd) : List Nd := rndTo r r.length
theorem rnd_ok {r : List Nd} (h : safeB r = true) : ∀ {k : Nat}, k ≤ r.length → SetOk r (rndTo r k) := by
  intro k
  induction k with
  | zero => intro _; exact SetOk.refl h
  | succ k ih =>
    intro hk
    have ho := ih (by omega)
    exact ho.trans (stab_ok ho.safe (by rw [ho.len]; omega))
def sec (r : List Nd) (k : Nat) : Int := gt (gn r k).aft 1
/-- as r, but the first k nodes have the successors of their first successors -/
structure Sm (r r' : List Nd) (k : Nat) : Prop where
  len : r'.length = r.length
  pos : ∀ i, i < r.length → (gn r' i).pos = (gn r i).pos
  bef : ∀ i, i < r.length → (gn r' i).bef = (gn r i).bef
  fst : ∀ i, i < r.length → first r' i = first r i
  sec1 : ∀ i, i < k → sec r' i = first r (idxR r (first r i))
  sec2 : ∀ i, i < r.length → k ≤ i → sec r' i = sec r i
  liv : ∀ i, i < k → liveB r (first r i) = true
theorem idx_same {r r' : List Nd} (hv : rvB r = true) (hl : r'.length = r.length) (hp : ∀ i, i < r.length → (gn r' i).pos = (gn r i).pos) {x : Int} (h : liveB r x = true) : idxR r' x = idxR r x := by
  obtain ⟨a1, a2, _⟩ := idx_live h
  obtain ⟨b1, b2, _⟩ := idx_live (r := r') (by rw [live_same hl hp]; exact h)
  rw [hl] at b1
  exact rv_inj hv b1 a1 (by rw [← hp _ b1, b2, a2])
theorem rnd_sm {r : List Nd} (h : safeB r = true) : ∀ {k : Nat}, k ≤ r.length → Sm r (rndTo r k) k ∨ mm (rndTo r k) < mm r := by
  intro k
  induction k with
  | zero => intro _; exact .inl ⟨rfl, fun _ _ => rfl, fun _ _ => rfl, fun _ _ => rfl, fun i hi => absurd hi (by omega), fun _ _ _ => rfl, fun i hi => absurd hi (by omega)⟩
  | succ k ih =>
    intro hk
    have ho := rnd_ok h (show k ≤ r.length by omega)
    have hk' : k < (rndTo r k).length := by rw [ho.len]; omega
    have hst := stab_mm ho.safe hk'
    rw [rndTo]
    rcases ih (by omega) with hs | hs
    · rcases hst with ⟨hl, e⟩ | hst
      · refine .inl ?_
        rw [e]
        have hlf : liveB r (first r k) = true := by rw [live_same hs.len hs.pos, hs.fst k (by omega)] at hl; exact hl
        have hix : idxR (rndTo r k) (first (rndTo r k) k) = idxR r (first r k) := by rw [hs.fst k (by omega)]; exact idx_same (safe_rv h) hs.len hs.pos hlf
        have hil := (idx_live hlf).1
        have g : ∀ i, i < r.length → gn (adS (rndTo r k) k) i = if i = k then wAft (gn (rndTo r k) k) (first (rndTo r k) k) (first (rndTo r k) (idxR (rndTo r k) (first (rndTo r k) k))) else gn (rndTo r k) i := fun i hi => gn_set' (by rw [hs.len]; exact hi)
        refine ⟨by rw [adS, List.length_set]; exact hs.len, fun i hi => ?_, fun i hi => ?_, fun i hi => ?_, fun i hi => ?_, fun i hi hik => ?_, fun i hi => ?_⟩
        · rw [g i hi]; split
          · rename_i e; subst e; exact hs.pos i hi
          · exact hs.pos i hi
        · rw [g i hi]; split
          · rename_i e; subst e; exact hs.bef i hi
          · exact hs.bef i hi
        · rw [first, g i hi]; split
          · rename_i e; subst e; exact hs.fst i hi
          · exact hs.fst i hi
        · rw [sec, g i (by omega)]; split
          · rename_i e; subst e
            show first (rndTo r i) (idxR (rndTo r i) (first (rndTo r i) i)) = _
            rw [hix, hs.fst _ hil]
          · exact hs.sec1 i (by omega)
        · rw [sec, g i hi, if_neg (by omega)]; exact hs.sec2 i hi (by omega)
        · by_cases e : i = k
          · rw [e]; exact hlf
          · exact hs.liv i (by omega)
      · refine .inr ?_
        have : mm (rndTo r k) = mm r := by
          unfold mm
          rw [hs.len]
          refine sumTo_congr fun i hi => ?_
          rw [vm_same (live_same hs.len hs.pos)]
          have e1 := hs.pos i hi
          have e2 := hs.bef i hi
          have e3 : gt (gn (rndTo r k) i).aft 0 = gt (gn r i).aft 0 := hs.fst i hi
          unfold vm fm bm
          rw [e1, e2, e3]
        omega
    · refine .inr ?_
      have : mm (stabR (rndTo r k) k) ≤ mm (rndTo r k) := by
        rcases hst with ⟨_, e⟩ | e
        · rw [e, adS_mm hk']; exact Nat.le_refl _
        · omega
      omega
theorem sm_mm {r r' : List Nd} {k : Nat} (hs : Sm r r' k) : mm r' = mm r := by
  unfold mm
  rw [hs.len]
  refine sumTo_congr fun i hi => ?_
  rw [vm_same (live_same hs.len hs.pos)]
  have e1 := hs.pos i hi
  have e2 := hs.bef i hi
  have e3 : gt (gn r' i).aft 0 = gt (gn r i).aft 0 := hs.fst i hi
  unfold vm fm bm
  rw [e1, e2, e3]
def cB (r : List Nd) : Bool := anyTo (fun i => decide (sec r i ≠ first r (idxR r (first r i)))) r.length
def mu (r : List Nd) : Nat := 2 * mm r + (if cB r then 1 else 0)
theorem nd_ext {n m : Nd} (h1 : n.pos = m.pos) (h2 : n.bef = m.bef) (h3 : n.aft = m.aft) : n = m := by
  cases n; cases m; simp_all
/-- a round lowers the measure, or the ring stays as it is -/
theorem rnd_mu {r : List Nd} (h : safeB r = true) : rndR r = r ∨ mu (rndR r) < mu r := by
  have ho := rnd_ok h (Nat.le_refl r.length)
  rcases rnd_sm h (Nat.le_refl r.length) with hs | hs
  · have e := sm_mm hs
    have hc : cB (rndR r) = false := by
      rw [cB, anyTo_no]
      intro i hi
      have hi : i < r.length := by rw [rndR, hs.len] at hi; exact hi
      have hlf := hs.liv i hi
      simp only [decide_eq_false_iff_not, Decidable.not_not]
      show sec (rndTo r r.length) i = first (rndTo r r.length) (idxR (rndTo r r.length) (first (rndTo r r.length) i))
      rw [hs.sec1 i hi, hs.fst i hi, idx_same (safe_rv h) hs.len hs.pos hlf, hs.fst _ (idx_live hlf).1]
    cases hcr : cB r
    · refine .inl ?_
      rw [cB, anyTo_no] at hcr
      refine List.ext_getElem (by rw [rndR, hs.len]) fun i hi hi' => ?_
      rw [← gn_get hi, ← gn_get hi']
      refine nd_ext (hs.pos i hi') (hs.bef i hi') ?_
      have a1 := (nd_open (safe_rv ho.safe) (show i < (rndTo r r.length).length by rw [hs.len]; exact hi')).2.2.2.2
      have a2 := (nd_open (safe_rv h) hi').2.2.2.2
      have e0 : gt (gn (rndTo r r.length) i).aft 0 = gt (gn r i).aft 0 := hs.fst i hi'
      have e1 : gt (gn (rndTo r r.length) i).aft 1 = gt (gn r i).aft 1 := by
        have h1 := hs.sec1 i hi'
        have h2 := hcr i hi'
        simp only [decide_eq_false_iff_not, Decidable.not_not] at h2
        exact h1.trans h2.symm
      show (gn (rndTo r r.length) i).aft = _
      rw [a1, a2, e0, e1]
    · refine .inr ?_
      unfold mu
      rw [hc, hcr, rndR, e]; simp
  · refine .inr ?_
    unfold mu rndR
    split <;> split <;> omega
end Go.Proofs.Ytcbbdhmloniolaa
