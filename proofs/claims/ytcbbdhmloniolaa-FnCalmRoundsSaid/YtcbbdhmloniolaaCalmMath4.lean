/- Rounds come to an end within 441: a measure by numbers of nodes, that each round lowers. -/
import Derived.Test.YtcbbdhmloniolaaIdealMath
namespace Go.Proofs.Ytcbbdhmloniolaa
set_option linter.unusedVariables false

theorem sumTo_le {f : Nat → Nat} {c : Nat} : ∀ {n : Nat}, (∀ i, i < n → f i ≤ c) → sumTo f n ≤ n * c
  | 0, _ => by simp [sumTo]
  | n + 1, h => by
    have h1 := sumTo_le (f := f) (c := c) (n := n) (fun i hi => h i (by omega))
    have h2 := h n (by omega)
    rw [sumTo, Nat.succ_mul]; omega
theorem sumTo_mono {f g : Nat → Nat} : ∀ {n : Nat}, (∀ i, i < n → f i ≤ g i) → sumTo f n ≤ sumTo g n
  | 0, _ => Nat.le_refl _
  | n + 1, h => by
    have h1 := sumTo_mono (f := f) (g := g) (n := n) (fun i hi => h i (by omega))
    have h2 := h n (by omega)
    rw [sumTo, sumTo]; omega
theorem sumTo_lt {f g : Nat → Nat} {n k : Nat} (hk : k < n) (h : ∀ i, i < n → f i ≤ g i) (hlt : f k < g k) : sumTo f n < sumTo g n := by
  induction n with
  | zero => omega
  | succ n ih =>
    rw [sumTo, sumTo]
    by_cases e : k = n
    · subst e
      have := sumTo_mono (f := f) (g := g) (n := k) (fun i hi => h i (by omega))
      omega
    · have h1 := ih (by omega) (fun i hi => h i (by omega))
      have h2 := h n (by omega)
      omega
/-- how many nodes lie strictly between -/
def kI (r : List Nd) (a b : Int) : Nat := sumTo (fun i => if btwI a (gn r i).pos b then 1 else 0) r.length
theorem kI_le (r : List Nd) (a b : Int) : kI r a b ≤ r.length := by
  have := sumTo_le (f := fun i => if btwI a (gn r i).pos b then 1 else 0) (c := 1) (n := r.length) (fun i _ => by
    show (if _ then 1 else 0) ≤ 1
    split <;> omega)
  unfold kI; omega
theorem kI_same {r r' : List Nd} (hl : r'.length = r.length) (hp : ∀ i, i < r.length → (gn r' i).pos = (gn r i).pos) (a b : Int) : kI r' a b = kI r a b := by
  unfold kI
  rw [hl]
  exact sumTo_congr (fun i hi => by rw [hp i hi])
theorem btw_in1 {a o b x : Int} (h : btwI a o b = true) (hx : btwI a x o = true) : btwI a x b = true := by
  rw [btwI_iff] at h hx ⊢; omega
theorem btw_in2 {a o b x : Int} (h : btwI a o b = true) (hx : btwI o x b = true) : btwI a x b = true := by
  rw [btwI_iff] at h hx ⊢; omega
theorem kI_btw1 {r : List Nd} {a o b : Int} (ho : liveB r o = true) (h : btwI a o b = true) : kI r a o < kI r a b := by
  obtain ⟨h1, h2, _⟩ := idx_live ho
  refine sumTo_lt h1 (fun i hi => ?_) ?_
  · by_cases e : btwI a (gn r i).pos o = true
    · rw [if_pos e, if_pos (btw_in1 h e)]; exact Nat.le_refl _
    · rw [if_neg e]; exact Nat.zero_le _
  · rw [h2, if_pos h, if_neg (by rw [btwI_iff]; omega)]; omega
theorem kI_btw2 {r : List Nd} {a o b : Int} (ho : liveB r o = true) (h : btwI a o b = true) : kI r o b < kI r a b := by
  obtain ⟨h1, h2, _⟩ := idx_live ho
  refine sumTo_lt h1 (fun i hi => ?_) ?_
  · by_cases e : btwI o (gn r i).pos b = true
    · rw [if_pos e, if_pos (btw_in2 h e)]; exact Nat.le_refl _
    · rw [if_neg e]; exact Nat.zero_le _
  · rw [h2, if_pos h, if_neg (by rw [btwI_iff]; omega)]; omega

def fm3 (r : List Nd) (n : Nd) : Nat := if liveB r (gt n.aft 0) then kI r n.pos (gt n.aft 0) else r.length + 1
def bm3 (r : List Nd) (n : Nd) : Nat := if decide (0 ≤ n.bef) && liveB r n.bef then kI r n.bef n.pos else r.length + 1
def vm3 (r : List Nd) (n : Nd) : Nat := fm3 r n + bm3 r n
def mm3 (r : List Nd) : Nat := sumTo (fun i => vm3 r (gn r i)) r.length
theorem mm3_le (r : List Nd) : mm3 r ≤ r.length * (2 * r.length + 2) := by
  refine sumTo_le (fun i _ => ?_)
  have h1 : fm3 r (gn r i) ≤ r.length + 1 := by
    unfold fm3; split
    · have := kI_le r (gn r i).pos (gt (gn r i).aft 0); omega
    · exact Nat.le_refl _
  have h2 : bm3 r (gn r i) ≤ r.length + 1 := by
    unfold bm3; split
    · have := kI_le r (gn r i).bef (gn r i).pos; omega
    · exact Nat.le_refl _
  show vm3 r (gn r i) ≤ _
  unfold vm3; omega
theorem vm3_same {r r' : List Nd} (hl : r'.length = r.length) (hp : ∀ i, i < r.length → (gn r' i).pos = (gn r i).pos) (n : Nd) : vm3 r' n = vm3 r n := by
  unfold vm3 fm3 bm3; rw [live_same hl hp, live_same hl hp, kI_same hl hp, kI_same hl hp, hl]
theorem pos_set {r : List Nd} {k : Nat} {n : Nd} (hk : k < r.length) (hp : n.pos = (gn r k).pos) : ∀ i, i < r.length → (gn (r.set k n) i).pos = (gn r i).pos := fun i hi => by
  rw [gn_set' hi]
  by_cases e : i = k
  · rw [if_pos e, hp, e]
  · rw [if_neg e]
theorem mm_le3 {r r' : List Nd} (h : r' = r ∨ mm3 r' < mm3 r) : mm3 r' ≤ mm3 r := by
  rcases h with e | e
  · rw [e]; exact Nat.le_refl _
  · omega
theorem set_mm3 {r : List Nd} {k : Nat} {n : Nd} (hk : k < r.length) (hp : n.pos = (gn r k).pos) : mm3 (r.set k n) + vm3 r (gn r k) = mm3 r + vm3 r n := by
  unfold mm3
  rw [List.length_set]
  have h := sumTo_one (f := fun i => vm3 (r.set k n) (gn (r.set k n) i)) (g := fun i => vm3 r (gn r i)) hk (fun i hi hne => by
    show vm3 _ _ = vm3 _ _
    rw [vm3_same (by simp) (pos_set hk hp), gn_set' hi, if_neg hne])
  have e : vm3 (r.set k n) (gn (r.set k n) k) = vm3 r n := by rw [vm3_same (by simp) (pos_set hk hp), gn_set' hk, if_pos rfl]
  simp only [e] at h
  exact h
theorem drop_mm3 {r : List Nd} {k : Nat} (h : safeB r = true) (hk : k < r.length) : dropR r k = r ∨ mm3 (dropR r k) < mm3 r := by
  unfold dropR
  split
  · exact .inl rfl
  · rename_i hx
    have hx : liveB r (gt (gn r k).aft 0) = false := by simpa using hx
    have hy : liveB r (gt (gn r k).aft 1) = true := by have := ((safe_iff r).1 h).2.1 k hk; rw [lsB, hx] at this; simpa using this
    refine .inr ?_
    have hs := set_mm3 (r := r) (n := wAft (gn r k) (gt (gn r k).aft 1) ((gt (gn r k).aft 1 + 1) % 64)) hk rfl
    have e1 : fm3 r (wAft (gn r k) (gt (gn r k).aft 1) ((gt (gn r k).aft 1 + 1) % 64)) = kI r (gn r k).pos (gt (gn r k).aft 1) := by
      unfold fm3; show (if liveB r (gt (gn r k).aft 1) = true then _ else _) = _; rw [if_pos hy]; rfl
    have e2 : fm3 r (gn r k) = r.length + 1 := by unfold fm3; rw [hx]; rfl
    have e3 : bm3 r (wAft (gn r k) (gt (gn r k).aft 1) ((gt (gn r k).aft 1 + 1) % 64)) = bm3 r (gn r k) := rfl
    have := kI_le r (gn r k).pos (gt (gn r k).aft 1)
    unfold vm3 at hs
    unfold dropS
    omega
theorem adS_mm3 {r : List Nd} {k : Nat} (hk : k < r.length) : mm3 (adS r k) = mm3 r := by
  have hs := set_mm3 (r := r) (n := wAft (gn r k) (first r k) (first r (idxR r (first r k)))) hk rfl
  have e : vm3 r (wAft (gn r k) (first r k) (first r (idxR r (first r k)))) = vm3 r (gn r k) := rfl
  unfold adS
  omega
theorem closer_mm3 {r : List Nd} {k : Nat} {o : Int} (h : safeB r = true) (hk : k < r.length) (hl : liveB r (first r k) = true) : closerR r k o = r ∨ mm3 (closerR r k o) < mm3 r := by
  unfold closerR
  split
  · rename_i hb
    unfold closerB at hb
    obtain ⟨h1, h3⟩ := Bool.and_eq_true _ _ ▸ hb
    refine .inr ?_
    obtain ⟨_, hso, _⟩ := idx_live h1
    have hv := safe_rv h
    obtain ⟨hp, _, h0, _, _⟩ := nd_open hv hk
    have hop := live_pt hv h1
    have hs := set_mm3 (r := r) (n := wAft (gn r k) (gn r (idxR r o)).pos (gt (gn r (idxR r o)).aft 0)) hk rfl
    have e1 : fm3 r (wAft (gn r k) (gn r (idxR r o)).pos (gt (gn r (idxR r o)).aft 0)) = kI r (gn r k).pos o := by
      unfold fm3; show (if liveB r (gn r (idxR r o)).pos = true then kI r (gn r k).pos (gn r (idxR r o)).pos else _) = _; rw [hso, if_pos h1]
    have e2 : fm3 r (gn r k) = kI r (gn r k).pos (gt (gn r k).aft 0) := by unfold fm3; rw [show liveB r (gt (gn r k).aft 0) = true from hl]; rfl
    have e3 : bm3 r (wAft (gn r k) (gn r (idxR r o)).pos (gt (gn r (idxR r o)).aft 0)) = bm3 r (gn r k) := rfl
    have := kI_btw1 h1 h3
    unfold vm3 at hs
    unfold folR
    omega
  · exact .inl rfl
theorem not_mm3 {r : List Nd} {k : Nat} {o : Int} (h : safeB r = true) (hk : k < r.length) : notR r k o = r ∨ mm3 (notR r k o) < mm3 r := by
  unfold notR
  split
  · rename_i hb
    refine .inr ?_
    unfold notB at hb
    simp only [Bool.and_eq_true, Bool.not_eq_true'] at hb
    obtain ⟨⟨h1, h2⟩, h3⟩ := hb
    have hv := safe_rv h
    obtain ⟨hp, hbf, _, _, _⟩ := nd_open hv hk
    have hop := live_pt hv h1
    have hs := set_mm3 (r := r) (n := ⟨(gn r k).pos, o, (gn r k).aft⟩) hk rfl
    have e1 : bm3 r ⟨(gn r k).pos, o, (gn r k).aft⟩ = kI r o (gn r k).pos := by
      unfold bm3; show (if (decide (0 ≤ o) && liveB r o) = true then kI r o (gn r k).pos else _) = _; rw [h1, decide_eq_true hop.1]; rfl
    have e3 : fm3 r ⟨(gn r k).pos, o, (gn r k).aft⟩ = fm3 r (gn r k) := rfl
    have hlt := kI_le r o (gn r k).pos
    have e2 : kI r o (gn r k).pos < bm3 r (gn r k) := by
      unfold bm3
      split
      · rename_i hc
        unfold keepB at h3
        rw [hc] at h3
        have hbt : btwI (gn r k).bef o (gn r k).pos = true := by simpa using h3
        obtain ⟨hc1, hc2⟩ := Bool.and_eq_true _ _ ▸ hc
        exact kI_btw2 h1 hbt
      · omega
    unfold vm3 at hs
    omega
  · exact .inl rfl
theorem stab_mm3 {r : List Nd} {k : Nat} (h : safeB r = true) (hk : k < r.length) : (liveB r (first r k) = true ∧ stabR r k = adS r k) ∨ mm3 (stabR r k) < mm3 r := by
  obtain ⟨h2, hl2⟩ := stab2_ok h hk
  obtain ⟨h3, hl3⟩ := stab3_ok h hk
  have hk2 : k < (stab2 r k).length := by rw [h2.len]; exact hk
  have n3 : stab3 r k = stab2 r k ∨ mm3 (stab3 r k) < mm3 (stab2 r k) := by
    unfold stab3
    split
    · exact closer_mm3 h2.safe hk2 hl2
    · exact .inl rfl
  have n4 : stabR r k = stab3 r k ∨ mm3 (stabR r k) < mm3 (stab3 r k) := not_mm3 h3.safe (idx_live hl3).1
  have le34 : mm3 (stabR r k) ≤ mm3 (stab2 r k) := by
    have a : mm3 (stab3 r k) ≤ mm3 (stab2 r k) := mm_le3 n3
    have b : mm3 (stabR r k) ≤ mm3 (stab3 r k) := mm_le3 n4
    omega
  obtain ⟨hd1, hd2⟩ := drop_first h hk
  have hkd : k < (drop2 r k).length := by rw [hd2.len]; exact hk
  have ead : stab2 r k = adS (drop2 r k) k := adopt_adS hkd hd1
  have emm : mm3 (stab2 r k) = mm3 (drop2 r k) := by rw [ead]; exact adS_mm3 hkd
  cases hx : liveB r (first r k)
  · refine .inr ?_
    have hb : dropB r k = true := by simp [dropB, show liveB r (gt (gn r k).aft 0) = false from hx]
    have hne : dropR r k ≠ r := fun e => by
      have hl := hd1
      rw [drop2, if_pos hb, e, e, hx] at hl
      cases hl
    have ho := drop_ok h hk
    have a1 : mm3 (dropR r k) < mm3 r := (drop_mm3 h hk).resolve_left hne
    have a2 : mm3 (dropR (dropR r k) k) ≤ mm3 (dropR r k) := by
      rcases drop_mm3 ho.safe (show k < (dropR r k).length by rw [ho.len]; exact hk) with e | e
      · rw [e]; exact Nat.le_refl _
      · omega
    have e : drop2 r k = dropR (dropR r k) k := by rw [drop2, if_pos hb]
    rw [e] at emm
    omega
  · have hb : dropB r k = false := by simp [dropB, show liveB r (gt (gn r k).aft 0) = true from hx]
    have e : drop2 r k = r := by rw [drop2, hb, if_neg (by simp), dropR, show liveB r (gt (gn r k).aft 0) = true from hx, if_pos rfl]
    rw [e] at emm ead
    rcases n3 with e3 | e3
    · rcases n4 with e4 | e4
      · exact .inl ⟨rfl, by rw [e4, e3, ead]⟩
      · rw [e3] at e4; exact .inr (by omega)
    · exact .inr (by
        have b : mm3 (stabR r k) ≤ mm3 (stab3 r k) := mm_le3 n4
        omega)

theorem rnd_sm3 {r : List Nd} (h : safeB r = true) : ∀ {k : Nat}, k ≤ r.length → Sm r (rndTo r k) k ∨ mm3 (rndTo r k) < mm3 r := by
  intro k
  induction k with
  | zero => intro _; exact .inl ⟨rfl, fun _ _ => rfl, fun _ _ => rfl, fun _ _ => rfl, fun i hi => absurd hi (by omega), fun _ _ _ => rfl, fun i hi => absurd hi (by omega)⟩
  | succ k ih =>
    intro hk
    have ho := rnd_ok h (show k ≤ r.length by omega)
    have hk' : k < (rndTo r k).length := by rw [ho.len]; omega
    have hst := stab_mm3 ho.safe hk'
    rw [rndTo]
    rcases ih (by omega) with hs | hs
    · rcases hst with ⟨hl, e⟩ | hst
      · refine .inl ?_
        rw [e]
        have hlf : liveB r (first r k) = true := by rw [live_same hs.len hs.pos, hs.fst k (by omega)] at hl; exact hl
        have hix : idxR (rndTo r k) (first (rndTo r k) k) = idxR r (first r k) := by rw [hs.fst k (by omega)]; exact idx_same (safe_rv h) hs.len hs.pos hlf
        have hil := (idx_live hlf).1
        have g : ∀ i, i < r.length → gn (adS (rndTo r k) k) i = if i = k then wAft (gn (rndTo r k) k) (first (rndTo r k) k) (first (rndTo r k) (idxR (rndTo r k) (first (rndTo r k) k))) else gn (rndTo r k) i := fun i hi => gn_set' (by rw [hs.len]; exact hi)
        refine ⟨by rw [adS, List.length_set]; exact hs.len, fun i hi => ?_, fun i hi => ?_, fun i hi => ?_, fun i hi => ?_, fun i hi hik => ?_, fun i hi => ?_⟩
        · rw [g i hi]; split
          · rename_i e; subst e; exact hs.pos i hi
          · exact hs.pos i hi
        · rw [g i hi]; split
          · rename_i e; subst e; exact hs.bef i hi
          · exact hs.bef i hi
        · rw [first, g i hi]; split
          · rename_i e; subst e; exact hs.fst i hi
          · exact hs.fst i hi
        · rw [sec, g i (by omega)]; split
          · rename_i e; subst e
            show first (rndTo r i) (idxR (rndTo r i) (first (rndTo r i) i)) = _
            rw [hix, hs.fst _ hil]
          · exact hs.sec1 i (by omega)
        · rw [sec, g i hi, if_neg (by omega)]; exact hs.sec2 i hi (by omega)
        · by_cases e : i = k
          · rw [e]; exact hlf
          · exact hs.liv i (by omega)
      · refine .inr ?_
        have : mm3 (rndTo r k) = mm3 r := by
          unfold mm3
          rw [hs.len]
          refine sumTo_congr fun i hi => ?_
          rw [vm3_same hs.len hs.pos]
          have e1 := hs.pos i hi
          have e2 := hs.bef i hi
          have e3 : gt (gn (rndTo r k) i).aft 0 = gt (gn r i).aft 0 := hs.fst i hi
          unfold vm3 fm3 bm3
          rw [e1, e2, e3]
        omega
    · refine .inr ?_
      have : mm3 (stabR (rndTo r k) k) ≤ mm3 (rndTo r k) := by
        rcases hst with ⟨_, e⟩ | e
        · rw [e, adS_mm3 hk']; exact Nat.le_refl _
        · omega
      omega
theorem sm_mm3 {r r' : List Nd} {k : Nat} (hs : Sm r r' k) : mm3 r' = mm3 r := by
  unfold mm3
  rw [hs.len]
  refine sumTo_congr fun i hi => ?_
  rw [vm3_same hs.len hs.pos]
  have e1 := hs.pos i hi
  have e2 := hs.bef i hi
  have e3 : gt (gn r' i).aft 0 = gt (gn r i).aft 0 := hs.fst i hi
  unfold vm3 fm3 bm3
  rw [e1, e2, e3]
def mu3 (r : List Nd) : Nat := 2 * mm3 r + (if cB r then 1 else 0)
/-- a round lowers the measure, or the ring stays as it is -/
theorem rnd_mu3 {r : List Nd} (h : safeB r = true) : rndR r = r ∨ mu3 (rndR r) < mu3 r := by
  have ho := rnd_ok h (Nat.le_refl r.length)
  rcases rnd_sm3 h (Nat.le_refl r.length) with hs | hs
  · have e := sm_mm3 hs
    have hc : cB (rndR r) = false := by
      rw [cB, anyTo_no]
      intro i hi
      have hi : i < r.length := by rw [rndR, hs.len] at hi; exact hi
      have hlf := hs.liv i hi
      simp only [decide_eq_false_iff_not, Decidable.not_not]
      show sec (rndTo r r.length) i = first (rndTo r r.length) (idxR (rndTo r r.length) (first (rndTo r r.length) i))
      rw [hs.sec1 i hi, hs.fst i hi, idx_same (safe_rv h) hs.len hs.pos hlf, hs.fst _ (idx_live hlf).1]
    cases hcr : cB r
    · refine .inl ?_
      rw [cB, anyTo_no] at hcr
      refine List.ext_getElem (by rw [rndR, hs.len]) fun i hi hi' => ?_
      rw [← gn_get hi, ← gn_get hi']
      refine nd_ext (hs.pos i hi') (hs.bef i hi') ?_
      have a1 := (nd_open (safe_rv ho.safe) (show i < (rndTo r r.length).length by rw [hs.len]; exact hi')).2.2.2.2
      have a2 := (nd_open (safe_rv h) hi').2.2.2.2
      have e0 : gt (gn (rndTo r r.length) i).aft 0 = gt (gn r i).aft 0 := hs.fst i hi'
      have e1 : gt (gn (rndTo r r.length) i).aft 1 = gt (gn r i).aft 1 := by
        have h1 := hs.sec1 i hi'
        have h2 := hcr i hi'
        simp only [decide_eq_false_iff_not, Decidable.not_not] at h2
        exact h1.trans h2.symm
      show (gn (rndTo r r.length) i).aft = _
      rw [a1, a2, e0, e1]
    · refine .inr ?_
      unfold mu3
      rw [hc, hcr, rndR, e]; simp
  · refine .inr ?_
    unfold mu3 rndR
    split <;> split <;> omega
theorem mu3_le {r : List Nd} (h : r.length ≤ 10) : mu3 r ≤ 441 := by
  have h1 := mm3_le r
  have h2 : r.length * (2 * r.length + 2) ≤ 10 * 22 := Nat.mul_le_mul h (by omega)
  unfold mu3; split <;> omega
/-- a ring that a round leaves as it is, is ideal -/
theorem fix_ideal {r : List Nd} (h : safeB r = true) (hf : rndR r = r) : idlB r = true := calm_idl h (fix_calm h hf)
theorem step_mu3 {r : List Nd} (h : safeB r = true) (hi : idlB r = false) : mu3 (rndR r) < mu3 r := by
  rcases rnd_mu3 h with e | e
  · rw [fix_ideal h e] at hi; cases hi
  · exact e
end Go.Proofs.Ytcbbdhmloniolaa
