/- A ring that a round does not change is ideal; rounds until nothing changes. -/
import Derived.Test.YtcbbdhmloniolaaCalmMath
namespace Go.Proofs.Ytcbbdhmloniolaa
set_option linter.unusedVariables false

theorem mm_rnd_le {r : List Nd} (h : safeB r = true) {j k : Nat} (hjk : j ≤ k) (hk : k ≤ r.length) : mm (rndTo r k) ≤ mm (rndTo r j) := by
  induction k with
  | zero => have : j = 0 := by omega
            subst this; exact Nat.le_refl _
  | succ k ih =>
    by_cases e : j = k + 1
    · subst e; exact Nat.le_refl _
    · have h1 := ih (by omega) (by omega)
      have ho := rnd_ok h (show k ≤ r.length by omega)
      have hk' : k < (rndTo r k).length := by rw [ho.len]; omega
      rw [rndTo]
      rcases stab_mm ho.safe hk' with ⟨_, e⟩ | e
      · rw [e, adS_mm hk']; exact h1
      · omega
/-- in a round that changes nothing no step changes anything -/
theorem rnd_fix {r : List Nd} (h : safeB r = true) (hf : rndR r = r) {k : Nat} (hk : k ≤ r.length) : rndTo r k = r := by
  have hsm : ∀ {m}, m ≤ r.length → Sm r (rndTo r m) m := by
    intro m hm
    rcases rnd_sm h hm with hs | hs
    · exact hs
    · exfalso
      have h1 := mm_rnd_le h hm (Nat.le_refl r.length)
      have h2 : mm (rndTo r r.length) = mm r := congrArg mm hf
      omega
  have hs := hsm hk
  have hF := hsm (Nat.le_refl r.length)
  have ho := rnd_ok h hk
  refine List.ext_getElem hs.len fun i hi hi' => ?_
  rw [← gn_get hi, ← gn_get hi']
  refine nd_ext (hs.pos i hi') (hs.bef i hi') ?_
  have a1 := (nd_open (safe_rv ho.safe) (show i < (rndTo r k).length from hi)).2.2.2.2
  have a2 := (nd_open (safe_rv h) hi').2.2.2.2
  have e0 : gt (gn (rndTo r k) i).aft 0 = gt (gn r i).aft 0 := hs.fst i hi'
  have e1 : gt (gn (rndTo r k) i).aft 1 = gt (gn r i).aft 1 := by
    by_cases hik : i < k
    · have h1 := hs.sec1 i hik
      have h2 := hF.sec1 i hi'
      have h3 : sec (rndTo r r.length) i = sec r i := by rw [show rndTo r r.length = r from hf]
      exact h1.trans (h2.symm.trans h3)
    · exact hs.sec2 i hi' (by omega)
  rw [a1, a2, e0, e1]
theorem fix_stab {r : List Nd} (h : safeB r = true) (hf : rndR r = r) {k : Nat} (hk : k < r.length) : stabR r k = r := by
  have h1 := rnd_fix h hf (k := k + 1) (by omega)
  rw [rndTo, rnd_fix h hf (k := k) (by omega)] at h1
  exact h1
theorem not_fix {r : List Nd} (h : safeB r = true) {k : Nat} {o : Int} (hk : k < r.length) (hf : notR r k o = r) : notB r k o = false := by
  cases hb : notB r k o
  · rfl
  · exfalso
    rw [notR, hb, if_pos rfl] at hf
    have e : (gn r k).bef = o := by
      have := congrArg (fun x => (gn x k).bef) hf
      simp only [gn_set' hk, if_pos] at this
      exact this.symm
    unfold notB keepB at hb
    simp only [Bool.and_eq_true] at hb
    obtain ⟨⟨h1, h2⟩, h3⟩ := hb
    have hop := live_pt (safe_rv h) h1
    rw [e, h1, decide_eq_true hop.1] at h3
    simp only [Bool.true_and, Bool.not_not] at h3
    rw [btwI_iff] at h3
    omega
theorem closer_fix {r : List Nd} (h : safeB r = true) {k : Nat} {o : Int} (hk : k < r.length) (hf : closerR r k o = r) : closerB r k o = false := by
  cases hb : closerB r k o
  · rfl
  · exfalso
    have hb' := hb
    unfold closerB at hb'
    obtain ⟨h1, h2⟩ := Bool.and_eq_true _ _ ▸ hb'
    rw [closerR, hb, if_pos rfl] at hf
    have e := (fol_ok h hk h1 (.inr h2)).2
    rw [hf] at e
    rw [e, btwI_iff] at h2
    omega
/-- what the nodes of a calm ring know -/
structure CalmN (r : List Nd) : Prop where
  liv : ∀ i, i < r.length → liveB r (first r i) = true
  sec : ∀ i, i < r.length → sec r i = first r (idxR r (first r i))
  bef : ∀ i, i < r.length → (gn r (idxR r (first r i))).bef = (gn r i).pos
theorem fix_one {r : List Nd} (h : safeB r = true) {k : Nat} (hk : k < r.length) (hf : stabR r k = r) :
    liveB r (first r k) = true ∧ sec r k = first r (idxR r (first r k)) ∧ (gn r (idxR r (first r k))).bef = (gn r k).pos := by
  rcases stab_mm h hk with ⟨hl, e⟩ | e
  rotate_left
  · rw [hf] at e; omega
  have had : adS r k = r := e.symm.trans hf
  have hsec : sec r k = first r (idxR r (first r k)) := by
    have h1 : sec (adS r k) k = first r (idxR r (first r k)) := by rw [sec, adS, gn_set' hk, if_pos rfl]; rfl
    rw [had] at h1; exact h1
  have hb : dropB r k = false := by simp [dropB, show liveB r (gt (gn r k).aft 0) = true from hl]
  have ed : drop2 r k = r := by rw [drop2, hb, if_neg (by simp), dropR, show liveB r (gt (gn r k).aft 0) = true from hl, if_pos rfl]
  have e2 : stab2 r k = r := by rw [stab2, ed, adopt_adS hk hl]; exact had
  obtain ⟨h3, hl3⟩ := stab3_ok h hk
  have n3 : stab3 r k = stab2 r k ∨ mm (stab3 r k) < mm (stab2 r k) := by
    unfold stab3
    split
    · rw [e2]; exact closer_mm h hk hl
    · exact .inl rfl
  have n4 : stabR r k = stab3 r k ∨ mm (stabR r k) < mm (stab3 r k) := not_mm h3.safe (idx_live hl3).1
  have l3 := mm_le n3
  have l4 := mm_le n4
  rw [hf] at l4
  rw [e2] at l3 n3
  have e3 : stab3 r k = r := n3.resolve_right (by omega)
  obtain ⟨hs, hso, _⟩ := idx_live hl
  have hn : notR r (idxR r (first r k)) (gn r k).pos = r := by
    have := hf
    rw [stabR, e3] at this
    exact this
  have hnb := not_fix h hs hn
  have hself := (safe_self h hk).1
  have hlk := live_at hk
  unfold notB at hnb
  rw [hlk, hso, decide_eq_false (show ¬ (gn r k).pos = first r k from fun e => hself e.symm)] at hnb
  simp only [Bool.true_and, Bool.not_false, Bool.not_eq_false'] at hnb
  unfold keepB at hnb
  simp only [Bool.and_eq_true, decide_eq_true_eq, Bool.not_eq_true'] at hnb
  obtain ⟨⟨k1, k2⟩, k3⟩ := hnb
  rw [hso] at k3
  have hcl : closerR r k (gn r (idxR r (first r k))).bef = r := by
    have := e3
    rw [stab3, e2, if_pos k1] at this
    exact this
  have hcb := closer_fix h hk hcl
  unfold closerB at hcb
  rw [k2] at hcb
  simp only [Bool.true_and] at hcb
  refine ⟨hl, hsec, ?_⟩
  have hv := safe_rv h
  obtain ⟨p1, _, p2, _, _⟩ := nd_open hv hk
  have p3 := live_pt hv k2
  have hself' : first r k ≠ (gn r k).pos := hself
  have hcb' : btwI (gn r k).pos (gn r (idxR r (first r k))).bef (first r k) = false := hcb
  rw [← Bool.not_eq_true, btwI_iff] at k3 hcb'
  generalize (gn r (idxR r (first r k))).bef = b at *
  generalize first r k = f at *
  generalize (gn r k).pos = o at *
  omega
theorem fix_calm {r : List Nd} (h : safeB r = true) (hf : rndR r = r) : CalmN r :=
  ⟨fun i hi => (fix_one h hi (fix_stab h hf hi)).1, fun i hi => (fix_one h hi (fix_stab h hf hi)).2.1, fun i hi => (fix_one h hi (fix_stab h hf hi)).2.2⟩

theorem arc1 {a q f p : Int} (ha : 0 ≤ a ∧ a < 64) (hq : 0 ≤ q ∧ q < 64) (hf : 0 ≤ f ∧ f < 64) (hp : 0 ≤ p ∧ p < 64) (h : btwI a q f = true) (hn : btwI a p f = false) : dI q p < dI a p := by
  rw [← Bool.not_eq_true, btwI_iff] at hn
  rw [btwI_iff] at h
  unfold dI; omega
theorem arc2 {a q f g : Int} (ha : 0 ≤ a ∧ a < 64) (hq : 0 ≤ q ∧ q < 64) (hf : 0 ≤ f ∧ f < 64) (hg : 0 ≤ g ∧ g < 64) (h : btwI a q f = true) (hn : btwI q f g = false) (h1 : g ≠ q) (h2 : g ≠ f) : btwI a g f = true ∧ dI g f < dI q f := by
  rw [← Bool.not_eq_true, btwI_iff] at hn
  rw [btwI_iff] at h
  rw [btwI_iff]
  unfold dI; omega
/-- nobody lives between a node of a calm ring and its first successor -/
theorem no_btw {r : List Nd} (h : safeB r = true) (hc : CalmN r) {p : Int} (hp : p ∈ prL r) : ∀ (n i : Nat) (q : Int), i < r.length → liveB r q = true → 64 * dI (gn r i).pos p + dI q (first r i) < n → btwI (gn r i).pos q (first r i) = true → False := by
  have hv := safe_rv h
  obtain ⟨hpl, hps⟩ := (mem_pr _ _).1 hp
  have hpp := live_pt hv hpl
  intro n
  induction n with
  | zero => intro i q _ _ hm; omega
  | succ n ih =>
    intro i q hi hq hm hb
    obtain ⟨hj, hjq, _⟩ := idx_live hq
    obtain ⟨pi1, _, pi2, _, _⟩ := nd_open hv hi
    obtain ⟨pj1, _, pj2, _, _⟩ := nd_open hv hj
    have si : btwI (gn r i).pos p (first r i) = false := by
      have := (skd_no _ _).1 hps i hi
      unfold skB at this
      simp only [Bool.or_eq_false_iff] at this
      exact this.1
    rw [hjq] at pj1
    have h1 := arc1 pi1 pj1 (f := first r i) pi2 hpp hb si
    have hd := dI_lt (first r i) (first r (idxR r q))
    have h2 : btwI q (first r i) (first r (idxR r q)) = false := by
      cases hx : btwI q (first r i) (first r (idxR r q))
      · rfl
      · exfalso
        refine ih (idxR r q) (first r i) hj (hc.liv i hi) ?_ (by rw [hjq]; exact hx)
        rw [hjq]; omega
    have h3 : first r (idxR r q) ≠ q := by have := (safe_self h hj).1; rw [hjq] at this; exact this
    by_cases e : first r (idxR r q) = first r i
    · have b1 := hc.bef i hi
      have b2 := hc.bef (idxR r q) hj
      rw [e, b1, hjq] at b2
      rw [b2, btwI_iff] at hb
      omega
    · obtain ⟨g1, g2⟩ := arc2 pi1 pj1 (f := first r i) pi2 (g := first r (idxR r q)) pj2 hb h2 h3 e
      exact ih i (first r (idxR r q)) hi (hc.liv _ hj) (by omega) g1
theorem nx_cases {n i : Nat} (hi : i < n) : ((i + 1) % n = i + 1 ∧ i + 1 < n) ∨ ((i + 1) % n = 0 ∧ i + 1 = n) := by
  by_cases e : i + 1 = n
  · right; rw [e]; simp
  · left; exact ⟨Nat.mod_eq_of_lt (by omega), by omega⟩
theorem calm_first {r : List Nd} (h : safeB r = true) (hc : CalmN r) {i : Nat} (hi : i < r.length) : first r i = (gn r ((i + 1) % r.length)).pos := by
  have hv := safe_rv h
  obtain ⟨hj, hjf, _⟩ := idx_live (hc.liv i hi)
  have h3 := ((safe_iff r).1 h).2.2
  obtain ⟨p, hp⟩ : ∃ p, p ∈ prL r := by
    cases hl : prL r with
    | nil => rw [hl] at h3; simp at h3
    | cons p l => exact ⟨p, by simp⟩
  have hno : ∀ q, liveB r q = true → ¬ btwI (gn r i).pos q (first r i) = true := fun q hq hb => no_btw h hc hp _ i q hi hq (Nat.lt_succ_self _) hb
  have hne : first r i ≠ (gn r i).pos := (safe_self h hi).1
  have hm : (i + 1) % r.length < r.length := Nat.mod_lt _ (by omega)
  have hq := hno _ (live_at hm)
  rw [btwI_iff] at hq
  rw [← hjf] at hq hne ⊢
  generalize idxR r (first r i) = j at *
  by_cases e : j = (i + 1) % r.length
  · rw [e]
  · exfalso
    have hij : j ≠ i := fun e => hne (by rw [e])
    rcases nx_cases hi with ⟨e1, e2⟩ | ⟨e1, e2⟩
    · rw [e1] at hq e
      have o1 := rv_lt hv (show i < i + 1 by omega) e2
      rcases Nat.lt_or_ge j i with hlt | hge
      · have o2 := rv_lt hv hlt hi
        omega
      · have o2 := rv_lt hv (show i + 1 < j by omega) hj
        omega
    · rw [e1] at hq e
      have o1 := rv_lt hv (show 0 < j by omega) hj
      have o2 := rv_lt hv (show j < i by omega) hi
      omega
theorem calm_idx {r : List Nd} (h : safeB r = true) (hc : CalmN r) {i : Nat} (hi : i < r.length) : idxR r (first r i) = (i + 1) % r.length := by
  obtain ⟨hj, hjf, _⟩ := idx_live (hc.liv i hi)
  exact rv_inj (safe_rv h) hj (Nat.mod_lt _ (by omega)) (by rw [hjf, calm_first h hc hi])
theorem calm_idl {r : List Nd} (h : safeB r = true) (hc : CalmN r) : idlB r = true := by
  have hv := safe_rv h
  have h3 : 3 ≤ r.length := by
    have h1 := ((safe_iff r).1 h).2.2
    have h2 := prTo_len r r.length
    unfold prL at h1; omega
  have hlen : (idR (idsOf r)).length = r.length := by simp [idR, ids_len]
  rw [idlB, hv, decide_eq_true h3]
  simp only [Bool.true_and]
  rw [sameR, hlen, decide_eq_true rfl, Bool.true_and, allTo_iff]
  intro i hi
  have hg : gn (idR (idsOf r)) i = idNd (idsOf r) i := by rw [gn_get (by rw [hlen]; exact hi)]; simp [idR]
  rw [hg]
  have hm1 : (i + 1) % r.length < r.length := Nat.mod_lt _ (by omega)
  have hm2 : (i + 2) % r.length < r.length := Nat.mod_lt _ (by omega)
  have hm0 : (i + r.length - 1) % r.length < r.length := Nat.mod_lt _ (by omega)
  have c1 := calm_first h hc hi
  have c2 : sec r i = (gn r ((i + 2) % r.length)).pos := by
    rw [hc.sec i hi, calm_idx h hc hi, calm_first h hc hm1, Nat.mod_add_mod]
  have hback : ((i + r.length - 1) % r.length + 1) % r.length = i := by
    rw [Nat.mod_add_mod, show i + r.length - 1 + 1 = i + r.length by omega, Nat.add_mod_right, Nat.mod_eq_of_lt hi]
  have c0 : (gn r i).bef = (gn r ((i + r.length - 1) % r.length)).pos := by
    have hb := hc.bef _ hm0
    rw [calm_idx h hc hm0, hback] at hb
    exact hb
  have ha := (nd_open hv hi).2.2.2.2
  simp only [sameN, idNd, ids_len, Bool.and_eq_true, decide_eq_true_eq]
  rw [ids_gt hi, ids_gt hm0, ids_gt hm1, ids_gt hm2]
  refine ⟨⟨rfl, c0⟩, ?_⟩
  rw [ha]
  have e0 : gt (gn r i).aft 0 = (gn r ((i + 1) % r.length)).pos := c1
  have e1 : gt (gn r i).aft 1 = (gn r ((i + 2) % r.length)).pos := c2
  rw [e0, e1]

/-- some rounds -/
def calmN : Nat → List Nd → List Nd
  | 0, r => r
  | n + 1, r => calmN n (rndR r)
/-- rounds until nothing changes -/
def calmR (r : List Nd) : List Nd := calmN (mu r) r
theorem calmN_fix {r : List Nd} (hf : rndR r = r) (n : Nat) : calmN n r = r := by
  induction n with
  | zero => rfl
  | succ n ih => rw [calmN, hf]; exact ih
theorem calm_ge {r : List Nd} (h : safeB r = true) {n : Nat} (hn : mu r ≤ n) : calmN n r = calmR r := by
  suffices H : ∀ (m : Nat) (r : List Nd), safeB r = true → mu r ≤ m → ∀ a b, mu r ≤ a → mu r ≤ b → calmN a r = calmN b r from H (mu r) r h (Nat.le_refl _) n (mu r) hn (Nat.le_refl _)
  intro m
  induction m with
  | zero =>
    intro r h hm a b _ _
    rcases rnd_mu h with e | e
    · rw [calmN_fix e, calmN_fix e]
    · omega
  | succ m ih =>
    intro r h hm a b ha hb
    rcases rnd_mu h with e | e
    · rw [calmN_fix e, calmN_fix e]
    · have hs : safeB (rndR r) = true := (rnd_ok h (Nat.le_refl _)).safe
      obtain ⟨a, rfl⟩ : ∃ x, a = x + 1 := ⟨a - 1, by omega⟩
      obtain ⟨b, rfl⟩ : ∃ x, b = x + 1 := ⟨b - 1, by omega⟩
      rw [calmN, calmN]
      exact ih (rndR r) hs (by omega) a b (by omega) (by omega)
theorem calm_rnd {r : List Nd} (h : safeB r = true) : calmR (rndR r) = calmR r := by
  rcases rnd_mu h with e | e
  · rw [e]
  · have hs : safeB (rndR r) = true := (rnd_ok h (Nat.le_refl _)).safe
    have h1 := calm_ge h (n := mu r + 1) (by omega)
    rw [calmN, calm_ge hs (by omega)] at h1
    exact h1
theorem calm_fix {r : List Nd} (hf : rndR r = r) : calmR r = r := calmN_fix hf _
/-- the calm ring is safe, has the same nodes, and a round changes nothing -/
theorem calm_ok {r : List Nd} (h : safeB r = true) : SetOk r (calmR r) ∧ rndR (calmR r) = calmR r := by
  suffices H : ∀ (m : Nat) (r : List Nd), safeB r = true → mu r ≤ m → SetOk r (calmR r) ∧ rndR (calmR r) = calmR r from H (mu r) r h (Nat.le_refl _)
  intro m
  induction m with
  | zero =>
    intro r h hm
    rcases rnd_mu h with e | e
    · rw [calm_fix e]; exact ⟨SetOk.refl h, e⟩
    · omega
  | succ m ih =>
    intro r h hm
    rcases rnd_mu h with e | e
    · rw [calm_fix e]; exact ⟨SetOk.refl h, e⟩
    · have ho := rnd_ok h (Nat.le_refl r.length)
      have := ih (rndR r) ho.safe (by omega)
      rw [calm_rnd h] at this
      exact ⟨SetOk.trans ho this.1, this.2⟩
theorem calm_ideal {r : List Nd} (h : safeB r = true) : idlB (calmR r) = true := by
  obtain ⟨h1, h2⟩ := calm_ok h
  exact calm_idl h1.safe (fix_calm h1.safe h2)
end Go.Proofs.Ytcbbdhmloniolaa
