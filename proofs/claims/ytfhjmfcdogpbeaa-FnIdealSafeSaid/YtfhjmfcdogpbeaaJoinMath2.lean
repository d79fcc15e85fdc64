/- Joining: the mathematics. -/
import Derived.Test.YtfhjmfcdogpbeaaCutS
namespace Go.Proofs.Ytfhjmfcdogpbeaa
open Go.RowKit
set_option linter.unusedVariables false

def cntR (r : List Nd) (x : Int) : Nat := (r.takeWhile (fun n => decide (n.pos < x))).length
theorem cnt_le (r : List Nd) (x : Int) : cntR r x ≤ r.length := (List.takeWhile_sublist _).length_le
theorem cnt_lt {r : List Nd} {x : Int} {i : Nat} (h : i < cntR r x) : (gn r i).pos < x := by
  have hi : i < r.length := Nat.lt_of_lt_of_le h (cnt_le r x)
  have hm : (r.takeWhile (fun n => decide (n.pos < x)))[i]'h ∈ r.takeWhile (fun n => decide (n.pos < x)) := List.getElem_mem _
  have hp := List.all_takeWhile (p := fun n : Nd => decide (n.pos < x)) (l := r)
  rw [List.all_eq_true] at hp
  have h1 := hp _ hm
  have e : (r.takeWhile (fun n => decide (n.pos < x)))[i]'h = r[i] := (List.takeWhile_prefix (fun n : Nd => decide (n.pos < x))).getElem h
  rw [e] at h1
  rw [gn_get hi]; simpa using h1
theorem cnt_ge {r : List Nd} {x : Int} {m : Nat} (hm : m ≤ r.length) (hh : ∀ j, j < m → (gn r j).pos < x) : m ≤ cntR r x := by
  have hpre : ∀ n ∈ r.take m, decide (n.pos < x) = true := by
    intro n hn
    obtain ⟨j, hj, e⟩ := List.getElem_of_mem hn
    have hj' : j < m := by simp at hj; omega
    have hjr : j < r.length := by omega
    have := hh j hj'
    rw [gn_get hjr] at this
    rw [← e]; simpa using this
  have hlen : ((r.take m ++ r.drop m).takeWhile (fun n => decide (n.pos < x))).length = (r.take m).length + ((r.drop m).takeWhile (fun n => decide (n.pos < x))).length := by
    rw [List.takeWhile_append_of_pos hpre, List.length_append]
  rw [List.take_append_drop] at hlen
  unfold cntR
  rw [hlen]
  simp; omega
theorem cnt_unique {r : List Nd} {x : Int} {m : Nat} (h1 : m ≤ r.length) (h2 : ∀ i, i < m → (gn r i).pos < x) (h3 : m < r.length → ¬ (gn r m).pos < x) : cntR r x = m := by
  have := cnt_ge h1 h2
  rcases Nat.lt_or_ge m (cntR r x) with h | h
  · exact absurd (cnt_lt h) (h3 (Nat.lt_of_lt_of_le h (cnt_le r x)))
  · omega
def insR (r : List Nd) (m : Nat) (n : Nd) : List Nd := r.take m ++ n :: r.drop m
theorem ins_len {r : List Nd} {m : Nat} {n : Nd} (hm : m ≤ r.length) : (insR r m n).length = r.length + 1 := by simp [insR]; omega
theorem ins_at {r : List Nd} {m i : Nat} {n : Nd} (hm : m ≤ r.length) (hi : i < r.length + 1) : gn (insR r m n) i = if i < m then gn r i else if i = m then n else gn r (i - 1) := by
  have hl := ins_len (n := n) hm
  rw [gn_get (by omega)]
  unfold insR
  by_cases h : i < m
  · rw [if_pos h, List.getElem_append_left (by simp; omega), gn_get (by omega)]; simp
  · rw [if_neg h, List.getElem_append_right (by simp; omega)]
    have hml : (r.take m).length = m := by simp; omega
    by_cases e : i = m
    · subst e; rw [if_pos rfl]; simp [hml]
    · rw [if_neg e, gn_get (by omega)]
      rw [List.getElem_cons]
      rw [dif_neg (by omega)]
      simp [hml]; congr 1; omega
/-- what is ahead and behind -/
def InsOk (r : List Nd) (m : Nat) (n : Nd) : Prop := m ≤ r.length ∧ (∀ i, i < m → (gn r i).pos < n.pos) ∧ ∀ i, m ≤ i → i < r.length → n.pos < (gn r i).pos
theorem ins_rv {r : List Nd} {m : Nat} {n : Nd} (h : rvB r = true) (hl : r.length < 10) (hn : ndB n = true) (ho : InsOk r m n) : rvB (insR r m n) = true := by
  obtain ⟨hm, h1, h2⟩ := ho
  have hln := ins_len (n := n) hm
  refine (rv_iff _).2 ⟨by omega, fun i hi => ?_⟩
  rw [hln] at hi
  refine ⟨?_, ?_⟩
  · rw [ins_at hm hi]; split
    · exact rv_nd h (by omega)
    · split
      · exact hn
      · exact rv_nd h (by omega)
  · by_cases h0 : i = 0
    · exact .inl h0
    · refine .inr ?_
      rw [ins_at hm hi, ins_at hm (by omega)]
      by_cases a1 : i < m
      · rw [if_pos a1, if_pos (by omega)]; exact rv_lt h (by omega) (by omega)
      · rw [if_neg a1]
        by_cases a2 : i = m
        · rw [if_pos a2, if_pos (by omega)]; exact h1 _ (by omega)
        · rw [if_neg a2, if_neg (by omega)]
          by_cases a3 : i - 1 = m
          · rw [if_pos a3]; exact h2 _ (by omega) (by omega)
          · rw [if_neg a3]; exact rv_lt h (by omega) (by omega)
theorem ins_old {r : List Nd} {m : Nat} {n : Nd} (hm : m ≤ r.length) {i : Nat} (hi : i < r.length) : ∃ j, j < r.length + 1 ∧ gn (insR r m n) j = gn r i := by
  by_cases h : i < m
  · exact ⟨i, by omega, by rw [ins_at hm (by omega), if_pos h]⟩
  · exact ⟨i + 1, by omega, by rw [ins_at hm (by omega), if_neg (by omega), if_neg (by omega)]; rfl⟩
theorem ins_all {r : List Nd} {m : Nat} {n : Nd} (hm : m ≤ r.length) {j : Nat} (hj : j < r.length + 1) : gn (insR r m n) j = n ∨ ∃ i, i < r.length ∧ gn (insR r m n) j = gn r i := by
  rw [ins_at hm hj]
  by_cases h : j < m
  · exact .inr ⟨j, by omega, by rw [if_pos h]⟩
  · rw [if_neg h]
    by_cases e : j = m
    · exact .inl (by rw [if_pos e])
    · exact .inr ⟨j - 1, by omega, by rw [if_neg e]⟩
theorem safe_ins {r : List Nd} {m : Nat} {n : Nd} (h : safeB r = true) (hl : r.length < 10) (hn : ndB n = true) (ho : InsOk r m n) (hls : lsB r n = true) (hs : ∀ p, liveB r p = true → skB n p = true → skdB r p = true) : safeB (insR r m n) = true := by
  obtain ⟨hv, hls', h3⟩ := (safe_iff r).1 h
  have hm := ho.1
  have hln := ins_len (n := n) hm
  have hlv : ∀ x, liveB r x = true → liveB (insR r m n) x = true := fun x hx => by
    obtain ⟨i, hi, e⟩ := (live_iff _ _).1 hx
    obtain ⟨j, hj, e'⟩ := ins_old (n := n) hm hi
    exact (live_iff _ _).2 ⟨j, by omega, by rw [e']; exact e⟩
  have hl2 : ∀ q, lsB r q = true → lsB (insR r m n) q = true := fun q hq => by
    unfold lsB at hq ⊢
    rcases Bool.or_eq_true _ _ ▸ hq with h' | h'
    · rw [hlv _ h']; rfl
    · rw [hlv _ h']; simp
  refine (safe_iff _).2 ⟨ins_rv hv hl hn ho, fun j hj => ?_, ?_⟩
  · rw [hln] at hj
    rcases ins_all (n := n) hm hj with e | ⟨i, hi, e⟩
    · rw [e]; exact hl2 _ hls
    · rw [e]; exact hl2 _ (hls' i hi)
  · refine Nat.le_trans h3 (sub_len _ _ (pr_nodup hv) fun q hq => ?_)
    obtain ⟨h1, h2⟩ := (mem_pr _ _).1 hq
    refine (mem_pr _ _).2 ⟨hlv _ h1, (skd_no _ _).2 fun j hj => ?_⟩
    rw [hln] at hj
    rcases ins_all (n := n) hm hj with e | ⟨i, hi, e⟩
    · rw [e]
      cases hsk : skB n q
      · rfl
      · rw [hs q h1 hsk] at h2; cases h2
    · rw [e]; exact (skd_no _ _).1 h2 i hi
def joinN (r : List Nd) (x y : Int) : Nd := ⟨x, y, (gn r (idxR r y)).aft⟩
def arg3 (r : List Nd) (x y : Int) : Bool := safeB r && ptB x && ptB y
def joinB (r : List Nd) (x y : Int) : Bool := liveB r y && !liveB r x && decide (r.length < 10) && btwI y x (first r (idxR r y))
def joinR (r : List Nd) (x y : Int) : List Nd := if arg3 r x y then (if joinB r x y then insR r (cntR r x) (joinN r x y) else r) else []
theorem join_pre {r : List Nd} {x y : Int} (ha : arg3 r x y = true) (hb : joinB r x y = true) : safeB r = true ∧ r.length < 10 ∧ ndB (joinN r x y) = true ∧ InsOk r (cntR r x) (joinN r x y) ∧ safeB (insR r (cntR r x) (joinN r x y)) = true := by
  unfold arg3 at ha; unfold joinB at hb
  simp only [Bool.and_eq_true, Bool.not_eq_true', decide_eq_true_eq] at ha hb
  obtain ⟨⟨hs, hx⟩, hy⟩ := ha
  obtain ⟨⟨⟨hly, hlx⟩, hl⟩, hbt⟩ := hb
  have hv := safe_rv hs
  obtain ⟨hi, hip, _⟩ := idx_live hly
  obtain ⟨_, hbf, h0, h1, hal⟩ := nd_open hv hi
  obtain ⟨_, hls, _⟩ := (safe_iff r).1 hs
  have hxp := (ptB_iff x).1 hx
  have hyp := (ptB_iff y).1 hy
  have hnd : ndB (joinN r x y) = true := (ndB_iff _).2 ⟨hxp, .inr hyp, _, _, hal, h0, h1⟩
  have hio : InsOk r (cntR r x) (joinN r x y) := by
    refine ⟨cnt_le _ _, fun i hi => cnt_lt hi, fun i hi hil => ?_⟩
    show x < (gn r i).pos
    have hne : (gn r i).pos ≠ x := fun e => by rw [(live_iff r x).2 ⟨i, hil, e⟩] at hlx; cases hlx
    have hge : ¬ (gn r (cntR r x)).pos < x := by
      intro hlt
      have hc : cntR r x < r.length := by omega
      have hall : ∀ j, j < cntR r x + 1 → (gn r j).pos < x := fun j hj => by
        rcases Nat.lt_or_ge j (cntR r x) with h | h
        · exact cnt_lt h
        · rw [show j = cntR r x by omega]; exact hlt
      have := cnt_ge (m := cntR r x + 1) (by omega) hall
      omega
    rcases Nat.lt_or_ge (cntR r x) i with h | h
    · have := rv_lt hv h hil; omega
    · have e : i = cntR r x := by omega
      subst e; omega
  have hjl : lsB r (joinN r x y) = true := by have := hls _ hi; unfold lsB at this ⊢; exact this
  refine ⟨hs, hl, hnd, hio, safe_ins hs hl hnd hio hjl fun p hpl hsk => skd_of hi ?_⟩
  have hpp := live_pt hv hpl
  have hsk' : (btwI x p (gt (gn r (idxR r y)).aft 0) || btwI (gt (gn r (idxR r y)).aft 0) p (gt (gn r (idxR r y)).aft 1)) = true := hsk
  unfold first at hbt
  have hpx : p ≠ x := fun e => by rw [e] at hpl; rw [hpl] at hlx; cases hlx
  rw [skB, hip]
  simp only [Bool.or_eq_true, btwI_iff] at hsk' hbt ⊢
  omega
end Go.Proofs.Ytfhjmfcdogpbeaa
