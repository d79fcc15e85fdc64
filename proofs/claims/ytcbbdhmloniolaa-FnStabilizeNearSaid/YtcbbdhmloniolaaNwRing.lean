/- RingDrop, RingAdopt, RingCloser, RingNotify, RingStabilize. -/
import Derived.Test.YtcbbdhmloniolaaNwTake
namespace Go.Proofs.Ytcbbdhmloniolaa
open Go.RowKit
set_option linter.unusedVariables false

theorem arg3_self (r : List Nd) (i : Int) : arg3 r i i = oneB r i := by
  unfold arg3 oneB; cases safeB r <;> cases ptB i <;> rfl
theorem arg3_two (r : List Nd) (i o : Int) : arg3 r i o = (oneB r i && ptB o) := rfl
theorem live_known {w : World} {n L cap : Nat} {K : Nat → Option Pr} {r : List Nd} {x : Int} {p : Pr} (hl : liveB r x = true) (hp : K x.toNat = some p) : idxR r x < r.length ∧ K (gn r (idxR r x)).pos.toNat = some p := by
  obtain ⟨h1, h2, _⟩ := idx_live hl
  exact ⟨h1, by rw [h2]; exact hp⟩
/-- at a dead peer nothing is done -/
theorem act_dead {f : Nat} {r : List Nd} {x y : Int} {g : Nat → List Nd} {B : Nat → Bool} (ha : arg3 r x y = true) (hl : liveB r x = false) (h : ∀ (gp : Nat) (pn po : Option Addr) (w : World), w.cell? ⟨gp, 1, none⟩ = some (.bool false) → Calls Try.prog f #[.pointer pn, .pointer (some ⟨gp, 0, none⟩), .pointer po] w fun e w' => e = .returned (.bool false) ∧ Same w w') :
    ActOk f r x y r false := fun n L K p q w hn hp hq => by
  have hb' : (safeB r = true ∧ ptB x = true) ∧ ptB y = true := by unfold arg3 at ha; simpa using ha
  obtain ⟨_, c1, _⟩ := hn.known (safe_rv hb'.1.1) ((ptB_iff x).1 hb'.1.2) hp
  rw [hl] at c1
  refine (h p.blk _ _ w c1).mono ?_
  rintro e w' ⟨rfl, hs⟩
  exact ⟨rfl, L, r.length, K, hn.same hs, hs.below n⟩
theorem step_act {f : Nat} {r r' : List Nd} {x y : Int} {b : Bool} (h : ∀ (n L : Nat) (K : Nat → Option Pr) (p q : Pr) (w : World), NW w n L r.length K r → K x.toNat = some p → K y.toNat = some q →
    Calls Try.prog f #[.pointer (some ⟨n, 0, none⟩), .pointer p.ad, .pointer q.ad] w (StepPost n L r.length K r' b w)) : ActOk f r x y r' b := fun n L K p q w hn hp hq => by
  refine (h n L K p q w hn hp hq).mono ?_
  rintro e w' ⟨rfl, K', h1, h2, h3, _⟩
  exact ⟨rfl, L, r.length, K', h1, h3⟩

theorem rdrop_act (i : Int) (r : List Nd) (ha : arg3 r i i = true) : ActOk 84 r i i (selR r true i (dropR r)) (selB r true i (dropB r)) ∧ rvB (selR r true i (dropR r)) = true := by
  have hb' : (safeB r = true ∧ ptB i = true) ∧ ptB i = true := by unfold arg3 at ha; simpa using ha
  have hs := hb'.1.1
  have hv := safe_rv hs
  have hpo := (ptB_iff i).1 hb'.2
  rcases bool_cases (liveB r i) with hl | hl
  · have e1 : selR r true i (dropR r) = r := by unfold selR; rw [hl]; rfl
    have e2 : selB r true i (dropB r) = false := by unfold selB; rw [hl]; rfl
    rw [e1, e2]
    exact ⟨act_dead (g := fun _ => r) (B := fun _ => true) ha hl (fun gp pn po w c1 => drop_dead gp pn po w c1), hv⟩
  · have e1 : selR r true i (dropR r) = (dropR r) (idxR r i) := by unfold selR; rw [hl]; rfl
    have e2 : selB r true i (dropB r) = (dropB r) (idxR r i) := by unfold selB; rw [hl]; simp
    rw [e1, e2]
    exact ⟨step_act (fun n L K p q w hn hp hq => drop_live n L r.length K r _ p _ w hn hv (live_known (w := w) (n := n) (L := L) (cap := r.length) hl hp).1 (live_known (w := w) (n := n) (L := L) (cap := r.length) hl hp).2), safe_rv (drop_ok hs (idx_live hl).1).safe⟩

set_option maxHeartbeats 1000000 in
theorem rdrop_any (a : Option Addr) (len cap : Nat) (i : Int) (r : List Nd) (w : World) (h : RingAt w a r) (hz : r.length = len) (hm : len ≤ maxLen) :
    Calls Try.prog 24 #[.slice a len cap, .int .i64 i] w (NewRB (selR r (oneB r i) i (dropR r)) (selB r (oneB r i) i (dropB r)) w) := by
  rw [← arg3_self r i]
  have ht : Calls Try.prog 39 #[.slice a len cap, .int .i64 2, .int .i64 i, .int .i64 i] w (NewRB (selR r (arg3 r i i) i (dropR r)) (selB r (arg3 r i i) i (dropB r)) w) := by
    rcases bool_cases (arg3 r i i) with ha | ha
    · rw [ha]; exact take_no 2 a len cap r i i w h hz hm ha
    · obtain ⟨h1, h2⟩ := rdrop_act i r ha
      rw [ha]; exact take_drop a len cap r i i _ _ w h hz hm ha h1 h2
  have HT := Lib.hid ht
  generalize selR r (arg3 r i i) i (dropR r) = R at *
  generalize selB r (arg3 r i i) i (dropB r) = B at *
  clear ht h hz hm
  go_enter Try.func24, Try.ntmps24
  go_wp2_with (go_at_call 39; refine HT.out.mono ?_; rintro e w1 ⟨N, cp, F, rfl, ho, hc1, hc2, hb⟩; have HO := Lib.hid ho; clear ho)
  go_ret2
  exact ⟨N, cp, F, rfl, HO.out, hc1, hc2, hb⟩

theorem radopt_act (i : Int) (r : List Nd) (ha : arg3 r i i = true) : ActOk 85 r i i (selR r true i (adoptR r)) (selB r true i (adoptB r)) ∧ rvB (selR r true i (adoptR r)) = true := by
  have hb' : (safeB r = true ∧ ptB i = true) ∧ ptB i = true := by unfold arg3 at ha; simpa using ha
  have hs := hb'.1.1
  have hv := safe_rv hs
  have hpo := (ptB_iff i).1 hb'.2
  rcases bool_cases (liveB r i) with hl | hl
  · have e1 : selR r true i (adoptR r) = r := by unfold selR; rw [hl]; rfl
    have e2 : selB r true i (adoptB r) = false := by unfold selB; rw [hl]; rfl
    rw [e1, e2]
    exact ⟨act_dead (g := fun _ => r) (B := fun _ => true) ha hl (fun gp pn po w c1 => adopt_dead gp pn po w c1), hv⟩
  · have e1 : selR r true i (adoptR r) = (adoptR r) (idxR r i) := by unfold selR; rw [hl]; rfl
    have e2 : selB r true i (adoptB r) = (adoptB r) (idxR r i) := by unfold selB; rw [hl]; simp
    rw [e1, e2]
    exact ⟨step_act (fun n L K p q w hn hp hq => adopt_live n L r.length K r _ p _ _ w hn hv (live_known (w := w) (n := n) (L := L) (cap := r.length) hl hp).1 (live_known (w := w) (n := n) (L := L) (cap := r.length) hl hp).2), safe_rv (adopt_ok hs (idx_live hl).1).safe⟩

set_option maxHeartbeats 1000000 in
theorem radopt_any (a : Option Addr) (len cap : Nat) (i : Int) (r : List Nd) (w : World) (h : RingAt w a r) (hz : r.length = len) (hm : len ≤ maxLen) :
    Calls Try.prog 25 #[.slice a len cap, .int .i64 i] w (NewRB (selR r (oneB r i) i (adoptR r)) (selB r (oneB r i) i (adoptB r)) w) := by
  rw [← arg3_self r i]
  have ht : Calls Try.prog 39 #[.slice a len cap, .int .i64 3, .int .i64 i, .int .i64 i] w (NewRB (selR r (arg3 r i i) i (adoptR r)) (selB r (arg3 r i i) i (adoptB r)) w) := by
    rcases bool_cases (arg3 r i i) with ha | ha
    · rw [ha]; exact take_no 3 a len cap r i i w h hz hm ha
    · obtain ⟨h1, h2⟩ := radopt_act i r ha
      rw [ha]; exact take_adopt a len cap r i i _ _ w h hz hm ha h1 h2
  have HT := Lib.hid ht
  generalize selR r (arg3 r i i) i (adoptR r) = R at *
  generalize selB r (arg3 r i i) i (adoptB r) = B at *
  clear ht h hz hm
  go_enter Try.func25, Try.ntmps25
  go_wp2_with (go_at_call 39; refine HT.out.mono ?_; rintro e w1 ⟨N, cp, F, rfl, ho, hc1, hc2, hb⟩; have HO := Lib.hid ho; clear ho)
  go_ret2
  exact ⟨N, cp, F, rfl, HO.out, hc1, hc2, hb⟩

theorem rcloser_act (i o : Int) (r : List Nd) (ha : arg3 r i o = true) : ActOk 86 r i o (selR r true i (fun k => closerR r k o)) (selB r true i (fun k => closerB r k o)) ∧ rvB (selR r true i (fun k => closerR r k o)) = true := by
  have hb' : (safeB r = true ∧ ptB i = true) ∧ ptB o = true := by unfold arg3 at ha; simpa using ha
  have hs := hb'.1.1
  have hv := safe_rv hs
  have hpo := (ptB_iff o).1 hb'.2
  rcases bool_cases (liveB r i) with hl | hl
  · have e1 : selR r true i (fun k => closerR r k o) = r := by unfold selR; rw [hl]; rfl
    have e2 : selB r true i (fun k => closerB r k o) = false := by unfold selB; rw [hl]; rfl
    rw [e1, e2]
    exact ⟨act_dead (g := fun _ => r) (B := fun _ => true) ha hl (fun gp pn po w c1 => closer_dead gp pn po w c1), hv⟩
  · have e1 : selR r true i (fun k => closerR r k o) = (fun k => closerR r k o) (idxR r i) := by unfold selR; rw [hl]; rfl
    have e2 : selB r true i (fun k => closerB r k o) = (fun k => closerB r k o) (idxR r i) := by unfold selB; rw [hl]; simp
    rw [e1, e2]
    exact ⟨step_act (fun n L K p q w hn hp hq => closer_live n L r.length K r _ p q o _ w hn hv (live_known (w := w) (n := n) (L := L) (cap := r.length) hl hp).1 (live_known (w := w) (n := n) (L := L) (cap := r.length) hl hp).2 hpo hq), safe_rv (closer_ok hs (idx_live hl).1).safe⟩

set_option maxHeartbeats 1000000 in
theorem rcloser_any (a : Option Addr) (len cap : Nat) (i o : Int) (r : List Nd) (w : World) (h : RingAt w a r) (hz : r.length = len) (hm : len ≤ maxLen) :
    Calls Try.prog 20 #[.slice a len cap, .int .i64 i, .int .i64 o] w (NewRB (selR r (oneB r i && ptB o) i (fun k => closerR r k o)) (selB r (oneB r i && ptB o) i (fun k => closerB r k o)) w) := by
  rw [← arg3_two r i o]
  have ht : Calls Try.prog 39 #[.slice a len cap, .int .i64 4, .int .i64 i, .int .i64 o] w (NewRB (selR r (arg3 r i o) i (fun k => closerR r k o)) (selB r (arg3 r i o) i (fun k => closerB r k o)) w) := by
    rcases bool_cases (arg3 r i o) with ha | ha
    · rw [ha]; exact take_no 4 a len cap r i o w h hz hm ha
    · obtain ⟨h1, h2⟩ := rcloser_act i o r ha
      rw [ha]; exact take_closer a len cap r i o _ _ w h hz hm ha h1 h2
  have HT := Lib.hid ht
  generalize selR r (arg3 r i o) i (fun k => closerR r k o) = R at *
  generalize selB r (arg3 r i o) i (fun k => closerB r k o) = B at *
  clear ht h hz hm
  go_enter Try.func20, Try.ntmps20
  go_wp2_with (go_at_call 39; refine HT.out.mono ?_; rintro e w1 ⟨N, cp, F, rfl, ho, hc1, hc2, hb⟩; have HO := Lib.hid ho; clear ho)
  go_ret2
  exact ⟨N, cp, F, rfl, HO.out, hc1, hc2, hb⟩

theorem rnot_act (i o : Int) (r : List Nd) (ha : arg3 r i o = true) : ActOk 87 r i o (selR r true i (fun k => notR r k o)) (selB r true i (fun k => notB r k o)) ∧ rvB (selR r true i (fun k => notR r k o)) = true := by
  have hb' : (safeB r = true ∧ ptB i = true) ∧ ptB o = true := by unfold arg3 at ha; simpa using ha
  have hs := hb'.1.1
  have hv := safe_rv hs
  have hpo := (ptB_iff o).1 hb'.2
  rcases bool_cases (liveB r i) with hl | hl
  · have e1 : selR r true i (fun k => notR r k o) = r := by unfold selR; rw [hl]; rfl
    have e2 : selB r true i (fun k => notB r k o) = false := by unfold selB; rw [hl]; rfl
    rw [e1, e2]
    exact ⟨act_dead (g := fun _ => r) (B := fun _ => true) ha hl (fun gp pn po w c1 => notify_dead gp pn po w c1), hv⟩
  · have e1 : selR r true i (fun k => notR r k o) = (fun k => notR r k o) (idxR r i) := by unfold selR; rw [hl]; rfl
    have e2 : selB r true i (fun k => notB r k o) = (fun k => notB r k o) (idxR r i) := by unfold selB; rw [hl]; simp
    rw [e1, e2]
    exact ⟨step_act (fun n L K p q w hn hp hq => notify_live n L r.length K r _ p q o _ w hn hv (live_known (w := w) (n := n) (L := L) (cap := r.length) hl hp).1 (live_known (w := w) (n := n) (L := L) (cap := r.length) hl hp).2 hpo hq), safe_rv (not_ok hs (idx_live hl).1).safe⟩

set_option maxHeartbeats 1000000 in
theorem rnot_any (a : Option Addr) (len cap : Nat) (i o : Int) (r : List Nd) (w : World) (h : RingAt w a r) (hz : r.length = len) (hm : len ≤ maxLen) :
    Calls Try.prog 13 #[.slice a len cap, .int .i64 i, .int .i64 o] w (NewRB (selR r (oneB r i && ptB o) i (fun k => notR r k o)) (selB r (oneB r i && ptB o) i (fun k => notB r k o)) w) := by
  rw [← arg3_two r i o]
  have ht : Calls Try.prog 39 #[.slice a len cap, .int .i64 5, .int .i64 i, .int .i64 o] w (NewRB (selR r (arg3 r i o) i (fun k => notR r k o)) (selB r (arg3 r i o) i (fun k => notB r k o)) w) := by
    rcases bool_cases (arg3 r i o) with ha | ha
    · rw [ha]; exact take_no 5 a len cap r i o w h hz hm ha
    · obtain ⟨h1, h2⟩ := rnot_act i o r ha
      rw [ha]; exact take_notify a len cap r i o _ _ w h hz hm ha h1 h2
  have HT := Lib.hid ht
  generalize selR r (arg3 r i o) i (fun k => notR r k o) = R at *
  generalize selB r (arg3 r i o) i (fun k => notB r k o) = B at *
  clear ht h hz hm
  go_enter Try.func13, Try.ntmps13
  go_wp2_with (go_at_call 39; refine HT.out.mono ?_; rintro e w1 ⟨N, cp, F, rfl, ho, hc1, hc2, hb⟩; have HO := Lib.hid ho; clear ho)
  go_ret2
  exact ⟨N, cp, F, rfl, HO.out, hc1, hc2, hb⟩

theorem rstab_act (i : Int) (r : List Nd) (ha : arg3 r i i = true) : ActOk 73 r i i (selR r true i (stabR r)) (selB r true i (fun _ => true)) ∧ rvB (selR r true i (stabR r)) = true := by
  have hb' : (safeB r = true ∧ ptB i = true) ∧ ptB i = true := by unfold arg3 at ha; simpa using ha
  have hs := hb'.1.1
  have hv := safe_rv hs
  have hpo := (ptB_iff i).1 hb'.2
  rcases bool_cases (liveB r i) with hl | hl
  · have e1 : selR r true i (stabR r) = r := by unfold selR; rw [hl]; rfl
    have e2 : selB r true i (fun _ => true) = false := by unfold selB; rw [hl]; rfl
    rw [e1, e2]
    exact ⟨act_dead (g := fun _ => r) (B := fun _ => true) ha hl (fun gp pn po w c1 => stabilize_dead gp pn po w c1), hv⟩
  · have e1 : selR r true i (stabR r) = (stabR r) (idxR r i) := by unfold selR; rw [hl]; rfl
    have e2 : selB r true i (fun _ => true) = (fun _ => true) (idxR r i) := by unfold selB; rw [hl]; simp
    rw [e1, e2]
    exact ⟨step_act (fun n L K p q w hn hp hq => stabilize_live n L r.length K r _ p _ w hn hs (live_known (w := w) (n := n) (L := L) (cap := r.length) hl hp).1 (live_known (w := w) (n := n) (L := L) (cap := r.length) hl hp).2), safe_rv (stab_ok hs (idx_live hl).1).safe⟩

set_option maxHeartbeats 1000000 in
theorem rstab_any (a : Option Addr) (len cap : Nat) (i : Int) (r : List Nd) (w : World) (h : RingAt w a r) (hz : r.length = len) (hm : len ≤ maxLen) :
    Calls Try.prog 28 #[.slice a len cap, .int .i64 i] w (NewRB (selR r (oneB r i) i (stabR r)) (selB r (oneB r i) i (fun _ => true)) w) := by
  rw [← arg3_self r i]
  have ht : Calls Try.prog 39 #[.slice a len cap, .int .i64 6, .int .i64 i, .int .i64 i] w (NewRB (selR r (arg3 r i i) i (stabR r)) (selB r (arg3 r i i) i (fun _ => true)) w) := by
    rcases bool_cases (arg3 r i i) with ha | ha
    · rw [ha]; exact take_no 6 a len cap r i i w h hz hm ha
    · obtain ⟨h1, h2⟩ := rstab_act i r ha
      rw [ha]; exact take_stabilize a len cap r i i _ _ w h hz hm ha h1 h2
  have HT := Lib.hid ht
  generalize selR r (arg3 r i i) i (stabR r) = R at *
  generalize selB r (arg3 r i i) i (fun _ => true) = B at *
  clear ht h hz hm
  go_enter Try.func28, Try.ntmps28
  go_wp2_with (go_at_call 39; refine HT.out.mono ?_; rintro e w1 ⟨N, cp, F, rfl, ho, hc1, hc2, hb⟩; have HO := Lib.hid ho; clear ho)
  go_ret2
  exact ⟨N, cp, F, rfl, HO.out, hc1, hc2, hb⟩

end Go.Proofs.Ytcbbdhmloniolaa
