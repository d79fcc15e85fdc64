/- The steps of the model: closer successors, notifying. -/
import Derived.Test.YtfhjmfcdogpbeaaStepS
namespace Go.Proofs.Ytfhjmfcdogpbeaa
open Go.RowKit
set_option linter.unusedVariables false

/-- a node of a ring in memory, opened -/
theorem ring_node {w : World} {a : Option Addr} {r : List Nd} {k : Nat} (h : RingAt w a r) (hv : rvB r = true) (hk : k < r.length) :
    ∃ b off b3 o3 sc, a = some ⟨b, off, none⟩ ∧ b < w.heap.size ∧ b3 < w.heap.size ∧ 2 ≤ sc ∧ sc ≤ maxLen ∧ w.cell? ⟨b, off + k * 3, none⟩ = some (.int .i64 (gn r k).pos) ∧ w.cell? ⟨b, off + k * 3 + 1, none⟩ = some (.int .i64 (gn r k).bef) ∧ w.cell? ⟨b, off + k * 3 + 2, none⟩ = some (.slice (some ⟨b3, o3, none⟩) 2 sc) ∧
      w.cell? ⟨b3, o3, none⟩ = some (.int .i64 (gt (gn r k).aft 0)) ∧ w.cell? ⟨b3, o3 + 1, none⟩ = some (.int .i64 (gt (gn r k).aft 1)) ∧ IntsAt w (some ⟨b3, o3, none⟩) (gn r k).aft := by
  obtain ⟨b, off, rfl, hb0, hnodes⟩ := h.at_ hk
  obtain ⟨sa, sc, hc0, hc1, hc2, hl, hmx, hints⟩ := node_open (hnodes k hk)
  obtain ⟨hp, hbf, h0, h1, ha⟩ := nd_open hv hk
  have hl2 : (gn r k).aft.length = 2 := by rw [ha]; rfl
  rw [hl2] at hc2 hl
  have hi := hints
  rw [ha] at hi
  obtain ⟨b3, o3, rfl, hb3, hx3, hy3⟩ := ints_two hi
  exact ⟨b, off, b3, o3, sc, rfl, hb0, hb3, hl, hmx, hc0, hc1, hc2, hx3, hy3, hints⟩
theorem sbetw_as (v : Bool) (a x b : Int) (w : World) (hv : btwI a x b = v) :
    Calls Try.prog 86 #[.int .i64 a, .int .i64 x, .int .i64 b] w fun e w' => e = .returned (.bool v) ∧ w = w' := by subst hv; exact sbetw_any a x b w

set_option maxHeartbeats 2000000 in
theorem scloser_any (a : Option Addr) (len cap k : Nat) (o : Int) (r : List Nd) (w : World) (h : RingAt w a r) (hz : r.length = len) (hv : rvB r = true) (hk : k < len) :
    Calls Try.prog 100 #[.slice a len cap, .int .i64 k, .int .i64 o] w (NewRB (closerR r k o) (closerB r k o) w) := by
  have hkr : k < r.length := by rw [hz]; exact hk
  have hm := maxOf hv
  rw [hz] at hm
  obtain ⟨b, off, b3, o3, sc, rfl, hb0, hb3, hsc, _, hc0, hc1, hc2, hx3, hy3, _⟩ := ring_node h hv hkr
  have HB : Hid (closerB r k o = (liveB r o && btwI (gn r k).pos o (gt (gn r k).aft 0))) := rfl
  have HR : Hid (closerR r k o = if liveB r o && btwI (gn r k).pos o (gt (gn r k).aft 0) then folR r k (idxR r o) else r) := rfl
  generalize gt (gn r k).aft 0 = x at *
  generalize gt (gn r k).aft 1 = y at *
  have HI := Lib.hid h
  have HZ := Lib.hid hz
  have HV := Lib.hid hv
  have HM := Lib.hid hm
  have q0 : (0 : Int) ≤ (k : Int) := by omega
  have q1 : (k : Int) < (len : Int) := by omega
  have q2 : (0 : Int) < ((2 : Nat) : Int) := by omega
  clear h hz hv
  cases hlo : liveB r o
  · have HLO := Lib.hid hlo
    have HFD := Lib.hid (fnd_dead hlo)
    clear hlo
    go_enter Try.func100, Try.ntmps100
    go_wp2_with fail
    refine (sfind_any _ len cap r o _ HI.out HZ.out HM.out).mono ?_
    rintro e w1 ⟨rfl, rfl⟩
    rw [HFD.out]
    have d0 : decide ((-1 : Int) < 0) = true := by decide
    go_wp2_with fail
    go_quiet (fail)
    go_wp2_with fail
    refine (copy_any _ len cap r _ (HI.out.keepB ((Same.refl w).drewN _ |>.below _) (Nat.le_refl _)) HZ.out HV.out).mono ?_
    rintro e w2 ⟨N, c2, F, rfl, ho, h1, h2, hB⟩
    have HO := Lib.hid ho
    have HC := Lib.hid (And.intro h1 h2)
    clear ho h1 h2
    go_wp2
    go_ret2
    rw [HB.out, HR.out, HLO.out, Bool.false_and, if_neg (by simp)]
    exact NewOwn.toRB ((Same.refl w).drewN _ |>.below _) HO.out HC.out.1 HC.out.2 hB _ (by simp)
  · obtain ⟨hil, _, hfd⟩ := idx_live hlo
    have HLO := Lib.hid hlo
    have HFD := Lib.hid hfd
    rw [HZ.out] at hil
    have d0 : decide ((idxR r o : Int) < 0) = false := by simp
    clear hlo hfd
    cases hbt : btwI (gn r k).pos o x
    · have HBT := Lib.hid hbt
      clear hbt
      go_enter Try.func100, Try.ntmps100
      go_wp2_with fail
      refine (sfind_any _ len cap r o _ HI.out HZ.out HM.out).mono ?_
      rintro e w1 ⟨rfl, rfl⟩
      rw [HFD.out]
      go_wp2_with fail
      go_quiet ((go_at_call 86; exact Calls.quiet_of_same (calls_flip (sbetw_as _ _ _ _ _ HBT.out))))
      go_wp2_with fail
      refine (copy_any _ len cap r _ (HI.out.keepB ((Same.refl w).drewN _ |>.below _) (Nat.le_refl _)) HZ.out HV.out).mono ?_
      rintro e w2 ⟨N, c2, F, rfl, ho, h1, h2, hB⟩
      have HO := Lib.hid ho
      have HC := Lib.hid (And.intro h1 h2)
      clear ho h1 h2
      go_wp2
      go_ret2
      rw [HB.out, HR.out, HLO.out, HBT.out, Bool.and_false, if_neg (by simp)]
      exact NewOwn.toRB ((Same.refl w).drewN _ |>.below _) HO.out HC.out.1 HC.out.2 hB _ (by simp)
    · have HBT := Lib.hid hbt
      clear hbt
      go_enter Try.func100, Try.ntmps100
      go_wp2_with fail
      refine (sfind_any _ len cap r o _ HI.out HZ.out HM.out).mono ?_
      rintro e w1 ⟨rfl, rfl⟩
      rw [HFD.out]
      go_wp2_with fail
      go_quiet ((go_at_call 86; exact Calls.quiet_of_same (calls_flip (sbetw_as _ _ _ _ _ HBT.out))))
      go_wp2_with fail
      refine (sfol_any _ len cap k _ r _ (HI.out.keepB ((Same.refl w).drewN _ |>.below _) (Nat.le_refl _)) HZ.out HV.out hk hil).mono ?_
      rintro e w2 ⟨N, c2, F, rfl, ho, h1, h2, hB⟩
      have HO := Lib.hid ho
      have HC := Lib.hid (And.intro h1 h2)
      clear ho h1 h2
      go_wp2
      go_ret2
      rw [HB.out, HR.out, HLO.out, HBT.out, Bool.and_true, if_pos rfl]
      exact NewOwn.toRB ((Same.refl w).drewN _ |>.below _) HO.out HC.out.1 HC.out.2 hB _ (by simp)

set_option maxHeartbeats 2000000 in
theorem snot_any (a : Option Addr) (len cap k : Nat) (o : Int) (r : List Nd) (w : World) (h : RingAt w a r) (hz : r.length = len) (hv : rvB r = true) (hk : k < len) :
    Calls Try.prog 101 #[.slice a len cap, .int .i64 k, .int .i64 o] w (NewRB (notR r k o) (notB r k o) w) := by
  have hkr : k < r.length := by rw [hz]; exact hk
  have hm := maxOf hv
  rw [hz] at hm
  obtain ⟨b, off, b3, o3, sc, rfl, hb0, hb3, hsc, _, hc0, hc1, hc2, hx3, hy3, hin⟩ := ring_node h hv hkr
  have ha := (nd_open hv hkr).2.2.2.2
  have HA := Lib.hid ha
  rw [ha] at hin
  have HS := Lib.hid hin
  have HI := Lib.hid h
  have HZ := Lib.hid hz
  have HV := Lib.hid hv
  have HM := Lib.hid hm
  have hb0' : ∀ o, Below w.heap.size w (w.alloc o) := fun o => (Below.refl _ _).alloc (Nat.le_refl _) _
  have HB0 := Lib.hid hb0'
  clear h hz hv hin hx3 hy3 hb0' ha
  cases hlo : liveB r o
  · have HLO := Lib.hid hlo
    have HFD := Lib.hid (fnd_dead hlo)
    clear hlo
    go_enter Try.func101, Try.ntmps101
    go_wp2_with fail
    refine (sfind_any _ len cap r o _ (HI.out.keepB (HB0.out _) (Nat.le_refl _)) HZ.out HM.out).mono ?_
    rintro e w1 ⟨rfl, rfl⟩
    rw [HFD.out]
    go_wp2_with fail
    refine (copy_any _ len cap r _ (HI.out.keepB (HB0.out _) (Nat.le_refl _)) HZ.out HV.out).mono ?_
    rintro e w2 ⟨N, c2, F, rfl, ho, h1, h2, hB⟩
    have HO := Lib.hid ho
    have HC := Lib.hid (And.intro h1 h2)
    clear ho h1 h2
    go_wp2
    go_ret2
    have e0 : notB r k o = false := by show (liveB r o && !decide (o = (gn r k).pos) && !(decide (0 ≤ (gn r k).bef) && liveB r (gn r k).bef && !btwI (gn r k).bef o (gn r k).pos)) = false; rw [HLO.out]; simp
    rw [notR, e0, if_neg (by simp)]
    exact NewOwn.toRB (HB0.out _) HO.out HC.out.1 HC.out.2 hB _ (by simp)
  obtain ⟨hil, _, hfd⟩ := idx_live hlo
  have HLO := Lib.hid hlo
  have HFD := Lib.hid hfd
  have d0 : decide ((idxR r o : Int) < 0) = false := by simp
  clear hlo hfd
  cases hop : (o == (gn r k).pos)
  rotate_left
  · have HOP : Hid (o = (gn r k).pos) := by show _ = _; simpa using hop
    go_enter Try.func101, Try.ntmps101
    go_wp2_with fail
    refine (sfind_any _ len cap r o _ (HI.out.keepB (HB0.out _) (Nat.le_refl _)) HZ.out HM.out).mono ?_
    rintro e w1 ⟨rfl, rfl⟩
    rw [HFD.out]
    go_wp2_with fail
    refine (copy_any _ len cap r _ (HI.out.keepB (HB0.out _) (Nat.le_refl _)) HZ.out HV.out).mono ?_
    rintro e w2 ⟨N, c2, F, rfl, ho, h1, h2, hB⟩
    have HO := Lib.hid ho
    have HC := Lib.hid (And.intro h1 h2)
    clear ho h1 h2
    go_wp2
    go_ret2
    have e0 : notB r k o = false := by show (liveB r o && !decide (o = (gn r k).pos) && !(decide (0 ≤ (gn r k).bef) && liveB r (gn r k).bef && !btwI (gn r k).bef o (gn r k).pos)) = false; rw [HOP.out]; simp
    rw [notR, e0, if_neg (by simp)]
    exact NewOwn.toRB (HB0.out _) HO.out HC.out.1 HC.out.2 hB _ (by simp)
  have HOP : Hid (¬ o = (gn r k).pos) := by show ¬ _; simpa using hop
  by_cases hbf : 0 ≤ (gn r k).bef
  rotate_left
  · have d1 : decide (0 ≤ (gn r k).bef) = false := by simp; omega
    have HBF := Lib.hid hbf
    clear hbf
    go_enter Try.func101, Try.ntmps101
    go_wp2_with fail
    refine (sfind_any _ len cap r o _ (HI.out.keepB (HB0.out _) (Nat.le_refl _)) HZ.out HM.out).mono ?_
    rintro e w1 ⟨rfl, rfl⟩
    rw [HFD.out]
    go_wp2_with fail
    refine (set_any _ len cap k r (gn r k).pos o (gt (gn r k).aft 0) (gt (gn r k).aft 1) _ sc _ (HI.out.keepB (HB0.out _) (Nat.le_refl _)) HZ.out HV.out hk (HS.out.keepB (HB0.out _) (Nat.le_refl _)) hsc).mono ?_
    rintro e w2 ⟨N, c2, F, rfl, ho, h1, h2, hB⟩
    have HO := Lib.hid ho
    have HC := Lib.hid (And.intro h1 h2)
    clear ho h1 h2
    go_wp2
    go_ret2
    have e0 : notB r k o = true := by show (liveB r o && !decide (o = (gn r k).pos) && !(decide (0 ≤ (gn r k).bef) && liveB r (gn r k).bef && !btwI (gn r k).bef o (gn r k).pos)) = true; rw [HLO.out, decide_eq_false HOP.out, decide_eq_false (by have := HBF.out; omega)]; simp
    rw [notR, e0, if_pos rfl, HA.out]
    exact NewOwn.toRB (HB0.out _) HO.out HC.out.1 HC.out.2 hB _ (by simp)
  have HBF := Lib.hid hbf
  have d1 : decide (0 ≤ (gn r k).bef) = true := by simp; omega
  cases hlb : liveB r (gn r k).bef
  · have HLB := Lib.hid hlb
    have HFB := Lib.hid (fnd_dead hlb)
    clear hlb
    go_enter Try.func101, Try.ntmps101
    go_wp2_with fail
    refine (sfind_any _ len cap r o _ (HI.out.keepB (HB0.out _) (Nat.le_refl _)) HZ.out HM.out).mono ?_
    rintro e w1 ⟨rfl, rfl⟩
    rw [HFD.out]
    go_wp2_with fail
    refine (sfind_any _ len cap r (gn r k).bef _ (HI.out.keepB (HB0.out _) (Nat.le_refl _)) HZ.out HM.out).mono ?_
    rintro e w1 ⟨rfl, rfl⟩
    rw [HFB.out]
    go_wp2_with fail
    refine (set_any _ len cap k r (gn r k).pos o (gt (gn r k).aft 0) (gt (gn r k).aft 1) _ sc _ (HI.out.keepB (HB0.out _) (Nat.le_refl _)) HZ.out HV.out hk (HS.out.keepB (HB0.out _) (Nat.le_refl _)) hsc).mono ?_
    rintro e w2 ⟨N, c2, F, rfl, ho, h1, h2, hB⟩
    have HO := Lib.hid ho
    have HC := Lib.hid (And.intro h1 h2)
    clear ho h1 h2
    go_wp2
    go_ret2
    have e0 : notB r k o = true := by show (liveB r o && !decide (o = (gn r k).pos) && !(decide (0 ≤ (gn r k).bef) && liveB r (gn r k).bef && !btwI (gn r k).bef o (gn r k).pos)) = true; rw [HLO.out, decide_eq_false HOP.out, HLB.out]; simp
    rw [notR, e0, if_pos rfl, HA.out]
    exact NewOwn.toRB (HB0.out _) HO.out HC.out.1 HC.out.2 hB _ (by simp)
  obtain ⟨_, _, hfb⟩ := idx_live hlb
  have HLB := Lib.hid hlb
  have HFB := Lib.hid hfb
  have d2 : decide (0 ≤ (idxR r (gn r k).bef : Int)) = true := by simp
  clear hlb hfb
  cases hbt : btwI (gn r k).bef o (gn r k).pos
  · have HBT := Lib.hid hbt
    clear hbt
    go_enter Try.func101, Try.ntmps101
    go_wp2_with fail
    refine (sfind_any _ len cap r o _ (HI.out.keepB (HB0.out _) (Nat.le_refl _)) HZ.out HM.out).mono ?_
    rintro e w1 ⟨rfl, rfl⟩
    rw [HFD.out]
    go_wp2_with fail
    refine (sfind_any _ len cap r (gn r k).bef _ (HI.out.keepB (HB0.out _) (Nat.le_refl _)) HZ.out HM.out).mono ?_
    rintro e w1 ⟨rfl, rfl⟩
    rw [HFB.out]
    go_wp2_with fail
    refine (sbetw_as _ _ _ _ _ HBT.out).mono ?_
    rintro e w1 ⟨rfl, rfl⟩
    go_wp2_with fail
    refine (copy_any _ len cap r _ (HI.out.keepB (HB0.out _) (Nat.le_refl _)) HZ.out HV.out).mono ?_
    rintro e w2 ⟨N, c2, F, rfl, ho, h1, h2, hB⟩
    have HO := Lib.hid ho
    have HC := Lib.hid (And.intro h1 h2)
    clear ho h1 h2
    go_wp2
    go_ret2
    have e0 : notB r k o = false := by show (liveB r o && !decide (o = (gn r k).pos) && !(decide (0 ≤ (gn r k).bef) && liveB r (gn r k).bef && !btwI (gn r k).bef o (gn r k).pos)) = false; rw [HLB.out, HBT.out, decide_eq_true HBF.out]; simp
    rw [notR, e0, if_neg (by simp)]
    exact NewOwn.toRB (HB0.out _) HO.out HC.out.1 HC.out.2 hB _ (by simp)
  · have HBT := Lib.hid hbt
    clear hbt
    go_enter Try.func101, Try.ntmps101
    go_wp2_with fail
    refine (sfind_any _ len cap r o _ (HI.out.keepB (HB0.out _) (Nat.le_refl _)) HZ.out HM.out).mono ?_
    rintro e w1 ⟨rfl, rfl⟩
    rw [HFD.out]
    go_wp2_with fail
    refine (sfind_any _ len cap r (gn r k).bef _ (HI.out.keepB (HB0.out _) (Nat.le_refl _)) HZ.out HM.out).mono ?_
    rintro e w1 ⟨rfl, rfl⟩
    rw [HFB.out]
    go_wp2_with fail
    refine (sbetw_as _ _ _ _ _ HBT.out).mono ?_
    rintro e w1 ⟨rfl, rfl⟩
    go_wp2_with fail
    refine (set_any _ len cap k r (gn r k).pos o (gt (gn r k).aft 0) (gt (gn r k).aft 1) _ sc _ (HI.out.keepB (HB0.out _) (Nat.le_refl _)) HZ.out HV.out hk (HS.out.keepB (HB0.out _) (Nat.le_refl _)) hsc).mono ?_
    rintro e w2 ⟨N, c2, F, rfl, ho, h1, h2, hB⟩
    have HO := Lib.hid ho
    have HC := Lib.hid (And.intro h1 h2)
    clear ho h1 h2
    go_wp2
    go_ret2
    have e0 : notB r k o = true := by show (liveB r o && !decide (o = (gn r k).pos) && !(decide (0 ≤ (gn r k).bef) && liveB r (gn r k).bef && !btwI (gn r k).bef o (gn r k).pos)) = true; rw [HLO.out, decide_eq_false HOP.out, HBT.out]; simp
    rw [notR, e0, if_pos rfl, HA.out]
    exact NewOwn.toRB (HB0.out _) HO.out HC.out.1 HC.out.2 hB _ (by simp)

def oneB (r : List Nd) (id : Int) : Bool := safeB r && ptB id
def OnePost (r : List Nd) (id : Int) (w : World) (e : Ending) (w' : World) : Prop :=
  ((oneB r id = true ∧ e = .returned (.tuple #[.int .i64 (fndI r id), .bool true])) ∨ (oneB r id = false ∧ e = .returned (.tuple #[.int .i64 (-1), .bool false]))) ∧ Below w.heap.size w w'
theorem ssafe_as (v : Bool) (a : Option Addr) (len cap : Nat) (r : List Nd) (w : World) (h : RingAt w a r) (hz : r.length = len) (hm : len ≤ maxLen) (hv : safeB r = v) :
    Calls Try.prog 25 #[.slice a len cap] w fun e w' => e = .returned (.bool v) ∧ Below w.heap.size w w' := by subst hv; exact ssafe_any a len cap r w h hz hm

set_option maxHeartbeats 1000000 in
theorem sone_any (a : Option Addr) (len cap : Nat) (id : Int) (r : List Nd) (w : World) (h : RingAt w a r) (hz : r.length = len) (hm : len ≤ maxLen) :
    Calls Try.prog 97 #[.slice a len cap, .int .i64 id] w (OnePost r id w) := by
  have HI := Lib.hid h
  have HZ := Lib.hid hz
  have HM := Lib.hid hm
  clear h hz hm
  cases hs : safeB r
  · have He : Hid (oneB r id = false) := by show oneB r id = false; simp [oneB, hs]
    have HS := Lib.hid hs
    clear hs
    go_enter Try.func97, Try.ntmps97
    go_wp2_with fail
    refine (ssafe_as _ a len cap r w HI.out HZ.out HM.out HS.out).mono ?_
    rintro e w1 ⟨rfl, hb1⟩
    go_wp2
    go_ret2
    exact ⟨.inr ⟨He.out, rfl⟩, hb1⟩
  have HS := Lib.hid hs
  cases hp : ptB id
  · have He : Hid (oneB r id = false) := by show oneB r id = false; simp [oneB, hp]
    have HP := Lib.hid hp
    clear hs hp
    go_enter Try.func97, Try.ntmps97
    go_wp2_with fail
    refine (ssafe_as _ a len cap r w HI.out HZ.out HM.out HS.out).mono ?_
    rintro e w1 ⟨rfl, hb1⟩
    go_wp2_with fail
    refine (point_as _ id _ HP.out).mono ?_
    rintro e w2 ⟨rfl, rfl⟩
    go_wp2
    go_ret2
    exact ⟨.inr ⟨He.out, rfl⟩, hb1⟩
  · have He : Hid (oneB r id = true) := by show oneB r id = true; simp [oneB, hp, hs]
    have HP := Lib.hid hp
    clear hs hp
    go_enter Try.func97, Try.ntmps97
    go_wp2_with fail
    refine (ssafe_as _ a len cap r w HI.out HZ.out HM.out HS.out).mono ?_
    rintro e w1 ⟨rfl, hb1⟩
    go_wp2_with fail
    refine (point_as _ id _ HP.out).mono ?_
    rintro e w2 ⟨rfl, rfl⟩
    go_wp2_with fail
    refine (sfind_any _ len cap r id _ (HI.out.keepB hb1 (Nat.le_refl _)) HZ.out HM.out).mono ?_
    rintro e w2 ⟨rfl, rfl⟩
    go_wp2
    go_ret2
    exact ⟨.inl ⟨He.out, rfl⟩, hb1⟩
end Go.Proofs.Ytfhjmfcdogpbeaa
