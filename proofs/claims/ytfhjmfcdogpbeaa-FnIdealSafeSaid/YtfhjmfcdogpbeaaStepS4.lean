/- The exported steps of the model. -/
import Derived.Test.YtfhjmfcdogpbeaaStepS3
namespace Go.Proofs.Ytfhjmfcdogpbeaa
open Go.RowKit
set_option linter.unusedVariables false

def selR (r : List Nd) (ok : Bool) (i : Int) (f : Nat → List Nd) : List Nd := if ok then (if liveB r i then f (idxR r i) else r) else []
def selB (r : List Nd) (ok : Bool) (i : Int) (g : Nat → Bool) : Bool := ok && liveB r i && g (idxR r i)
theorem NewRB.mono {r : List Nd} {b : Bool} {w w1 w2 : World} {e : Ending} (h : NewRB r b w1 e w2) (hb : Below w.heap.size w w1) : NewRB r b w e w2 := by
  obtain ⟨N, cap, F, he, ho, h1, h2, hB⟩ := h
  exact ⟨N, cap, F, he, ho.wide hb.size (Nat.le_refl _), h1, h2, hb.trans (hB.mono hb.size)⟩
theorem bool_cases (b : Bool) : b = false ∨ b = true := by cases b <;> simp
theorem one_safe {r : List Nd} {i : Int} (h : oneB r i = true) : safeB r = true := by unfold oneB at h; simp at h; exact h.1
theorem one_rv {r : List Nd} {i : Int} (h : oneB r i = true) : rvB r = true := by unfold oneB at h; simp at h; exact safe_rv h.1

set_option maxHeartbeats 1000000 in
theorem srdrop_any (a : Option Addr) (len cap : Nat) (i : Int) (r : List Nd) (w : World) (h : RingAt w a r) (hz : r.length = len) (hm : len ≤ maxLen) :
    Calls Try.prog 91 #[.slice a len cap, .int .i64 i] w (NewRB (selR r (oneB r i) i (dropR r)) (selB r (oneB r i) i (dropB r)) w) := by
  have HI := Lib.hid h
  have HZ := Lib.hid hz
  have HM := Lib.hid hm
  clear h hz hm
  rcases bool_cases (oneB r i) with ho | ho
  · have HO1 := Lib.hid ho
    clear ho
    go_enter Try.func91, Try.ntmps91
    go_wp2_with fail
    refine (sone_any a len cap i r w HI.out HZ.out HM.out).mono ?_
    rintro e w1 ⟨⟨hh, rfl⟩ | ⟨hx, rfl⟩, hb1⟩
    · rw [HO1.out] at hh; cases hh
    clear hx
    go_wp2
    go_ret2
    have e1 : selR r (oneB r i) i (dropR r) = [] := by simp [selR, HO1.out]
    have e2 : selB r (oneB r i) i (dropB r) = false := by simp [selB, HO1.out]
    rw [e1, e2]
    exact (newRB_nil w1 _).mono hb1
  have HO1 := Lib.hid ho
  have HV := Lib.hid (one_rv ho)
  clear ho
  rcases bool_cases (liveB r i) with hli | hli
  · have HL := Lib.hid hli
    have HFD := Lib.hid (fnd_dead hli)
    clear hli
    go_enter Try.func91, Try.ntmps91
    go_wp2_with fail
    refine (sone_any a len cap i r w HI.out HZ.out HM.out).mono ?_
    rintro e w1 ⟨⟨hx, rfl⟩ | ⟨hh, rfl⟩, hb1⟩
    rotate_left
    · rw [HO1.out] at hh; cases hh
    clear hx
    rw [HFD.out]
    go_wp2_with fail
    refine (copy_any _ len cap r _ (HI.out.keepB hb1 (Nat.le_refl _)) HZ.out HV.out).mono ?_
    rintro e w2 ⟨N, c2, F, rfl, ho, h1, h2, hB⟩
    have HO := Lib.hid ho
    have HC := Lib.hid (And.intro h1 h2)
    clear ho h1 h2
    go_wp2
    go_ret2
    have e1 : selR r (oneB r i) i (dropR r) = r := by simp [selR, HO1.out, HL.out]
    have e2 : selB r (oneB r i) i (dropB r) = false := by simp [selB, HO1.out, HL.out]
    rw [e1, e2]
    exact NewOwn.toRB hb1 HO.out HC.out.1 HC.out.2 hB _ (by simp)
  · obtain ⟨hil, _, hfd⟩ := idx_live hli
    have HL := Lib.hid hli
    have HFD := Lib.hid hfd
    rw [HZ.out] at hil
    have d0 : decide ((idxR r i : Int) < 0) = false := by simp
    clear hli hfd
    go_enter Try.func91, Try.ntmps91
    go_wp2_with fail
    refine (sone_any a len cap i r w HI.out HZ.out HM.out).mono ?_
    rintro e w1 ⟨⟨hx, rfl⟩ | ⟨hh, rfl⟩, hb1⟩
    rotate_left
    · rw [HO1.out] at hh; cases hh
    clear hx
    rw [HFD.out]
    go_wp2_with fail
    refine (sdrop_any _ len cap _ r _ (HI.out.keepB hb1 (Nat.le_refl _)) HZ.out HV.out hil).mono ?_
    rintro e w2 ⟨N, c2, F, rfl, ho, h1, h2, hB⟩
    have HO := Lib.hid ho
    have HC := Lib.hid (And.intro h1 h2)
    clear ho h1 h2
    have e1 : selR r (oneB r i) i (dropR r) = (dropR r) (idxR r i) := by simp [selR, HO1.out, HL.out]
    have e2 : selB r (oneB r i) i (dropB r) = (dropB r) (idxR r i) := by simp [selB, HO1.out, HL.out]
    have E1 := Lib.hid e1
    have E2 := Lib.hid e2
    clear e1 e2
    go_wp2
    go_ret2
    rw [E1.out, E2.out]
    exact ⟨N, c2, F, rfl, HO.out.wide hb1.size (Nat.le_refl _), HC.out.1, HC.out.2, hb1.trans (hB.mono hb1.size)⟩

set_option maxHeartbeats 1000000 in
theorem sradopt_any (a : Option Addr) (len cap : Nat) (i : Int) (r : List Nd) (w : World) (h : RingAt w a r) (hz : r.length = len) (hm : len ≤ maxLen) :
    Calls Try.prog 92 #[.slice a len cap, .int .i64 i] w (NewRB (selR r (oneB r i) i (adoptR r)) (selB r (oneB r i) i (adoptB r)) w) := by
  have HI := Lib.hid h
  have HZ := Lib.hid hz
  have HM := Lib.hid hm
  clear h hz hm
  rcases bool_cases (oneB r i) with ho | ho
  · have HO1 := Lib.hid ho
    clear ho
    go_enter Try.func92, Try.ntmps92
    go_wp2_with fail
    refine (sone_any a len cap i r w HI.out HZ.out HM.out).mono ?_
    rintro e w1 ⟨⟨hh, rfl⟩ | ⟨hx, rfl⟩, hb1⟩
    · rw [HO1.out] at hh; cases hh
    clear hx
    go_wp2
    go_ret2
    have e1 : selR r (oneB r i) i (adoptR r) = [] := by simp [selR, HO1.out]
    have e2 : selB r (oneB r i) i (adoptB r) = false := by simp [selB, HO1.out]
    rw [e1, e2]
    exact (newRB_nil w1 _).mono hb1
  have HO1 := Lib.hid ho
  have HV := Lib.hid (one_rv ho)
  clear ho
  rcases bool_cases (liveB r i) with hli | hli
  · have HL := Lib.hid hli
    have HFD := Lib.hid (fnd_dead hli)
    clear hli
    go_enter Try.func92, Try.ntmps92
    go_wp2_with fail
    refine (sone_any a len cap i r w HI.out HZ.out HM.out).mono ?_
    rintro e w1 ⟨⟨hx, rfl⟩ | ⟨hh, rfl⟩, hb1⟩
    rotate_left
    · rw [HO1.out] at hh; cases hh
    clear hx
    rw [HFD.out]
    go_wp2_with fail
    refine (copy_any _ len cap r _ (HI.out.keepB hb1 (Nat.le_refl _)) HZ.out HV.out).mono ?_
    rintro e w2 ⟨N, c2, F, rfl, ho, h1, h2, hB⟩
    have HO := Lib.hid ho
    have HC := Lib.hid (And.intro h1 h2)
    clear ho h1 h2
    go_wp2
    go_ret2
    have e1 : selR r (oneB r i) i (adoptR r) = r := by simp [selR, HO1.out, HL.out]
    have e2 : selB r (oneB r i) i (adoptB r) = false := by simp [selB, HO1.out, HL.out]
    rw [e1, e2]
    exact NewOwn.toRB hb1 HO.out HC.out.1 HC.out.2 hB _ (by simp)
  · obtain ⟨hil, _, hfd⟩ := idx_live hli
    have HL := Lib.hid hli
    have HFD := Lib.hid hfd
    rw [HZ.out] at hil
    have d0 : decide ((idxR r i : Int) < 0) = false := by simp
    clear hli hfd
    go_enter Try.func92, Try.ntmps92
    go_wp2_with fail
    refine (sone_any a len cap i r w HI.out HZ.out HM.out).mono ?_
    rintro e w1 ⟨⟨hx, rfl⟩ | ⟨hh, rfl⟩, hb1⟩
    rotate_left
    · rw [HO1.out] at hh; cases hh
    clear hx
    rw [HFD.out]
    go_wp2_with fail
    refine (sadopt_any _ len cap _ r _ (HI.out.keepB hb1 (Nat.le_refl _)) HZ.out HV.out hil).mono ?_
    rintro e w2 ⟨N, c2, F, rfl, ho, h1, h2, hB⟩
    have HO := Lib.hid ho
    have HC := Lib.hid (And.intro h1 h2)
    clear ho h1 h2
    have e1 : selR r (oneB r i) i (adoptR r) = (adoptR r) (idxR r i) := by simp [selR, HO1.out, HL.out]
    have e2 : selB r (oneB r i) i (adoptB r) = (adoptB r) (idxR r i) := by simp [selB, HO1.out, HL.out]
    have E1 := Lib.hid e1
    have E2 := Lib.hid e2
    clear e1 e2
    go_wp2
    go_ret2
    rw [E1.out, E2.out]
    exact ⟨N, c2, F, rfl, HO.out.wide hb1.size (Nat.le_refl _), HC.out.1, HC.out.2, hb1.trans (hB.mono hb1.size)⟩

set_option maxHeartbeats 1000000 in
theorem srcloser_any (a : Option Addr) (len cap : Nat) (i o : Int) (r : List Nd) (w : World) (h : RingAt w a r) (hz : r.length = len) (hm : len ≤ maxLen) :
    Calls Try.prog 93 #[.slice a len cap, .int .i64 i, .int .i64 o] w (NewRB (selR r (oneB r i && ptB o) i (fun k => closerR r k o)) (selB r (oneB r i && ptB o) i (fun k => closerB r k o)) w) := by
  have HI := Lib.hid h
  have HZ := Lib.hid hz
  have HM := Lib.hid hm
  clear h hz hm
  rcases bool_cases (oneB r i) with ho | ho
  · have HO1 := Lib.hid ho
    clear ho
    go_enter Try.func93, Try.ntmps93
    go_wp2_with fail
    refine (sone_any a len cap i r w HI.out HZ.out HM.out).mono ?_
    rintro e w1 ⟨⟨hh, rfl⟩ | ⟨hx, rfl⟩, hb1⟩
    · rw [HO1.out] at hh; cases hh
    clear hx
    go_wp2
    go_ret2
    have e1 : selR r (oneB r i && ptB o) i (fun k => closerR r k o) = [] := by simp [selR, HO1.out]
    have e2 : selB r (oneB r i && ptB o) i (fun k => closerB r k o) = false := by simp [selB, HO1.out]
    rw [e1, e2]
    exact (newRB_nil w1 _).mono hb1
  have HO1 := Lib.hid ho
  have HV := Lib.hid (one_rv ho)
  clear ho
  rcases bool_cases (ptB o) with hpo | hpo
  · have HP := Lib.hid hpo
    clear hpo
    go_enter Try.func93, Try.ntmps93
    go_wp2_with fail
    refine (sone_any a len cap i r w HI.out HZ.out HM.out).mono ?_
    rintro e w1 ⟨⟨hx, rfl⟩ | ⟨hh, rfl⟩, hb1⟩
    rotate_left
    · rw [HO1.out] at hh; cases hh
    clear hx
    go_wp2_with fail
    refine (point_as _ o _ HP.out).mono ?_
    rintro e w2 ⟨rfl, rfl⟩
    go_wp2
    go_ret2
    have e1 : selR r (oneB r i && ptB o) i (fun k => closerR r k o) = [] := by simp [selR, HO1.out, HP.out]
    have e2 : selB r (oneB r i && ptB o) i (fun k => closerB r k o) = false := by simp [selB, HO1.out, HP.out]
    rw [e1, e2]
    exact (newRB_nil w1 _).mono hb1
  have HP := Lib.hid hpo
  clear hpo
  rcases bool_cases (liveB r i) with hli | hli
  · have HL := Lib.hid hli
    have HFD := Lib.hid (fnd_dead hli)
    clear hli
    go_enter Try.func93, Try.ntmps93
    go_wp2_with fail
    refine (sone_any a len cap i r w HI.out HZ.out HM.out).mono ?_
    rintro e w1 ⟨⟨hx, rfl⟩ | ⟨hh, rfl⟩, hb1⟩
    rotate_left
    · rw [HO1.out] at hh; cases hh
    clear hx
    rw [HFD.out]
    go_wp2_with fail
    refine (point_as _ o _ HP.out).mono ?_
    rintro e w2 ⟨rfl, rfl⟩
    go_wp2_with fail
    refine (copy_any _ len cap r _ (HI.out.keepB hb1 (Nat.le_refl _)) HZ.out HV.out).mono ?_
    rintro e w2 ⟨N, c2, F, rfl, ho, h1, h2, hB⟩
    have HO := Lib.hid ho
    have HC := Lib.hid (And.intro h1 h2)
    clear ho h1 h2
    go_wp2
    go_ret2
    have e1 : selR r (oneB r i && ptB o) i (fun k => closerR r k o) = r := by simp [selR, HO1.out, HL.out, HP.out]
    have e2 : selB r (oneB r i && ptB o) i (fun k => closerB r k o) = false := by simp [selB, HO1.out, HL.out, HP.out]
    rw [e1, e2]
    exact NewOwn.toRB hb1 HO.out HC.out.1 HC.out.2 hB _ (by simp)
  · obtain ⟨hil, _, hfd⟩ := idx_live hli
    have HL := Lib.hid hli
    have HFD := Lib.hid hfd
    rw [HZ.out] at hil
    have d0 : decide ((idxR r i : Int) < 0) = false := by simp
    clear hli hfd
    go_enter Try.func93, Try.ntmps93
    go_wp2_with fail
    refine (sone_any a len cap i r w HI.out HZ.out HM.out).mono ?_
    rintro e w1 ⟨⟨hx, rfl⟩ | ⟨hh, rfl⟩, hb1⟩
    rotate_left
    · rw [HO1.out] at hh; cases hh
    clear hx
    rw [HFD.out]
    go_wp2_with fail
    refine (point_as _ o _ HP.out).mono ?_
    rintro e w2 ⟨rfl, rfl⟩
    go_wp2_with fail
    refine (scloser_any _ len cap _ o r _ (HI.out.keepB hb1 (Nat.le_refl _)) HZ.out HV.out hil).mono ?_
    rintro e w2 ⟨N, c2, F, rfl, ho, h1, h2, hB⟩
    have HO := Lib.hid ho
    have HC := Lib.hid (And.intro h1 h2)
    clear ho h1 h2
    have e1 : selR r (oneB r i && ptB o) i (fun k => closerR r k o) = (fun k => closerR r k o) (idxR r i) := by simp [selR, HO1.out, HL.out, HP.out]
    have e2 : selB r (oneB r i && ptB o) i (fun k => closerB r k o) = (fun k => closerB r k o) (idxR r i) := by simp [selB, HO1.out, HL.out, HP.out]
    have E1 := Lib.hid e1
    have E2 := Lib.hid e2
    clear e1 e2
    go_wp2
    go_ret2
    rw [E1.out, E2.out]
    exact ⟨N, c2, F, rfl, HO.out.wide hb1.size (Nat.le_refl _), HC.out.1, HC.out.2, hb1.trans (hB.mono hb1.size)⟩

set_option maxHeartbeats 1000000 in
theorem srnot_any (a : Option Addr) (len cap : Nat) (i o : Int) (r : List Nd) (w : World) (h : RingAt w a r) (hz : r.length = len) (hm : len ≤ maxLen) :
    Calls Try.prog 94 #[.slice a len cap, .int .i64 i, .int .i64 o] w (NewRB (selR r (oneB r i && ptB o) i (fun k => notR r k o)) (selB r (oneB r i && ptB o) i (fun k => notB r k o)) w) := by
  have HI := Lib.hid h
  have HZ := Lib.hid hz
  have HM := Lib.hid hm
  clear h hz hm
  rcases bool_cases (oneB r i) with ho | ho
  · have HO1 := Lib.hid ho
    clear ho
    go_enter Try.func94, Try.ntmps94
    go_wp2_with fail
    refine (sone_any a len cap i r w HI.out HZ.out HM.out).mono ?_
    rintro e w1 ⟨⟨hh, rfl⟩ | ⟨hx, rfl⟩, hb1⟩
    · rw [HO1.out] at hh; cases hh
    clear hx
    go_wp2
    go_ret2
    have e1 : selR r (oneB r i && ptB o) i (fun k => notR r k o) = [] := by simp [selR, HO1.out]
    have e2 : selB r (oneB r i && ptB o) i (fun k => notB r k o) = false := by simp [selB, HO1.out]
    rw [e1, e2]
    exact (newRB_nil w1 _).mono hb1
  have HO1 := Lib.hid ho
  have HV := Lib.hid (one_rv ho)
  clear ho
  rcases bool_cases (ptB o) with hpo | hpo
  · have HP := Lib.hid hpo
    clear hpo
    go_enter Try.func94, Try.ntmps94
    go_wp2_with fail
    refine (sone_any a len cap i r w HI.out HZ.out HM.out).mono ?_
    rintro e w1 ⟨⟨hx, rfl⟩ | ⟨hh, rfl⟩, hb1⟩
    rotate_left
    · rw [HO1.out] at hh; cases hh
    clear hx
    go_wp2_with fail
    refine (point_as _ o _ HP.out).mono ?_
    rintro e w2 ⟨rfl, rfl⟩
    go_wp2
    go_ret2
    have e1 : selR r (oneB r i && ptB o) i (fun k => notR r k o) = [] := by simp [selR, HO1.out, HP.out]
    have e2 : selB r (oneB r i && ptB o) i (fun k => notB r k o) = false := by simp [selB, HO1.out, HP.out]
    rw [e1, e2]
    exact (newRB_nil w1 _).mono hb1
  have HP := Lib.hid hpo
  clear hpo
  rcases bool_cases (liveB r i) with hli | hli
  · have HL := Lib.hid hli
    have HFD := Lib.hid (fnd_dead hli)
    clear hli
    go_enter Try.func94, Try.ntmps94
    go_wp2_with fail
    refine (sone_any a len cap i r w HI.out HZ.out HM.out).mono ?_
    rintro e w1 ⟨⟨hx, rfl⟩ | ⟨hh, rfl⟩, hb1⟩
    rotate_left
    · rw [HO1.out] at hh; cases hh
    clear hx
    rw [HFD.out]
    go_wp2_with fail
    refine (point_as _ o _ HP.out).mono ?_
    rintro e w2 ⟨rfl, rfl⟩
    go_wp2_with fail
    refine (copy_any _ len cap r _ (HI.out.keepB hb1 (Nat.le_refl _)) HZ.out HV.out).mono ?_
    rintro e w2 ⟨N, c2, F, rfl, ho, h1, h2, hB⟩
    have HO := Lib.hid ho
    have HC := Lib.hid (And.intro h1 h2)
    clear ho h1 h2
    go_wp2
    go_ret2
    have e1 : selR r (oneB r i && ptB o) i (fun k => notR r k o) = r := by simp [selR, HO1.out, HL.out, HP.out]
    have e2 : selB r (oneB r i && ptB o) i (fun k => notB r k o) = false := by simp [selB, HO1.out, HL.out, HP.out]
    rw [e1, e2]
    exact NewOwn.toRB hb1 HO.out HC.out.1 HC.out.2 hB _ (by simp)
  · obtain ⟨hil, _, hfd⟩ := idx_live hli
    have HL := Lib.hid hli
    have HFD := Lib.hid hfd
    rw [HZ.out] at hil
    have d0 : decide ((idxR r i : Int) < 0) = false := by simp
    clear hli hfd
    go_enter Try.func94, Try.ntmps94
    go_wp2_with fail
    refine (sone_any a len cap i r w HI.out HZ.out HM.out).mono ?_
    rintro e w1 ⟨⟨hx, rfl⟩ | ⟨hh, rfl⟩, hb1⟩
    rotate_left
    · rw [HO1.out] at hh; cases hh
    clear hx
    rw [HFD.out]
    go_wp2_with fail
    refine (point_as _ o _ HP.out).mono ?_
    rintro e w2 ⟨rfl, rfl⟩
    go_wp2_with fail
    refine (snot_any _ len cap _ o r _ (HI.out.keepB hb1 (Nat.le_refl _)) HZ.out HV.out hil).mono ?_
    rintro e w2 ⟨N, c2, F, rfl, ho, h1, h2, hB⟩
    have HO := Lib.hid ho
    have HC := Lib.hid (And.intro h1 h2)
    clear ho h1 h2
    have e1 : selR r (oneB r i && ptB o) i (fun k => notR r k o) = (fun k => notR r k o) (idxR r i) := by simp [selR, HO1.out, HL.out, HP.out]
    have e2 : selB r (oneB r i && ptB o) i (fun k => notB r k o) = (fun k => notB r k o) (idxR r i) := by simp [selB, HO1.out, HL.out, HP.out]
    have E1 := Lib.hid e1
    have E2 := Lib.hid e2
    clear e1 e2
    go_wp2
    go_ret2
    rw [E1.out, E2.out]
    exact ⟨N, c2, F, rfl, HO.out.wide hb1.size (Nat.le_refl _), HC.out.1, HC.out.2, hb1.trans (hB.mono hb1.size)⟩

set_option maxHeartbeats 1000000 in
theorem srstab_any (a : Option Addr) (len cap : Nat) (i : Int) (r : List Nd) (w : World) (h : RingAt w a r) (hz : r.length = len) (hm : len ≤ maxLen) :
    Calls Try.prog 95 #[.slice a len cap, .int .i64 i] w (NewRB (selR r (oneB r i) i (stabR r)) (selB r (oneB r i) i (fun _ => true)) w) := by
  have HI := Lib.hid h
  have HZ := Lib.hid hz
  have HM := Lib.hid hm
  clear h hz hm
  rcases bool_cases (oneB r i) with ho | ho
  · have HO1 := Lib.hid ho
    clear ho
    go_enter Try.func95, Try.ntmps95
    go_wp2_with fail
    refine (sone_any a len cap i r w HI.out HZ.out HM.out).mono ?_
    rintro e w1 ⟨⟨hh, rfl⟩ | ⟨hx, rfl⟩, hb1⟩
    · rw [HO1.out] at hh; cases hh
    clear hx
    go_wp2
    go_ret2
    have e1 : selR r (oneB r i) i (stabR r) = [] := by simp [selR, HO1.out]
    have e2 : selB r (oneB r i) i (fun _ => true) = false := by simp [selB, HO1.out]
    rw [e1, e2]
    exact (newRB_nil w1 _).mono hb1
  have HO1 := Lib.hid ho
  have HV := Lib.hid (one_rv ho)
  clear ho
  rcases bool_cases (liveB r i) with hli | hli
  · have HL := Lib.hid hli
    have HFD := Lib.hid (fnd_dead hli)
    clear hli
    go_enter Try.func95, Try.ntmps95
    go_wp2_with fail
    refine (sone_any a len cap i r w HI.out HZ.out HM.out).mono ?_
    rintro e w1 ⟨⟨hx, rfl⟩ | ⟨hh, rfl⟩, hb1⟩
    rotate_left
    · rw [HO1.out] at hh; cases hh
    clear hx
    rw [HFD.out]
    go_wp2_with fail
    refine (copy_any _ len cap r _ (HI.out.keepB hb1 (Nat.le_refl _)) HZ.out HV.out).mono ?_
    rintro e w2 ⟨N, c2, F, rfl, ho, h1, h2, hB⟩
    have HO := Lib.hid ho
    have HC := Lib.hid (And.intro h1 h2)
    clear ho h1 h2
    go_wp2
    go_ret2
    have e1 : selR r (oneB r i) i (stabR r) = r := by simp [selR, HO1.out, HL.out]
    have e2 : selB r (oneB r i) i (fun _ => true) = false := by simp [selB, HO1.out, HL.out]
    rw [e1, e2]
    exact NewOwn.toRB hb1 HO.out HC.out.1 HC.out.2 hB _ (by simp)
  · obtain ⟨hil, _, hfd⟩ := idx_live hli
    have HL := Lib.hid hli
    have HFD := Lib.hid hfd
    rw [HZ.out] at hil
    have d0 : decide ((idxR r i : Int) < 0) = false := by simp
    clear hli hfd
    go_enter Try.func95, Try.ntmps95
    go_wp2_with fail
    refine (sone_any a len cap i r w HI.out HZ.out HM.out).mono ?_
    rintro e w1 ⟨⟨hx, rfl⟩ | ⟨hh, rfl⟩, hb1⟩
    rotate_left
    · rw [HO1.out] at hh; cases hh
    clear hx
    rw [HFD.out]
    go_wp2_with fail
    refine (sstab_any _ len cap _ r _ (HI.out.keepB hb1 (Nat.le_refl _)) HZ.out (one_safe HO1.out) hil).mono ?_
    rintro e w2 ⟨N, c2, F, rfl, ho, h1, h2, hB⟩
    have HO := Lib.hid ho
    have HC := Lib.hid (And.intro h1 h2)
    clear ho h1 h2
    have e1 : selR r (oneB r i) i (stabR r) = (stabR r) (idxR r i) := by simp [selR, HO1.out, HL.out]
    have e2 : selB r (oneB r i) i (fun _ => true) = true := by simp [selB, HO1.out, HL.out]
    have E1 := Lib.hid e1
    have E2 := Lib.hid e2
    clear e1 e2
    go_wp2
    go_ret2
    rw [E1.out, E2.out]
    exact ⟨N, c2, F, rfl, HO.out.wide hb1.size (Nat.le_refl _), HC.out.1, HC.out.2, hb1.trans (hB.mono hb1.size)⟩
end Go.Proofs.Ytfhjmfcdogpbeaa
