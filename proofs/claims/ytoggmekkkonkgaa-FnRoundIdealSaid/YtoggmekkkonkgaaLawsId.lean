/- The walk of the law of ideal rings. -/
import Derived.Test.YtoggmekkkonkgaaMH
import Derived.Test.YtoggmekkkonkgaaMA
import Derived.Test.YtoggmekkkonkgaaCalm
namespace Go.Proofs.Ytoggmekkkonkgaa
open Go.RowKit
set_option linter.unusedVariables false

/-- a drawn ring -/
def DrewI (w : World) (e : Ending) (w' : World) : Prop :=
  ∃ N cap r, e = .returned (.slice (some ⟨N, 0, none⟩) r.length cap) ∧ RingAt w' (some ⟨N, 0, none⟩) r ∧ r.length ≤ 10 ∧ r.length ≤ cap ∧ Below w.heap.size w w'

set_option maxHeartbeats 1000000 in
theorem drawRingIdeal (s : Option Addr) (len cap : Nat) (w : World) (h : BytesAt w s len cap) :
    Calls Try.prog 11 #[.slice s len cap] w (DrewI w) := by
  go_enter Try.func11, Try.ntmps11
  go_wp2_with fail
  refine (open_any s len cap w h).mono ?_
  rintro e w0 ⟨rfl, hr0, hb0, hz0⟩
  have HZ := Lib.hid hz0
  clear hz0
  go_wp2_with fail
  refine (pick_r w.heap.size 160 2 w0 (hr0.less (by omega)) (by omega) (by omega)).mono ?_
  rintro e w1 ⟨v, hv0, hv1, rfl, hr1, hk1⟩
  have HR1 := Lib.hid hr1
  have hg1 : w0.grownBy w1 (some w.heap.size) := hk1.grown
  have hz := HZ.out
  have hb1 : Below w.heap.size w w1 := below_of_grown hb0 (Nat.le_refl _) (by omega) hg1
  have hz1 := hb1.size
  clear hr1 hz
  have hcase : v = 0 ∨ v = 1 := by omega
  clear hv0 hv1
  rcases hcase with rfl | rfl
  · go_wp2_with fail
    refine (ring_any w.heap.size 5 w1 (HR1.out.less (by omega))).mono ?_
    rintro e w2 ⟨N, cap1, F, r, rfl, ho, h1, h2, hs, hr2, hg2⟩
    have HO := Lib.hid ho.ring
    have HS := Lib.hid hs
    have hb2 : Below w.heap.size w w2 := below_of_grown hb1 (Nat.le_refl _) hz1 hg2
    clear ho hs hr2 h1 h2
    go_wp2_with fail
    refine (rcalm_safe _ _ cap1 r w2 HO.out rfl HS.out).mono ?_
    rintro e w3 ⟨N3, c3, r3, rfl, hr3, hl3, hc3, hs3, hB3⟩
    have HR3 := Lib.hid hr3
    have HL3 := Lib.hid hl3
    have HS3 := Lib.hid hs3
    clear hr3 hl3 hs3
    go_wp2
    go_ret
    exact ⟨N3, c3, r3, by rw [HL3.out]; rfl, HR3.out, rv_len (safe_rv HS3.out), by rw [HL3.out]; exact hc3, hb2.trans (hB3.mono hb2.size)⟩
  · go_wp2_with fail
    refine (spoilt_any w.heap.size 5 w1 (HR1.out.less (by omega))).mono ?_
    rintro e w2 ⟨N, cap1, F, r, rfl, ho, h1, h2, h10, hr2, hg2⟩
    have HO := Lib.hid ho.ring
    clear ho hr2
    go_wp2
    go_ret
    exact ⟨N, cap1, r, rfl, HO.out, h10, h1, below_of_grown hb1 (Nat.le_refl _) hz1 hg2⟩

theorem same_eq {a b : List Nd} (h : sameR a b = true) : a = b := by
  rw [sameR, Bool.and_eq_true] at h
  have hl : a.length = b.length := by simpa using h.1
  refine List.ext_getElem hl fun i hi hi' => ?_
  have hn := (allTo_iff _ _).1 h.2 i hi
  rw [← gn_get hi, ← gn_get hi']
  simp only [sameN, Bool.and_eq_true, decide_eq_true_eq] at hn
  exact nd_ext hn.1.1 hn.1.2 hn.2
theorem ids_asc {r : List Nd} (h : rvB r = true) : AscP (idsOf r) := by
  refine ⟨fun i hi => ?_, fun i hi => ?_⟩
  · rw [ids_len] at hi; rw [ids_gt hi]; exact (nd_open h hi).1
  · rw [ids_len] at hi; rw [ids_gt (by omega), ids_gt hi]; exact rv_lt h (by omega) hi
theorem idl_safe {r : List Nd} (h : idlB r = true) : safeB r = true ∧ (prL r).length = r.length := by
  unfold idlB at h
  simp only [Bool.and_eq_true, decide_eq_true_eq] at h
  obtain ⟨⟨hv, h3⟩, hs⟩ := h
  have e := same_eq hs
  have hi := ideal_safe (ids_asc hv) (by rw [ids_len]; exact h3) (by rw [ids_len]; exact rv_len hv)
  rw [← e, ids_len] at hi
  exact hi

end Go.Proofs.Ytoggmekkkonkgaa
