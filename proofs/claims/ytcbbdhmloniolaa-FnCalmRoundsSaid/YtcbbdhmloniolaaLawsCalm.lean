/- The laws of rounds and quiet periods. -/
import Derived.Test.YtcbbdhmloniolaaLawsH
import Derived.Test.YtcbbdhmloniolaaNwCalm
import Derived.Test.YtcbbdhmloniolaaLawsSafe
import Derived.Test.YtcbbdhmloniolaaIdealMath
import Derived.Test.YtcbbdhmloniolaaSameS
import Derived.Test.YtcbbdhmloniolaaNwRing
namespace Go.Proofs.Ytcbbdhmloniolaa
open Go.RowKit
set_option linter.unusedVariables false
attribute [local go_sem ↓] Go.wp_at_zero Go.wp_at_succ

theorem set_ids {a b : List Nd} (h : SetOk a b) : idsOf b = idsOf a := by
  apply List.ext_getElem (by rw [ids_len, ids_len, h.len])
  intro i h1 h2
  rw [ids_len] at h1 h2
  have e1 := ids_gt h1
  have e2 := ids_gt h2
  rw [gt_get (by rw [ids_len]; exact h1)] at e1
  rw [gt_get (by rw [ids_len]; exact h2)] at e2
  rw [e1, e2, h.pos i h2]
theorem idl_eqR {a : List Nd} (h : idlB a = true) : a = idR (idsOf a) := by
  unfold idlB at h
  simp only [Bool.and_eq_true] at h
  exact same_eq2 h.2
/-- whatever the steps before, the quiet period leads to the same ring -/
theorem calm_same {a b : List Nd} (hs : safeB a = true) (h : SetOk a b) : calmR b = calmR a := by
  rw [idl_eqR (calm_ideal h.safe), idl_eqR (calm_ideal hs), set_ids (calm_ok h.safe).1, set_ids h, set_ids (calm_ok hs).1]
theorem calmS_safe {r : List Nd} (h : safeB r = true) : calmS r = calmR r := by unfold calmS; rw [h]; rfl
theorem roundR_safe {r : List Nd} (h : safeB r = true) : roundR r = rndR r := by unfold roundR; rw [h]; rfl
theorem safe_oneB {r : List Nd} (h : safeB r = true) {k : Nat} (hk : k < r.length) : oneB r (gn r k).pos = true ∧ liveB r (gn r k).pos = true := by
  have hv := safe_rv h
  have hp := (nd_open hv hk).1
  exact ⟨by unfold oneB; rw [h]; simpa [ptB_iff] using hp, (live_iff r _).2 ⟨k, hk, rfl⟩⟩
theorem idx_at {r : List Nd} (h : safeB r = true) {k : Nat} (hk : k < r.length) : idxR r (gn r k).pos = k := by
  obtain ⟨hj, hjf, _⟩ := idx_live (safe_oneB h hk).2
  exact rv_inj (safe_rv h) hj hk hjf
theorem sel_ok {r : List Nd} {ok : Bool} {i : Int} {f : Nat → List Nd} (h : safeB r = true) (hok : ok = true) (hf : ∀ k, k < r.length → SetOk r (f k)) : SetOk r (selR r ok i f) := by
  unfold selR
  rw [hok, if_pos rfl]
  split
  · rename_i hl; exact hf _ (idx_live hl).1
  · exact SetOk.refl h
theorem one_of {r : List Nd} {i : Int} (h : safeB r = true) (hp : ptB i = true) : oneB r i = true := by unfold oneB; rw [h, hp]; rfl
theorem one_of2 {r : List Nd} {i o : Int} (h : safeB r = true) (hp : ptB i = true) (ho : ptB o = true) : (oneB r i && ptB o) = true := by rw [one_of h hp, ho]; rfl
theorem safe_len3 {r : List Nd} (h : safeB r = true) : 3 ≤ r.length := by
  have h1 := ((safe_iff r).1 h).2.2
  have h2 := prTo_len r r.length
  unfold prL at h1; omega

theorem drawRingCalm (s : Option Addr) (len cap : Nat) (w : World) (h : BytesAt w s len cap) :
    Calls Try.prog 30 #[.slice s len cap] w (DrewR w) := by
  go_enter Try.func30, Try.ntmps30
  go_wp2_with fail
  refine (open_any s len cap w h).mono ?_
  rintro e w0 ⟨rfl, hr0, hb0, hz0⟩
  have HZ := Lib.hid hz0
  clear hz0
  go_wp2_with fail
  refine (spoilt_any w.heap.size 5 w0 (hr0.less (by omega))).mono ?_
  rintro e w1 ⟨N, cap1, F, r, rfl, ho, h1, h2, h10, hr1, hg1⟩
  go_wp2
  go_ret
  have hz := HZ.out
  exact ⟨N, cap1, r, rfl, ho.ring, h10, h1, below_of_grown hb0 (Nat.le_refl _) (by omega) hg1⟩




end Go.Proofs.Ytcbbdhmloniolaa
