/- RingRound and RingCalm, of the program and of the model. -/
import Derived.Test.YtcbbdhmloniolaaNwRound
import Derived.Test.YtcbbdhmloniolaaNwRing
import Derived.Test.YtcbbdhmloniolaaCalm
namespace Go.Proofs.Ytcbbdhmloniolaa
open Go.RowKit
set_option linter.unusedVariables false

def roundR (r : List Nd) : List Nd := if safeB r then rndR r else []
def calmS (r : List Nd) : List Nd := if safeB r then calmR r else []
theorem newOwn_nil (w : World) (cs : Array Value) : NewOwn [] w (.returned (.slice (some ⟨w.heap.size, 0, none⟩) 0 0)) (w.alloc (.cells cs 28)) :=
  ⟨w.heap.size, 0, _, rfl, own_nil cs (heap_alloc_new w _) (Nat.le_refl _) (by simp), Nat.le_refl _, by unfold maxLen; omega, (Below.refl _ _).alloc (Nat.le_refl _) _⟩

set_option maxHeartbeats 2000000 in
theorem rround_any (a : Option Addr) (len cap : Nat) (r : List Nd) (w : World) (h : RingAt w a r) (hz : r.length = len) (hm : len ≤ maxLen) :
    Calls Try.prog 34 #[.slice a len cap] w (NewOwn (roundR r) w) := by
  have HI := Lib.hid h
  have HZ := Lib.hid hz
  have HM := Lib.hid hm
  clear h hz hm
  rcases bool_cases (safeB r) with hs | hs
  · have HS := Lib.hid hs
    have HR : Hid (roundR r = []) := by show roundR r = []; rw [roundR, hs]; rfl
    clear hs
    go_enter Try.func34, Try.ntmps34
    go_wp2_with fail
    refine (rsafe_any false a len cap r w HI.out HZ.out HM.out HS.out).mono ?_
    rintro e w1 ⟨rfl, hb1⟩
    go_wp2
    go_ret
    rw [HR.out]
    exact (newOwn_nil w1 _).mono hb1
  have HS := Lib.hid hs
  have HR : Hid (roundR r = rndR r) := by show roundR r = _; rw [roundR, hs]; rfl
  have HV : Hid (rvB (rndR r) = true) := safe_rv (rnd_ok hs (Nat.le_refl r.length)).safe
  clear hs
  go_enter Try.func34, Try.ntmps34
  go_wp2_with fail
  refine (rsafe_any true a len cap r w HI.out HZ.out HM.out HS.out).mono ?_
  rintro e w1 ⟨rfl, hb1⟩
  go_wp2_with fail
  refine (linkN_any a len cap r w1 (HI.out.keepB hb1 (Nat.le_refl _)) HZ.out (safe_rv HS.out)).mono ?_
  rintro e w2 ⟨K2, rfl, hn2, hb2⟩
  have HN2 := Lib.hid hn2
  have hB2 : Below w.heap.size w w2 := hb1.trans (hb2.mono hb1.size)
  have hs12 : w.heap.size ≤ w1.heap.size := hb1.size
  clear hn2
  generalize w1.heap.size = n at *
  generalize hL : n + 1 = L at *
  clear hL
  go_wp2_with fail
  refine (round_nw n L r.length K2 r w2 HN2.out HS.out).mono ?_
  rintro e w3 ⟨rfl, K3, hn3, _, hb3⟩
  have HN3 := Lib.hid hn3
  have hB3 : Below w.heap.size w w3 := hB2.trans (hb3.mono hs12)
  clear hn3
  go_wp2_with fail
  refine (nodes_nw n L _ K3 (rndR r) w3 HN3.out HV.out).mono ?_
  rintro e w4 ⟨N, cp, F, rfl, ho, hc1, hc2, hb4⟩
  have HO := Lib.hid ho
  clear ho
  go_wp2
  go_ret
  rw [HR.out]
  exact ⟨N, cp, F, rfl, HO.out.wide hB3.size (Nat.le_refl _), hc1, hc2, hB3.trans (hb4.mono hB3.size)⟩

theorem round_as (v : Bool) (n L cap : Nat) (K : Nat → Option Pr) (r : List Nd) (w : World) (h : NW w n L cap K r) (hs : safeB r = true) (hv : sameR (rndR r) r = v) :
    Calls Try.prog 52 #[.pointer (some ⟨n, 0, none⟩)] w fun e w' => e = .returned (.bool (!v)) ∧ ∃ K', NW w' n L cap K' (rndR r) ∧ KLe K K' ∧ Below n w w' := by subst hv; exact round_nw n L cap K r w h hs

/-- at the head of the loop of rounds -/
def CalmLoop (n L cap : Nat) (r : List Nd) (w : World) (g : Nat) (wr : World) : Prop :=
  ∃ r' K', NW wr n L cap K' r' ∧ safeB r' = true ∧ calmR r' = calmR r ∧ mu r' < g ∧ Below n w wr

set_option maxHeartbeats 2000000 in
theorem rcalm_any (a : Option Addr) (len cap : Nat) (r : List Nd) (w : World) (h : RingAt w a r) (hz : r.length = len) (hm : len ≤ maxLen) :
    Calls Try.prog 31 #[.slice a len cap] w (NewOwn (calmS r) w) := by
  have HI := Lib.hid h
  have HZ := Lib.hid hz
  have HM := Lib.hid hm
  clear h hz hm
  rcases bool_cases (safeB r) with hs | hs
  · have HS := Lib.hid hs
    have HR : Hid (calmS r = []) := by show calmS r = []; rw [calmS, hs]; rfl
    clear hs
    go_enter Try.func31, Try.ntmps31
    go_wp2_with fail
    refine (rsafe_any false a len cap r w HI.out HZ.out HM.out HS.out).mono ?_
    rintro e w1 ⟨rfl, hb1⟩
    go_wp2
    go_ret
    rw [HR.out]
    exact (newOwn_nil w1 _).mono hb1
  have HS := Lib.hid hs
  have HR : Hid (calmS r = calmR r) := by show calmS r = _; rw [calmS, hs]; rfl
  have HV : Hid (rvB (calmR r) = true) := safe_rv (calm_ok hs).1.safe
  clear hs
  go_enter Try.func31, Try.ntmps31
  go_wp2_with fail
  refine (rsafe_any true a len cap r w HI.out HZ.out HM.out HS.out).mono ?_
  rintro e w1 ⟨rfl, hb1⟩
  go_wp2_with fail
  refine (linkN_any a len cap r w1 (HI.out.keepB hb1 (Nat.le_refl _)) HZ.out (safe_rv HS.out)).mono ?_
  rintro e w2 ⟨K2, rfl, hn2, hb2⟩
  have HN2 := Lib.hid hn2
  have hB2 : Below w.heap.size w w2 := hb1.trans (hb2.mono hb1.size)
  have hs12 : w.heap.size ≤ w1.heap.size := hb1.size
  clear hn2
  generalize w1.heap.size = n at *
  generalize hL : n + 1 = L at *
  clear hL
  go_wp2_with fail
  go_loopg [] (mu r + 1) (fun g wr => CalmLoop n L r.length r w2 g wr)
  case atStart => exact ⟨r, K2, HN2.out, HS.out, rfl, by omega, Below.refl _ _⟩
  case round =>
    obtain ⟨r1, K1, hn1, hs1, hc1, hmu, hbel⟩ := hrel
    have HN1 := Lib.hid hn1
    have HS1 := Lib.hid hs1
    have HC1 := Lib.hid hc1
    clear hn1 hs1 hc1
    rcases bool_cases (sameR (rndR r1) r1) with hq | hq
    · have hlow : mu (rndR r1) < mu r1 := by
        rcases rnd_mu HS1.out with e | e
        · rw [e, same_refl] at hq; cases hq
        · exact e
      have HQ := Lib.hid hq
      clear hq
      go_wp2_with fail
      refine (round_as false n L r.length K1 r1 wr HN1.out HS1.out HQ.out).mono ?_
      rintro e w3 ⟨rfl, K3, hn3, _, hb3⟩
      have HN3 := Lib.hid hn3
      clear hn3
      go_wp2
      go_roundg (gk - 1)
      case rel => exact ⟨_, K3, HN3.out, (rnd_ok HS1.out (Nat.le_refl _)).safe, (calm_rnd HS1.out).trans HC1.out, by omega, hbel.trans hb3⟩
      case measure => omega
    · have he : rndR r1 = r1 := same_eq2 hq
      have HE : Hid (rndR r1 = calmR r) := by show _ = _; rw [he, ← HC1.out]; exact (calm_fix he).symm
      have HQ := Lib.hid hq
      clear hq he
      go_wp2_with fail
      refine (round_as true n L r.length K1 r1 wr HN1.out HS1.out HQ.out).mono ?_
      rintro e w3 ⟨rfl, K3, hn3, _, hb3⟩
      rw [HE.out] at hn3
      have HN3 := Lib.hid hn3
      have hB3 : Below w.heap.size w w3 := hB2.trans ((hbel.trans hb3).mono hs12)
      clear hn3
      go_wp2_with fail
      refine (nodes_nw n L _ K3 (calmR r) w3 HN3.out HV.out).mono ?_
      rintro e w4 ⟨N, cp, F, rfl, ho, hc1, hc2, hb4⟩
      have HO := Lib.hid ho
      clear ho
      go_wp2
      go_ret
      rw [HR.out]
      exact ⟨N, cp, F, rfl, HO.out.wide hB3.size (Nat.le_refl _), hc1, hc2, hB3.trans (hb4.mono hB3.size)⟩


/-- at the head of the model's loop of rounds -/
def CalmAtX (r : List Nd) (w : World) (g : Nat) (v m : Value) (wr : World) : Prop :=
  ∃ (a : Option Addr) (c : Nat) (r' : List Nd), v = .slice a r.length c ∧ r'.length = r.length ∧ RingAt wr a r' ∧ safeB r' = true ∧ calmR r' = calmR r ∧ Below w.heap.size w wr ∧ ((m = .bool true ∧ mu r' < g) ∨ (m = .bool false ∧ rndR r' = r'))

set_option maxHeartbeats 2000000 in
theorem calmx_any (a : Option Addr) (len cap : Nat) (r : List Nd) (w : World) (h : RingAt w a r) (hz : r.length = len) (hs : safeB r = true) :
    Calls Try.prog 54 #[.slice a len cap] w (NewOwn (calmR r) w) := by
  subst hz
  have h10 := rv_len (safe_rv hs)
  have HS := Lib.hid hs
  have HI := Lib.hid h
  clear h hs
  go_enter Try.func54, Try.ntmps54
  go_wp2
  go_loopg [0, 3] (mu r + 1) (fun g v m wr => CalmAtX r w g v m wr)
  case atStart => exact ⟨a, cap, r, rfl, rfl, HI.out, HS.out, rfl, Below.refl _ _, .inl ⟨rfl, by omega⟩⟩
  case round =>
    obtain ⟨a1, c1, r1, rfl, hl1, hring, hsafe, hcr, hbel, hm⟩ := hrel
    have HR := Lib.hid hring
    have HL := Lib.hid hl1
    have HS1 := Lib.hid hsafe
    have HCR := Lib.hid hcr
    clear hring hl1 hsafe hcr
    rcases hm with ⟨rfl, hmu⟩ | ⟨rfl, hfx⟩
    · have HO : Hid (SetOk r1 (rndR r1)) := rnd_ok HS1.out (Nat.le_refl _)
      have HLR : Hid ((rndR r1).length = r.length) := HO.out.len.trans HL.out
      have HC2 : Hid (calmR (rndR r1) = calmR r) := (calm_rnd HS1.out).trans HCR.out
      go_wp2_with fail
      refine (sround_any _ _ c1 r1 wr HR.out HL.out HS1.out).mono ?_
      rintro e w2 ⟨a2, c2, rfl, hr2, hB2⟩
      have HR2 := Lib.hid hr2
      have HR1 := Lib.hid (HR.out.keepB hB2 (Nat.le_refl _))
      clear hr2
      have hmx : r.length ≤ maxLen := by unfold maxLen; omega
      have HMX := Lib.hid hmx
      clear hmx
      rcases bool_cases (sameR (rndR r1) r1) with hq | hq
      · have hlow : mu (rndR r1) < mu r1 := by
          rcases rnd_mu HS1.out with e | e
          · rw [e, same_refl] at hq; cases hq
          · exact e
        have HQ := Lib.hid hq
        clear hq
        go_wp2_with fail
        refine (same_as false _ _ _ _ c2 c1 (rndR r1) r1 w2 HR2.out HR1.out HLR.out HL.out HMX.out HMX.out HQ.out).mono ?_
        rintro e w3 ⟨rfl, hB3⟩
        go_wp2
        go_roundg (gk - 1)
        case rel => exact ⟨a2, c2, rndR r1, rfl, HLR.out, HR2.out.keepB hB3 (Nat.le_refl _), HO.out.safe, HC2.out, hbel.trans ((hB2.trans (hB3.mono hB2.size)).mono hbel.size), .inl ⟨rfl, by omega⟩⟩
        case measure => omega
      · have HQ := Lib.hid hq
        have HFX : Hid (rndR (rndR r1) = rndR r1) := by show _ = _; have := same_eq2 hq; rw [this, this]
        clear hq
        go_wp2_with fail
        refine (same_as true _ _ _ _ c2 c1 (rndR r1) r1 w2 HR2.out HR1.out HLR.out HL.out HMX.out HMX.out HQ.out).mono ?_
        rintro e w3 ⟨rfl, hB3⟩
        go_wp2
        go_roundg 0
        case rel => exact ⟨a2, c2, rndR r1, rfl, HLR.out, HR2.out.keepB hB3 (Nat.le_refl _), HO.out.safe, HC2.out, hbel.trans ((hB2.trans (hB3.mono hB2.size)).mono hbel.size), .inr ⟨rfl, HFX.out⟩⟩
        case measure => omega
    · have HE : Hid (r1 = calmR r) := by show _ = _; rw [← HCR.out]; exact (calm_fix hfx).symm
      clear hfx
      go_wp2_with fail
      refine (copy_any _ _ c1 r1 wr HR.out HL.out (safe_rv HS1.out)).mono ?_
      rintro e w2 ⟨N, c2, F, rfl, ho, h1, h2, hB⟩
      rw [HE.out] at ho h1 ⊢
      have HO := Lib.hid ho
      clear ho
      go_wp2
      go_ret
      exact ⟨N, c2, F, rfl, HO.out.wide hbel.size (Nat.le_refl _), h1, h2, hbel.trans (hB.mono hbel.size)⟩

set_option maxHeartbeats 1000000 in
theorem srcalm_any (a : Option Addr) (len cap : Nat) (r : List Nd) (w : World) (h : RingAt w a r) (hz : r.length = len) (hm : len ≤ maxLen) :
    Calls Try.prog 32 #[.slice a len cap] w (NewOwn (calmS r) w) := by
  have HI := Lib.hid h
  have HZ := Lib.hid hz
  have HM := Lib.hid hm
  clear h hz hm
  rcases bool_cases (safeB r) with hs | hs
  · have HS := Lib.hid hs
    have HR : Hid (calmS r = []) := by show calmS r = []; rw [calmS, hs]; rfl
    clear hs
    go_enter Try.func32, Try.ntmps32
    go_wp2_with fail
    refine (ssafe_as false a len cap r w HI.out HZ.out HM.out HS.out).mono ?_
    rintro e w1 ⟨rfl, hb1⟩
    go_wp2
    go_ret
    rw [HR.out]
    exact (newOwn_nil w1 _).mono hb1
  have HS := Lib.hid hs
  have HR : Hid (calmS r = calmR r) := by show calmS r = _; rw [calmS, hs]; rfl
  clear hs
  go_enter Try.func32, Try.ntmps32
  go_wp2_with fail
  refine (ssafe_as true a len cap r w HI.out HZ.out HM.out HS.out).mono ?_
  rintro e w1 ⟨rfl, hb1⟩
  go_wp2_with fail
  refine (calmx_any a len cap r w1 (HI.out.keepB hb1 (Nat.le_refl _)) HZ.out HS.out).mono ?_
  rintro e w2 ⟨N, c2, F, rfl, ho, h1, h2, hb2⟩
  have HO := Lib.hid ho
  clear ho
  go_wp2
  go_ret
  rw [HR.out]
  exact ⟨N, c2, F, rfl, HO.out.wide hb1.size (Nat.le_refl _), h1, h2, hb1.trans (hb2.mono hb1.size)⟩
theorem sz_rv2 {r : List Nd} (h : rvB r = true) : szR r ≤ 1048576 := by
  have h10 := rv_len h
  have : ∀ k, k ≤ r.length → sumA r k ≤ 2 * k := fun k => by
    induction k with
    | zero => intro _; exact Nat.le_refl _
    | succ k ih =>
      intro hk
      have h2 := (nd_open h (show k < r.length by omega)).2.2.2.2
      have h3 : (gn r k).aft.length = 2 := by rw [h2]; rfl
      have := ih (by omega)
      rw [sumA, h3]; omega
  have := this r.length (Nat.le_refl _)
  unfold szR; omega
theorem round_sz (r : List Nd) : szR (roundR r) ≤ 1048576 := by
  unfold roundR; split
  · rename_i h; exact sz_rv2 (safe_rv (rnd_ok h (Nat.le_refl r.length)).safe)
  · simp [szR, sumA]
theorem calmS_sz (r : List Nd) : szR (calmS r) ≤ 1048576 := by
  unfold calmS; split
  · rename_i h; exact sz_rv2 (safe_rv (calm_ok h).1.safe)
  · simp [szR, sumA]
end Go.Proofs.Ytcbbdhmloniolaa
