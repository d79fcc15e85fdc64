/- Rounds until nothing changes (the model). -/
import Derived.Test.YtcbbdhmloniolaaCalmMath
import Derived.Test.YtcbbdhmloniolaaMG
import Derived.Test.YtcbbdhmloniolaaSameS
import Derived.Deep.LoopGhost
namespace Go.Proofs.Ytcbbdhmloniolaa
open Go.RowKit
set_option linter.unusedVariables false

theorem same_refl (r : List Nd) : sameR r r = true := by
  rw [sameR, Bool.and_eq_true]
  exact ⟨by simp, (allTo_iff _ _).2 fun i _ => by simp [sameN]⟩
/-- a ring at a slice of the length of r -/
def RndPost (n : Nat) (r' : List Nd) (w : World) (e : Ending) (w' : World) : Prop :=
  ∃ a c, e = .returned (.slice a n c) ∧ RingAt w' a r' ∧ Below w.heap.size w w'

set_option maxHeartbeats 2000000 in
theorem sround_any (a : Option Addr) (len cap : Nat) (r : List Nd) (w : World) (h : RingAt w a r) (hz : r.length = len) (hs : safeB r = true) :
    Calls Try.prog 76 #[.slice a len cap] w (RndPost len (rndR r) w) := by
  subst hz
  have h10 := rv_len (safe_rv hs)
  have HS := Lib.hid hs
  have HI := Lib.hid h
  clear h hs
  go_enter Try.func76, Try.ntmps76
  go_wp2
  go_loopw [0, 3] (fun v i wr => ∃ (k : Nat) (a' : Option Addr) (c : Nat), k ≤ r.length ∧ i = .int .i64 k ∧ v = .slice a' r.length c ∧ RingAt wr a' (rndTo r k) ∧ Below w.heap.size w wr) (fun _ i _ => r.length - (intOf i).toNat)
  case atStart => exact ⟨0, a, cap, by omega, rfl, rfl, HI.out, Below.refl _ _⟩
  case round =>
    obtain ⟨k, a1, c1, hk, rfl, rfl, hring, hbel⟩ := hrel
    have HR := Lib.hid hring
    clear hring
    by_cases hlt : k < r.length
    · have HO := Lib.hid (rnd_ok HS.out hk)
      have HL : Hid ((stabR (rndTo r k) k).length = r.length) := by
        show _ = _
        exact (rnd_ok HS.out (k := k + 1) (by omega)).len
      go_wp2_with fail
      refine (sstab_any _ _ c1 k (rndTo r k) wr HR.out HO.out.len HO.out.safe hlt).mono ?_
      rintro e w2 ⟨N, c2, F, rfl, ho, h1, h2, hB⟩
      have HO2 := Lib.hid ho.ring
      rw [HL.out]
      clear ho h1 h2
      go_wp2
      go_roundw
      case rel => exact ⟨k + 1, _, c2, by omega, by go_num, rfl, HO2.out, hbel.trans (hB.mono hbel.size)⟩
      case measure => simp [intOf]; omega
    · have HK : Hid (k = r.length) := by show _ = _; omega
      go_wp2
      go_ret
      refine ⟨a1, c1, rfl, ?_, hbel⟩
      have := HR.out
      rw [HK.out] at this
      exact this

/-- at the head of the loop of rounds -/
def CalmAt (r : List Nd) (w : World) (g : Nat) (v m : Value) (wr : World) : Prop :=
  ∃ (a : Option Addr) (c : Nat) (r' : List Nd), v = .slice a r.length c ∧ r'.length = r.length ∧ RingAt wr a r' ∧ safeB r' = true ∧ Below w.heap.size w wr ∧ ((m = .bool true ∧ mu r' < g) ∨ m = .bool false)
def CalmPost (r : List Nd) (w : World) (e : Ending) (w' : World) : Prop :=
  ∃ N cap r', e = .returned (.slice (some ⟨N, 0, none⟩) r.length cap) ∧ RingAt w' (some ⟨N, 0, none⟩) r' ∧ r'.length = r.length ∧ r.length ≤ cap ∧ safeB r' = true ∧ Below w.heap.size w w'

set_option maxHeartbeats 2000000 in
theorem calm_any (a : Option Addr) (len cap : Nat) (r : List Nd) (w : World) (h : RingAt w a r) (hz : r.length = len) (hs : safeB r = true) :
    Calls Try.prog 54 #[.slice a len cap] w (CalmPost r w) := by
  subst hz
  have h10 := rv_len (safe_rv hs)
  have HS := Lib.hid hs
  have HI := Lib.hid h
  clear h hs
  go_enter Try.func54, Try.ntmps54
  go_wp2
  go_loopg [0, 3] (mu r + 1) (fun g v m wr => CalmAt r w g v m wr)
  case atStart => exact ⟨a, cap, r, rfl, rfl, HI.out, HS.out, Below.refl _ _, .inl ⟨rfl, by omega⟩⟩
  case round =>
    obtain ⟨a1, c1, r1, rfl, hl1, hring, hsafe, hbel, hm⟩ := hrel
    have HR := Lib.hid hring
    have HL := Lib.hid hl1
    have HS1 := Lib.hid hsafe
    clear hring hl1 hsafe
    rcases hm with ⟨rfl, hmu⟩ | rfl
    · have HO : Hid (SetOk r1 (rndR r1)) := rnd_ok HS1.out (Nat.le_refl _)
      have HLR : Hid ((rndR r1).length = r.length) := HO.out.len.trans HL.out
      go_wp2_with fail
      refine (sround_any _ _ c1 r1 wr HR.out HL.out HS1.out).mono ?_
      rintro e w2 ⟨a2, c2, rfl, hr2, hB2⟩
      have HR2 := Lib.hid hr2
      have HR1 := Lib.hid (HR.out.keepB hB2 (Nat.le_refl _))
      clear hr2
      have hmx : r.length ≤ maxLen := by unfold maxLen; omega
      have HMX := Lib.hid hmx
      clear hmx
      rcases (show sameR (rndR r1) r1 = false ∨ sameR (rndR r1) r1 = true by cases sameR (rndR r1) r1 <;> simp) with hq | hq
      · have hlow : mu (rndR r1) < mu r1 := by
          rcases rnd_mu HS1.out with e | e
          · rw [e, same_refl] at hq; cases hq
          · exact e
        have HQ := Lib.hid hq
        clear hq
        go_wp2_with fail
        refine (same_as false _ _ _ _ c2 c1 (rndR r1) r1 w2 HR2.out HR1.out HLR.out HL.out HMX.out HMX.out HQ.out).mono ?_
        rintro e w3 ⟨rfl, hB3⟩
        go_wp2
        go_roundg (gk - 1)
        case rel => exact ⟨a2, c2, rndR r1, rfl, HLR.out, HR2.out.keepB hB3 (Nat.le_refl _), HO.out.safe, hbel.trans ((hB2.trans (hB3.mono hB2.size)).mono hbel.size), .inl ⟨rfl, by omega⟩⟩
        case measure => omega
      · have HQ := Lib.hid hq
        clear hq
        go_wp2_with fail
        refine (same_as true _ _ _ _ c2 c1 (rndR r1) r1 w2 HR2.out HR1.out HLR.out HL.out HMX.out HMX.out HQ.out).mono ?_
        rintro e w3 ⟨rfl, hB3⟩
        go_wp2
        go_roundg 0
        case rel => exact ⟨a2, c2, rndR r1, rfl, HLR.out, HR2.out.keepB hB3 (Nat.le_refl _), HO.out.safe, hbel.trans ((hB2.trans (hB3.mono hB2.size)).mono hbel.size), .inr rfl⟩
        case measure => omega
    · go_wp2_with fail
      refine (copy_any _ _ c1 r1 wr HR.out HL.out (safe_rv HS1.out)).mono ?_
      rintro e w2 ⟨N, c2, F, rfl, ho, h1, h2, hB⟩
      have HO := Lib.hid ho.ring
      rw [HL.out] at h1 ⊢
      clear ho
      go_wp2
      go_ret
      exact ⟨N, c2, r1, rfl, HO.out, HL.out, h1, HS1.out, hbel.trans (hB.mono hbel.size)⟩

set_option maxHeartbeats 1000000 in
theorem rcalm_safe (a : Option Addr) (len cap : Nat) (r : List Nd) (w : World) (h : RingAt w a r) (hz : r.length = len) (hs : safeB r = true) :
    Calls Try.prog 32 #[.slice a len cap] w (CalmPost r w) := by
  subst hz
  have h10 := rv_len (safe_rv hs)
  have hmx : r.length ≤ maxLen := by unfold maxLen; omega
  have HMX := Lib.hid hmx
  have HS := Lib.hid hs
  have HI := Lib.hid h
  clear h hs hmx
  go_enter Try.func32, Try.ntmps32
  go_wp2_with fail
  refine (ssafe_as true _ _ cap r w HI.out rfl HMX.out HS.out).mono ?_
  rintro e w1 ⟨rfl, hB1⟩
  go_wp2_with fail
  refine (calm_any _ _ cap r w1 (HI.out.keepB hB1 (Nat.le_refl _)) rfl HS.out).mono ?_
  rintro e w2 ⟨N, c2, r', rfl, hr, hl, hc, hsf, hB2⟩
  have HR := Lib.hid hr
  have HL := Lib.hid hl
  have HSF := Lib.hid hsf
  clear hr hl hsf
  go_wp2
  go_ret
  exact ⟨N, c2, r', rfl, HR.out, HL.out, hc, HSF.out, hB1.trans (hB2.mono hB1.size)⟩
end Go.Proofs.Ytcbbdhmloniolaa
