/- What the program's functions of chapter 23 answer: reading, removing, storing. -/
import Derived.Test.YtdlapnelehehgaaCaQ4
import Derived.Test.YtdlapnelehehgaaCaR
import Derived.Test.YtdlapnelehehgaaCaT
namespace Go.Proofs.Ytdlapnelehehgaa
open Go.RowKit
set_option linter.unusedVariables false
attribute [local go_sem ↓] Go.wp_at_zero Go.wp_at_succ

theorem ptm_bd {L : List Ls} (h : lvB L = true) {k : Nat} (hk : k < L.length) : -1000000 ≤ (gl L k).u ∧ (gl L k).u ≤ 1000000 := by have := lv_u h hk; omega

set_option maxHeartbeats 2000000 in
theorem pget_any (a : Option Addr) (len cap : Nat) (L : List Ls) (key now : Int) (w : World) (h : LsAt w a L) (hz : L.length = len) (hm : len ≤ maxLen) :
    Calls Try.prog 19 #[.slice a len cap, .int .i64 key, .int .i64 now] w fun e w' => e = .returned (.tuple #[.int .i64 (getR L key now).1, .bool (getR L key now).2]) ∧ Below w.heap.size w w' := by
  have HI := Lib.hid h
  have HZ := Lib.hid hz
  have HM := Lib.hid hm
  clear h hz hm
  cases hv : lvB L
  · have HR := Lib.hid (get_bad (show getOk L key now = false by simp [getOk, hv]))
    go_enter Try.func19, Try.ntmps19
    go_wp2_with fail
    refine (pvld_as false a len cap L w HI.out HZ.out HM.out hv).mono ?_
    rintro e w2 ⟨rfl, hB2⟩
    go_wp2
    go_ret2
    rw [HR.out]
    exact ⟨rfl, hB2⟩
  cases hp : ptB key
  · have HR := Lib.hid (get_bad (show getOk L key now = false by simp [getOk, hp]))
    go_enter Try.func19, Try.ntmps19
    go_wp2_with fail
    refine (pvld_as true a len cap L w HI.out HZ.out HM.out hv).mono ?_
    rintro e w2 ⟨rfl, hB2⟩
    go_wp2_with fail
    refine (valid_any key w2).mono ?_
    rintro e w' ⟨rfl, rfl⟩
    rw [hp]
    go_wp2
    go_ret2
    rw [HR.out]
    exact ⟨rfl, hB2⟩
  cases ht : tmB now
  · have HR := Lib.hid (get_bad (show getOk L key now = false by simp [getOk, ht]))
    go_enter Try.func19, Try.ntmps19
    go_wp2_with fail
    refine (pvld_as true a len cap L w HI.out HZ.out HM.out hv).mono ?_
    rintro e w2 ⟨rfl, hB2⟩
    go_wp2_with fail
    refine (valid_any key w2).mono ?_
    rintro e w' ⟨rfl, rfl⟩
    rw [hp]
    go_wp2_with fail
    refine (isTime_any now w2).mono ?_
    rintro e w' ⟨rfl, rfl⟩
    rw [ht]
    go_wp2
    go_ret2
    rw [HR.out]
    exact ⟨rfl, hB2⟩
  have HOK : Hid (getOk L key now = true) := by show _ = _; simp [getOk, hv, hp, ht]
  have HV := Lib.hid hv
  cases hth : thB L key
  · have HR := Lib.hid (get_nth (now := now) hv hth)
    have HTH := Lib.hid hth
    clear hth
    go_enter Try.func19, Try.ntmps19
    go_wp2_with fail
    refine (pvld_as true a len cap L w HI.out HZ.out HM.out hv).mono ?_
    rintro e w2 ⟨rfl, hB2⟩
    go_wp2_with fail
    refine (valid_any key w2).mono ?_
    rintro e w' ⟨rfl, rfl⟩
    rw [hp]
    go_wp2_with fail
    refine (isTime_any now w2).mono ?_
    rintro e w' ⟨rfl, rfl⟩
    rw [ht]
    clear hv hp ht
    go_wp2_with fail
    refine (find_as _ false a len cap L key w2 (HI.out.keepB hB2 (Nat.le_refl _)) HZ.out HV.out rfl HTH.out).mono ?_
    rintro e w3 ⟨rfl, hb3⟩
    have hB3 : Below w.heap.size w w3 := hB2.trans (hb3.mono hB2.size)
    go_wp2
    go_ret2
    rw [HR.out]
    exact ⟨rfl, hB3⟩
  · have HR := Lib.hid (get_th HOK.out hth)
    have HTH := Lib.hid hth
    obtain ⟨k, hk⟩ : ∃ k, fdL L key = k := ⟨_, rfl⟩
    have hkl := th_lt hth
    rw [hk] at hkl HR
    have HK := Lib.hid hk
    have HKL := Lib.hid hkl
    have hkn : k < len := by rw [← HZ.out]; exact hkl
    have k0 : (0 : Int) ≤ (k : Int) := by omega
    have k1 : (k : Int) < (len : Int) := by omega
    obtain ⟨x, hx⟩ : ∃ x, x = gl L k := ⟨_, rfl⟩
    have HX := Lib.hid hx
    rw [← hx] at HR
    have HBD : Hid (-1000000 ≤ x.u ∧ x.u ≤ 1000000) := by show _ ∧ _; rw [hx]; exact ptm_bd hv hkl
    clear hth hk hkl hx
    cases hf : frB x now
    · have HF := Lib.hid hf
      have HR2 : Hid (getR L key now = (0, false)) := by show _ = _; rw [HR.out, hf]; rfl
      clear hf
      go_enter Try.func19, Try.ntmps19
      go_wp2_with fail
      refine (pvld_as true a len cap L w HI.out HZ.out HM.out hv).mono ?_
      rintro e w2 ⟨rfl, hB2⟩
      go_wp2_with fail
      refine (valid_any key w2).mono ?_
      rintro e w' ⟨rfl, rfl⟩
      rw [hp]
      go_wp2_with fail
      refine (isTime_any now w2).mono ?_
      rintro e w' ⟨rfl, rfl⟩
      rw [ht]
      clear hv hp ht
      go_wp2_with fail
      refine (find_as k true a len cap L key w2 (HI.out.keepB hB2 (Nat.le_refl _)) HZ.out HV.out HK.out HTH.out).mono ?_
      rintro e w3 ⟨rfl, hb3⟩
      have hB3 : Below w.heap.size w w3 := hB2.trans (hb3.mono hB2.size)
      obtain ⟨b, off, hab, hb0, hcells⟩ := (HI.out.keepB hB3 (Nat.le_refl _)).at_ (i := k) HKL.out
      subst hab
      obtain ⟨hc0, hc1, hc2⟩ := hcells k HKL.out
      rw [← HX.out] at hc0 hc1 hc2
      clear hcells
      go_wp2_with fail
      refine (used_as false x now w3 HBD.out HF.out).mono ?_
      rintro e w4 ⟨rfl, hb4⟩
      clear hc0 hc1 hc2
      go_wp2
      go_ret2
      rw [HR2.out]
      exact ⟨rfl, hB3.trans (hb4.mono hB3.size)⟩
    · have HF := Lib.hid hf
      have HR2 : Hid (getR L key now = (x.o, true)) := by show _ = _; rw [HR.out, hf]; rfl
      clear hf
      go_enter Try.func19, Try.ntmps19
      go_wp2_with fail
      refine (pvld_as true a len cap L w HI.out HZ.out HM.out hv).mono ?_
      rintro e w2 ⟨rfl, hB2⟩
      go_wp2_with fail
      refine (valid_any key w2).mono ?_
      rintro e w' ⟨rfl, rfl⟩
      rw [hp]
      go_wp2_with fail
      refine (isTime_any now w2).mono ?_
      rintro e w' ⟨rfl, rfl⟩
      rw [ht]
      clear hv hp ht
      go_wp2_with fail
      refine (find_as k true a len cap L key w2 (HI.out.keepB hB2 (Nat.le_refl _)) HZ.out HV.out HK.out HTH.out).mono ?_
      rintro e w3 ⟨rfl, hb3⟩
      have hB3 : Below w.heap.size w w3 := hB2.trans (hb3.mono hB2.size)
      obtain ⟨b, off, hab, hb0, hcells⟩ := (HI.out.keepB hB3 (Nat.le_refl _)).at_ (i := k) HKL.out
      subst hab
      obtain ⟨hc0, hc1, hc2⟩ := hcells k HKL.out
      rw [← HX.out] at hc0 hc1 hc2
      clear hcells
      go_wp2_with fail
      refine (used_as true x now w3 HBD.out HF.out).mono ?_
      rintro e w4 ⟨rfl, hb4⟩
      have hd1 := (hb4.cell (p := ⟨b, off + k * 3 + 1, none⟩) hb0).trans hc1
      clear hc0 hc1 hc2
      go_wp2
      go_ret2
      rw [HR2.out]
      exact ⟨rfl, hB3.trans (hb4.mono hB3.size)⟩

/-- a row of one's own or nil, and a bool -/
def AnsN (R : List Ls × Bool) (w : World) (e : Ending) (w' : World) : Prop :=
  ∃ a c, e = .returned (.tuple #[.slice a R.1.length c, .bool R.2]) ∧ OwnN w' w.heap.size a c R.1 ∧ Below w.heap.size w w'
theorem AnsN.ansL {R : List Ls × Bool} {w w' : World} {e : Ending} (h : AnsN R w e w') : AnsL R w e w' := by
  obtain ⟨a, c, he, ho, hb⟩ := h
  exact ⟨a, c, he, ho.ownL, hb⟩
theorem ansN_empty {w w2 : World} (hB : Below w.heap.size w w2) : AnsN ([], false) w (.returned (.tuple #[.slice (some ⟨w2.heap.size, 0, none⟩) 0 0, .bool false])) (w2.alloc (.cells #[] 37)) :=
  ⟨some ⟨w2.heap.size, 0, none⟩, 0, rfl, .inr ⟨_, rfl, (own_none w2 _ rfl).less hB.size⟩, hB.trans ((alB w2 _).mono hB.size)⟩

set_option maxHeartbeats 2000000 in
theorem pdropN_any (a : Option Addr) (len cap : Nat) (L : List Ls) (key : Int) (w : World) (h : LsAt w a L) (hz : L.length = len) (hm : len ≤ maxLen) :
    Calls Try.prog 23 #[.slice a len cap, .int .i64 key] w (AnsN (dropR L key) w) := by
  have HI := Lib.hid h
  have HZ := Lib.hid hz
  have HM := Lib.hid hm
  clear h hz hm
  cases hv : lvB L
  · have HR := Lib.hid (dropR_bad (show dropOk L key = false by simp [dropOk, hv]))
    go_enter Try.func23, Try.ntmps23
    go_wp2_with fail
    refine (pvld_as false a len cap L w HI.out HZ.out HM.out hv).mono ?_
    rintro e w2 ⟨rfl, hB2⟩
    go_wp2
    go_ret2
    rw [HR.out]
    exact ansN_empty hB2
  cases hp : ptB key
  · have HR := Lib.hid (dropR_bad (show dropOk L key = false by simp [dropOk, hp]))
    go_enter Try.func23, Try.ntmps23
    go_wp2_with fail
    refine (pvld_as true a len cap L w HI.out HZ.out HM.out hv).mono ?_
    rintro e w2 ⟨rfl, hB2⟩
    go_wp2_with fail
    refine (valid_any key w2).mono ?_
    rintro e w' ⟨rfl, rfl⟩
    rw [hp]
    go_wp2
    go_ret2
    rw [HR.out]
    exact ansN_empty hB2
  have HOK : Hid (dropOk L key = true) := by show _ = _; simp [dropOk, hv, hp]
  have HV := Lib.hid hv
  have hl6 := lv_len hv
  rw [HZ.out] at hl6
  cases hth : thB L key
  · have HR : Hid (dropR L key = (L, false)) := by show _ = _; rw [dropR_th HOK.out, drop_nth hv hth, hth]
    have HTH := Lib.hid hth
    clear hth
    go_enter Try.func23, Try.ntmps23
    go_wp2_with fail
    refine (pvld_as true a len cap L w HI.out HZ.out HM.out hv).mono ?_
    rintro e w2 ⟨rfl, hB2⟩
    go_wp2_with fail
    refine (valid_any key w2).mono ?_
    rintro e w' ⟨rfl, rfl⟩
    rw [hp]
    clear hv hp
    go_wp2_with fail
    refine (find_as _ false a len cap L key w2 (HI.out.keepB hB2 (Nat.le_refl _)) HZ.out HV.out rfl HTH.out).mono ?_
    rintro e w3 ⟨rfl, hb3⟩
    have hB3 : Below w.heap.size w w3 := hB2.trans (hb3.mono hB2.size)
    go_wp2_with fail
    refine (clone_any a len cap L w3 (HI.out.keepB hB3 (Nat.le_refl _)) HZ.out (by omega)).mono ?_
    rintro e w4 ⟨a4, c4, rfl, ho4, _, hb4⟩
    have HA : Hid (AnsN (L, false) w (.returned (.tuple #[.slice a4 len c4, .bool false])) w4) := ⟨a4, c4, by rw [HZ.out], ho4.less hB3.size, hB3.trans (hb4.mono hB3.size)⟩
    clear ho4 hb4
    go_wp2
    go_ret2
    rw [HR.out]
    exact HA.out
  · obtain ⟨k, hk⟩ : ∃ k, fdL L key = k := ⟨_, rfl⟩
    have hkl := th_lt hth
    have HR : Hid (dropR L key = (L.take k ++ L.drop (k + 1), true)) := by show _ = _; rw [dropR_th HOK.out, drop_th hv hth, hth, hk]
    have HTH := Lib.hid hth
    rw [hk] at hkl
    have HK := Lib.hid hk
    obtain ⟨r, hr⟩ : ∃ r, len = r + 1 := ⟨len - 1, by rw [HZ.out] at hkl; omega⟩
    subst hr
    have hkr : k ≤ r := by rw [HZ.out] at hkl; omega
    clear hth hk hkl
    go_enter Try.func23, Try.ntmps23
    go_wp2_with fail
    refine (pvld_as true a (r + 1) cap L w HI.out HZ.out HM.out hv).mono ?_
    rintro e w2 ⟨rfl, hB2⟩
    go_wp2_with fail
    refine (valid_any key w2).mono ?_
    rintro e w' ⟨rfl, rfl⟩
    rw [hp]
    clear hv hp
    go_wp2_with fail
    refine (find_as k true a (r + 1) cap L key w2 (HI.out.keepB hB2 (Nat.le_refl _)) HZ.out HV.out HK.out HTH.out).mono ?_
    rintro e w3 ⟨rfl, hb3⟩
    have hB3 : Below w.heap.size w w3 := hB2.trans (hb3.mono hB2.size)
    go_wp2_with fail
    refine (clone_any a (r + 1) cap L w3 (HI.out.keepB hB3 (Nat.le_refl _)) HZ.out (by omega)).mono ?_
    rintro e w4 ⟨a4, c4, rfl, ho4, hne, hb4⟩
    have hne' := hne (by omega)
    rcases ho4 with ⟨h1, _⟩ | ⟨g4, rfl, ho4⟩
    · exact absurd h1 hne'
    have HO4 := Lib.hid ho4
    have hB4 : Below w.heap.size w w4 := hB3.trans (hb4.mono hB3.size)
    clear hne hne' ho4 hb4
    go_wp2_with fail
    refine (delE_any w3.heap.size g4 c4 k r L w4 HO4.out HZ.out hkr (by omega)).mono ?_
    rintro e w5 ⟨rfl, ho5, hg5⟩
    have HA : Hid (AnsN (L.take k ++ L.drop (k + 1), true) w (.returned (.tuple #[.slice (some ⟨g4, 0, none⟩) r c4, .bool true])) w5) := by
      refine ⟨_, c4, ?_, .inr ⟨g4, rfl, ho5.less hB3.size⟩, hB4.grown hg5 hB4.size (fun q hq => by injection hq with hq; have := HO4.out.blk.1; have := hB3.size; omega)⟩
      rw [show (L.take k ++ L.drop (k + 1)).length = r by rw [List.length_append, List.length_take, List.length_drop, HZ.out]; omega]
    clear ho5 hg5
    go_wp2
    go_ret2
    rw [HR.out]
    exact HA.out
theorem pdropN_as (R : List Ls × Bool) (a : Option Addr) (len cap : Nat) (L : List Ls) (key : Int) (w : World) (h : LsAt w a L) (hz : L.length = len) (hm : len ≤ maxLen) (hR : dropR L key = R) :
    Calls Try.prog 23 #[.slice a len cap, .int .i64 key] w (AnsN R w) := by subst hR; exact pdropN_any a len cap L key w h hz hm
theorem pdrop_any (a : Option Addr) (len cap : Nat) (L : List Ls) (key : Int) (w : World) (h : LsAt w a L) (hz : L.length = len) (hm : len ≤ maxLen) :
    Calls Try.prog 23 #[.slice a len cap, .int .i64 key] w (AnsL (dropR L key) w) := (pdropN_any a len cap L key w h hz hm).mono fun _ _ => AnsN.ansL
end Go.Proofs.Ytdlapnelehehgaa
