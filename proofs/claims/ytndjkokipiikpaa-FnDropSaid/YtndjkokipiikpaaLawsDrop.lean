/- The laws of dropping. -/
import Derived.Test.YtndjkokipiikpaaNwRing
import Derived.Test.YtndjkokipiikpaaLawsH
import Derived.Test.YtndjkokipiikpaaDrawS
namespace Go.Proofs.Ytndjkokipiikpaa
open Go.RowKit
set_option linter.unusedVariables false

theorem prV_of {r : List Nd} (h : rvB r = true) : prV r = prL r := by unfold prV; rw [if_pos h]
theorem set_keepP {r : List Nd} {k : Nat} {n : Nd} (hv : rvB r = true) (hv' : rvB (r.set k n) = true) (hk : k < r.length) (hp : n.pos = (gn r k).pos) (hs : ∀ p, liveB r p = true → skB n p = true → skdB r p = true) : KeepP r (r.set k n) := fun x hx hl => by
  rw [prV_of hv] at hx
  rw [prV_of hv']
  obtain ⟨h1, h2⟩ := (mem_pr _ _).1 hx
  refine (mem_pr _ _).2 ⟨hl, (skd_no _ _).2 fun i hi => ?_⟩
  have hi' : i < r.length := by simpa using hi
  rw [gn_set' hi']
  by_cases e : i = k
  · rw [if_pos e]
    cases hsk : skB n x
    · rfl
    · rw [hs x h1 hsk] at h2; cases h2
  · rw [if_neg e]; exact (skd_no _ _).1 h2 i hi'
theorem drop_keepP {r : List Nd} {k : Nat} (h : safeB r = true) (hk : k < r.length) : KeepP r (dropR r k) := by
  have hok := drop_ok h hk
  unfold dropR at hok ⊢
  split at hok
  · rename_i hx; rw [if_pos hx]; exact fun x hx _ => hx
  · rename_i hx; rw [if_neg hx]
    have hx : liveB r (gt (gn r k).aft 0) = false := by simpa using hx
    obtain ⟨hv, hls, _⟩ := (safe_iff r).1 h
    obtain ⟨hp, _, h0, h1, ha⟩ := nd_open hv hk
    refine set_keepP hv (safe_rv hok.safe) hk rfl fun p hpl hsk => skd_of hk ?_
    have hpp := live_pt hv hpl
    rw [sk_wAft] at hsk
    rw [skB]
    simp only [Bool.or_eq_true, btwI_iff] at hsk ⊢
    have hne : p ≠ gt (gn r k).aft 0 := fun e => by rw [e] at hpl; rw [hx] at hpl; cases hpl
    rcases hsk with hsk | hsk <;> omega
theorem nd_ext3 {n m : Nd} (h1 : n.pos = m.pos) (h2 : n.bef = m.bef) (h3 : n.aft = m.aft) : n = m := by
  cases n; cases m; simp at h1 h2 h3; subst h1 h2 h3; rfl
theorem idx_same2 {r r' : List Nd} (hv : rvB r = true) (hl : r'.length = r.length) (hp : ∀ i, i < r.length → (gn r' i).pos = (gn r i).pos) {x : Int} (h : liveB r x = true) : idxR r' x = idxR r x := by
  obtain ⟨h1, h2, _⟩ := idx_live h
  obtain ⟨k1, k2, _⟩ := idx_live (show liveB r' x = true by rw [live_same hl hp]; exact h)
  have k3 := hp (idxR r' x) (by omega)
  rw [k2] at k3
  exact rv_inj hv (by omega) h1 (by rw [h2, ← k3])
theorem sz_rv4 {r : List Nd} (h : rvB r = true) : szR r ≤ 1048576 := by
  have h10 := rv_len h
  have : ∀ k, k ≤ r.length → sumA r k ≤ 2 * k := fun k => by
    induction k with
    | zero => intro _; exact Nat.le_refl _
    | succ k ih =>
      intro hk
      have h2 := (nd_open h (show k < r.length by omega)).2.2.2.2
      have h3 : (gn r k).aft.length = 2 := by rw [h2]; rfl
      have := ih (by omega)
      rw [sumA, h3]; omega
  have := this r.length (Nat.le_refl _)
  unfold szR; omega
theorem sel_sz4 {r : List Nd} {ok : Bool} {i : Int} {f : Nat → List Nd} (hf : safeB r = true → ∀ k, k < r.length → rvB (f k) = true) (hok : ok = true → safeB r = true) : szR (selR r ok i f) ≤ 1048576 := by
  unfold selR
  split
  · rename_i h
    split
    · rename_i hl; exact sz_rv4 (hf (hok h) _ (idx_live hl).1)
    · exact sz_rv4 (safe_rv (hok h))
  · simp [szR, sumA]

set_option maxHeartbeats 4000000 in
theorem safeDrop (s : Option Addr) (len cap : Nat) (z : List Int) (w : World) (h : RowIn .u8 w s len cap z) :
    Calls Try.prog 4 #[.slice s len cap] w fun e w' => e = .returned (.bool true) ∧ Below w.heap.size w w' := by
  have hb := bytes_of_row h
  have hm : len ≤ maxLen := Nat.le_trans hb.1 hb.2.1
  unfold maxLen at hm
  clear h
  by_cases hl : 1048576 < len
  · go_enter Try.func4, Try.ntmps4
    go_wp2
    go_ret
    exact ⟨rfl, Below.refl _ _⟩
  have hlB : decide ((1048576 : Int) < (len : Int)) = false := by simp; omega
  go_enter Try.func4, Try.ntmps4
  go_wp2_with fail
  refine (drawRingDrop s len cap w hb).mono ?_
  rintro e w1 ⟨N, cap1, r, i, rfl, hr1, h10, hcap, hcm, hB1⟩
  have HI := Lib.hid hr1
  have hmx : r.length ≤ maxLen := by unfold maxLen; omega
  have HM := Lib.hid hmx
  have HIM0 := fun w0 (h : RingAt w0 (some ⟨N, 0, none⟩) r) (hm : r.length ≤ maxLen) => rdrop_any _ _ cap1 i r w0 h rfl hm
  have HSP0 := fun w0 (h : RingAt w0 (some ⟨N, 0, none⟩) r) (hm : r.length ≤ maxLen) (hc : r.length ≤ cap1) (hcm : cap1 ≤ maxLen) => srdrop_any _ _ cap1 i r w0 h rfl hm
  have HSR0 : szR (selR r (oneB r i) i (dropR r)) ≤ 1048576 := sel_sz4 (fun hs k hk => safe_rv (drop_ok hs hk).safe) one_safe
  obtain ⟨R, hR⟩ : ∃ R, R = selR r (oneB r i) i (dropR r) := ⟨_, rfl⟩
  obtain ⟨B, hBB⟩ : ∃ B, B = (selB r (oneB r i) i (dropB r)) := ⟨_, rfl⟩
  simp only [← hR, ← hBB] at HIM0 HSP0 HSR0
  have HIM := Lib.hid HIM0
  have HSP := Lib.hid HSP0
  have HSR := Lib.hid HSR0
  have HRE := Lib.hid hR
  have HBE := Lib.hid hBB
  have HMR : Hid (R.length ≤ maxLen) := small_max HSR0
  clear hr1 hmx hlB HIM0 HSP0 HSR0 hR hBB
  go_wp2_with fail
  refine (HIM.out w1 HI.out HM.out).mono ?_
  rintro e w2 ⟨N2, c2, F2, rfl, ho2, hc2, hcm2, hb2⟩
  have HO2 := Lib.hid ho2.ring
  clear ho2
  go_wp2_with fail
  refine (HSP.out w2 (HI.out.keepB hb2 (Nat.le_refl _)) HM.out hcap hcm).mono ?_
  rintro e w3 ⟨N3, c3, F3, rfl, ho3, _, _, hb3⟩
  have HO3 := Lib.hid ho3.ring
  clear ho3
  have v1 : (!B == B) = false := by simp
  have v2 : (B == B) = true := by simp
  go_wp2_with fail
  refine (sameRing_same _ _ _ c2 c3 R w3 (HO2.out.keepB hb3 (Nat.le_refl _)) HO3.out rfl (small_of HSR.out)).mono ?_
  rintro e w4 ⟨rfl, hb4⟩
  have hB24 : Below w2.heap.size w2 w4 := hb3.trans (hb4.mono hb3.size)
  have hB14 : Below w1.heap.size w1 w4 := hb2.trans (hB24.mono hb2.size)
  have hBw : Below w.heap.size w w4 := hB1.trans (hB14.mono hB1.size)
  have HI4 := Lib.hid (HI.out.keepB hB14 (Nat.le_refl _))
  have HR4 := Lib.hid (HO2.out.keepB hB24 (Nat.le_refl _))
  rcases bool_cases B with hbv | hbv
  · subst hbv
    go_wp2_with fail
    refine (sameRing_same _ _ _ c2 c3 R w4 HR4.out (HO3.out.keepB hb4 (Nat.le_refl _)) rfl (small_of HSR.out)).mono ?_
    rintro e w5 ⟨rfl, hb5⟩
    go_wp2
    go_ret
    exact ⟨rfl, hBw.trans (hb5.mono hBw.size)⟩
  subst hbv
  clear v1 v2
  have HF : Hid ((oneB r i = true ∧ liveB r i = true) ∧ dropB r (idxR r i) = true ∧ R = dropR r (idxR r i)) := by
    have h1 := HBE.out
    unfold selB at h1
    have h2 : (oneB r i = true ∧ liveB r i = true) ∧ dropB r (idxR r i) = true := by simpa using h1.symm
    refine ⟨h2.1, h2.2, ?_⟩
    rw [HRE.out]; unfold selR; rw [h2.1.1, h2.1.2]; rfl
  have HS := Lib.hid (one_safe HF.out.1.1)
  have HV := Lib.hid (safe_rv HS.out)
  have HK := Lib.hid (idx_live HF.out.1.2)
  have HSAFE : Hid (safeB R = true) := by show _ = _; rw [HF.out.2.2]; exact (drop_ok HS.out HK.out.1).safe
  have HKP : Hid (KeepP r R) := by show KeepP _ _; rw [HF.out.2.2]; exact drop_keepP HS.out HK.out.1
  go_wp2_with fail
  refine (rsafe_any true _ _ c2 R w4 HR4.out rfl HMR.out HSAFE.out).mono ?_
  rintro e w5 ⟨rfl, hb5⟩
  go_wp2_with fail
  refine (keeps_any _ _ _ _ cap1 c2 r R w5 (HI4.out.keepB hb5 (Nat.le_refl _)) (HR4.out.keepB hb5 (Nat.le_refl _)) rfl rfl HM.out HMR.out HKP.out HV.out).mono ?_
  rintro e w6 ⟨rfl, hb6⟩
  go_wp2
  go_ret
  exact ⟨rfl, hBw.trans ((hb5.trans (hb6.mono hb5.size)).mono hBw.size)⟩

end Go.Proofs.Ytndjkokipiikpaa
