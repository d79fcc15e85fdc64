/- What stabilizing writes: the others' successors stay, one predecessor changes. -/
import Derived.Test.YtfmodgongdochaaLawsDrop
import Derived.Deep.DrawnRows
import Derived.Test.YtfmodgongdochaaLawsH
import Derived.Test.YtfmodgongdochaaDrawS
import Derived.Test.YtfmodgongdochaaDrawK
namespace Go.Proofs.Ytfmodgongdochaa
open Go.RowKit
set_option linter.unusedVariables false

attribute [local go_sem ↓] Go.wp_at_zero Go.wp_at_succ

theorem cell_lt5 {w : World} {p : Addr} {v : Value} (h : w.cell? p = some v) : p.block < w.heap.size := by
  rcases Nat.lt_or_ge p.block w.heap.size with hlt | hge
  · exact hlt
  · exfalso
    have hn : w.heap[p.block]? = none := Array.getElem?_eq_none hge
    simp [World.cell?, hn] at h
theorem bcell5 {w w' : World} {a : Addr} {v : Value} (h : Below w.heap.size w w') (hc : w.cell? a = some v) : w'.cell? a = some v := by rw [h.cell (cell_lt5 hc)]; exact hc
/-- only the successors of node k change -/
def KeepK (k : Nat) (a b : List Nd) : Prop := b.length = a.length ∧ ∀ j, j < a.length → (j ≠ k → (gn b j).aft = (gn a j).aft) ∧ (gn b j).bef = (gn a j).bef
theorem KeepK.refl (k : Nat) (a : List Nd) : KeepK k a a := ⟨rfl, fun _ _ => ⟨fun _ => rfl, rfl⟩⟩
theorem KeepK.trans {k : Nat} {a b c : List Nd} (h : KeepK k a b) (g : KeepK k b c) : KeepK k a c :=
  ⟨g.1.trans h.1, fun j hj => ⟨fun hn => ((g.2 j (by rw [h.1]; exact hj)).1 hn).trans ((h.2 j hj).1 hn), (g.2 j (by rw [h.1]; exact hj)).2.trans (h.2 j hj).2⟩⟩
theorem keepK_set (k : Nat) (a : List Nd) (x y : Int) : KeepK k a (a.set k (wAft (gn a k) x y)) := by
  refine ⟨by simp, fun j hj => ?_⟩
  rw [gn_set' hj]
  by_cases e : j = k
  · rw [if_pos e, e]; exact ⟨fun hn => absurd rfl hn, rfl⟩
  · rw [if_neg e]; exact ⟨fun _ => rfl, rfl⟩
theorem keepK_drop (k : Nat) (a : List Nd) : KeepK k a (dropR a k) := by
  unfold dropR; split
  · exact KeepK.refl _ _
  · exact keepK_set _ _ _ _
theorem keepK_adopt (k : Nat) (a : List Nd) : KeepK k a (adoptR a k) := by
  unfold adoptR; split
  · exact keepK_set _ _ _ _
  · exact KeepK.refl _ _
theorem keepK_closer (k : Nat) (a : List Nd) (o : Int) : KeepK k a (closerR a k o) := by
  unfold closerR; split
  · exact keepK_set _ _ _ _
  · exact KeepK.refl _ _
theorem keepK_drop2 (k : Nat) (a : List Nd) : KeepK k a (drop2 a k) := by
  unfold drop2; split
  · exact (keepK_drop k a).trans (keepK_drop k _)
  · exact keepK_drop k a
theorem keepK_stab3 (k : Nat) (a : List Nd) : KeepK k a (stab3 a k) := by
  have h2 : KeepK k a (stab2 a k) := (keepK_drop2 k a).trans (keepK_adopt k _)
  unfold stab3; split
  · exact h2.trans (keepK_closer k _ _)
  · exact h2
theorem stab_keeps (k : Nat) (a : List Nd) : (stabR a k).length = a.length ∧ (∀ j, j < a.length → j ≠ k → (gn (stabR a k) j).aft = (gn a j).aft) ∧ ∃ q, ∀ j, j < a.length → j ≠ q → (gn (stabR a k) j).bef = (gn a j).bef := by
  have h3 := keepK_stab3 k a
  unfold stabR notR
  split
  · refine ⟨by simp [h3.1], fun j hj hn => ?_, ⟨idxR (stab3 a k) (first (stab3 a k) k), fun j hj hn => ?_⟩⟩
    · rw [gn_set' (by rw [h3.1]; exact hj)]
      split
      · rename_i e; rw [← e]; exact (h3.2 j hj).1 hn
      · exact (h3.2 j hj).1 hn
    · rw [gn_set' (by rw [h3.1]; exact hj), if_neg hn]; exact (h3.2 j hj).2
  · exact ⟨h3.1, fun j hj hn => (h3.2 j hj).1 hn, ⟨0, fun j hj _ => (h3.2 j hj).2⟩⟩

set_option maxRecDepth 20000 in
set_option maxHeartbeats 4000000 in
theorem stabOthers (s : Option Addr) (len cap : Nat) (z : List Int) (w : World) (h : RowIn .u8 w s len cap z) :
    Calls Try.prog 3 #[.slice s len cap] w fun e w' => e = .returned (.bool true) ∧ Below w.heap.size w w' := by
  have hb := bytes_of_row h
  have hm : len ≤ maxLen := Nat.le_trans hb.1 hb.2.1
  unfold maxLen at hm
  clear h
  by_cases hl : 1048576 < len
  · go_enter Try.func3, Try.ntmps3
    go_wp2
    go_ret
    exact ⟨rfl, Below.refl _ _⟩
  have hlB : decide ((1048576 : Int) < (len : Int)) = false := by simp; omega
  go_enter Try.func3, Try.ntmps3
  go_wp2_with fail
  refine (drawRingStabilize s len cap w hb).mono ?_
  rintro e w1 ⟨N, cap1, r, i, rfl, hr1, h10, hcap, hcm, hB1⟩
  have HI := Lib.hid hr1
  have hmx : r.length ≤ maxLen := by unfold maxLen; omega
  have HM := Lib.hid hmx
  have HIM0 := fun w0 (h : RingAt w0 (some ⟨N, 0, none⟩) r) (hm : r.length ≤ maxLen) => rstab_any _ _ cap1 i r w0 h rfl hm
  have HSP0 := fun w0 (h : RingAt w0 (some ⟨N, 0, none⟩) r) (hm : r.length ≤ maxLen) (hc : r.length ≤ cap1) (hcm : cap1 ≤ maxLen) => srstab_any _ _ cap1 i r w0 h rfl hm
  have HSR0 : szR (selR r (oneB r i) i (stabR r)) ≤ 1048576 := sel_sz4 (fun hs k hk => safe_rv (stab_ok hs hk).safe) (fun h => by exact (by simpa [oneB] using h : safeB r = true ∧ ptB i = true).1)
  obtain ⟨R, hR⟩ : ∃ R, R = (selR r (oneB r i) i (stabR r)) := ⟨_, rfl⟩
  obtain ⟨B, hBB⟩ : ∃ B, B = (selB r (oneB r i) i (fun _ => true)) := ⟨_, rfl⟩
  simp only [← hR, ← hBB] at HIM0 HSP0 HSR0
  have HIM := Lib.hid HIM0
  have HSP := Lib.hid HSP0
  have HSR := Lib.hid HSR0
  have HRE := Lib.hid hR
  have HBE := Lib.hid hBB
  have HMR : Hid (R.length ≤ maxLen) := small_max HSR0
  clear hr1 hmx hlB HIM0 HSP0 HSR0 hR hBB
  go_wp2_with fail
  refine (HIM.out w1 HI.out HM.out).mono ?_
  rintro e w2 ⟨N2, c2, F2, rfl, ho2, hc2, hcm2, hb2⟩
  have HO2 := Lib.hid ho2.ring
  clear ho2
  go_wp2_with fail
  refine (HSP.out w2 (HI.out.keepB hb2 (Nat.le_refl _)) HM.out hcap hcm).mono ?_
  rintro e w3 ⟨N3, c3, F3, rfl, ho3, _, _, hb3⟩
  have HO3 := Lib.hid ho3.ring
  clear ho3
  have v1 : (!B == B) = false := by simp
  have v2 : (B == B) = true := by simp
  go_wp2_with fail
  refine (sameRing_same _ _ _ c2 c3 R w3 (HO2.out.keepB hb3 (Nat.le_refl _)) HO3.out rfl (small_of HSR.out)).mono ?_
  rintro e w4 ⟨rfl, hb4⟩
  have hB24 : Below w2.heap.size w2 w4 := hb3.trans (hb4.mono hb3.size)
  have hB14 : Below w1.heap.size w1 w4 := hb2.trans (hB24.mono hb2.size)
  have hBw : Below w.heap.size w w4 := hB1.trans (hB14.mono hB1.size)
  have HI4 := Lib.hid (HI.out.keepB hB14 (Nat.le_refl _))
  have HR4 := Lib.hid (HO2.out.keepB hB24 (Nat.le_refl _))
  rcases bool_cases B with hbv | hbv
  · subst hbv
    go_wp2_with fail
    refine (sameRing_same _ _ _ c2 c3 R w4 HR4.out (HO3.out.keepB hb4 (Nat.le_refl _)) rfl (small_of HSR.out)).mono ?_
    rintro e w5 ⟨rfl, hb5⟩
    go_wp2
    go_ret
    exact ⟨rfl, hBw.trans (hb5.mono hBw.size)⟩
  subst hbv
  clear v1 v2
  have HF : Hid ((oneB r i = true ∧ liveB r i = true) ∧ R = stabR r (idxR r i)) := by
    have h1 := HBE.out
    unfold selB at h1
    have h2 : oneB r i = true ∧ liveB r i = true := by simpa using h1.symm
    refine ⟨h2, ?_⟩
    rw [HRE.out]; unfold selR; rw [h2.1, h2.2]; rfl
  have HK := Lib.hid (idx_live HF.out.1.2)
  obtain ⟨kk, hkk⟩ : ∃ kk, kk = idxR r i := ⟨_, rfl⟩
  have HKP : Hid ((gn r kk).pos = i) := by show _ = _; rw [hkk]; exact HK.out.2.1
  have HST := stab_keeps kk r
  rw [show stabR r kk = R by rw [hkk]; exact HF.out.2.symm] at HST
  obtain ⟨hL, hA, q, hQ⟩ := HST
  have HL := Lib.hid hL
  have HAF := Lib.hid hA
  have HBF := Lib.hid hQ
  have hll : ((R.length : Int) == (r.length : Int)) = true := by rw [hL]; simp
  clear hL hA hQ hkk hb2 hb3 hb4 hB24 hB14 HIM HSP HSR
  go_wp2
  go_loopw [9, 10] (fun c i' wr => ∃ k m : Nat, k ≤ r.length ∧ i' = .int .i64 k ∧ c = .int .i64 m ∧ (m = 0 ∨ (m = 1 ∧ q < k)) ∧ Same w4 wr) (fun _ i' _ => r.length - (intOf i').toNat)
  case atStart => exact ⟨0, 0, by omega, rfl, rfl, .inl rfl, Same.refl _⟩
  case round =>
    obtain ⟨k, m, hk, rfl, rfl, hmq, hs⟩ := hrel
    have hbr := hs.below w4.heap.size
    have HMQ := Lib.hid hmq
    by_cases hlt : k < r.length
    · have hkR : k < R.length := by rw [HL.out]; exact hlt
      obtain ⟨b, off, hbo, hb0, hcells⟩ := (HI4.out.keepB hbr (Nat.le_refl _)).at_ hlt
      injection hbo with hbo; injection hbo with hbo hbo2; subst hbo hbo2
      obtain ⟨sa, sc, hc0, hc1, hc2, hl1, hmx1, hin1⟩ := node_open (hcells k hlt)
      clear hcells
      obtain ⟨b', off', hbo, hb0', hcells⟩ := (HR4.out.keepB hbr (Nat.le_refl _)).at_ hkR
      injection hbo with hbo; injection hbo with hbo hbo2; subst hbo hbo2
      obtain ⟨sb, sd, hd0, hd1, hd2, hl2, hmx2, hin2⟩ := node_open (hcells k hkR)
      clear hcells hmq
      rw [Nat.zero_add] at hc0 hc1 hc2 hd0 hd1 hd2
      have i0 : (0 : Int) ≤ (k : Int) := by omega
      have i1 : (k : Int) < (r.length : Int) := by omega
      have i2 : (k : Int) < (R.length : Int) := by omega
      have HI1 := Lib.hid hin1
      have HI2 := Lib.hid hin2
      have HM1 : Hid ((gn r k).aft.length ≤ 1048576) := by
        show _ ≤ _
        rw [(nd_open (safe_rv (one_safe HF.out.1.1)) hlt).2.2.2.2]; simp
      have hIQ : k ≠ q → (gn R k).bef = (gn r k).bef := HBF.out k hlt
      have HIQ := Lib.hid hIQ
      clear hin1 hin2 hl1 hl2 hmx1 hmx2 hb0 hb0' hIQ hd0 hbr
      obtain ⟨P, hP⟩ : ∃ P, P = (gn r k).pos := ⟨_, rfl⟩
      obtain ⟨B1, hB1'⟩ : ∃ B1, B1 = (gn r k).bef := ⟨_, rfl⟩
      obtain ⟨B2, hB2'⟩ : ∃ B2, B2 = (gn R k).bef := ⟨_, rfl⟩
      by_cases hpi : (gn r k).pos = i
      · have e1 : ((gn r k).pos != i) = false := by simp [hpi]
        clear hpi
        by_cases hbf : (gn R k).bef = (gn r k).bef
        · have e2 : ((gn R k).bef != (gn r k).bef) = false := by simp [hbf]
          clear hbf hP hB1' hB2'
          go_wp2
          go_quiet (fail)
          go_wp2
          go_quiet (fail)
          go_wp2
          go_roundw
          case rel => exact ⟨k + 1, m, by omega, by go_num, rfl, (by rcases HMQ.out with h | ⟨h, h'⟩; exact .inl h; exact .inr ⟨h, by omega⟩), (by first | exact hs.drewN _ | exact (hs.drewN _).drewN _)⟩
          case measure => simp [intOf]; omega
        · have e2 : ((gn R k).bef != (gn r k).bef) = true := by simp [hbf]
          have hkq : k = q := by
            by_cases e : k = q
            · exact e
            · exact absurd (HIQ.out e) hbf
          have hm0 : m = 0 := by rcases HMQ.out with h | ⟨_, h⟩; exact h; omega
          have HKQ := Lib.hid hkq
          clear hbf hP hB1' hB2' hkq
          subst hm0
          go_wp2
          go_quiet (fail)
          go_wp2
          go_quiet (fail)
          go_wp2
          go_roundw
          case rel => exact ⟨k + 1, 1, by omega, by go_num, by go_num, .inr ⟨rfl, by have := HKQ.out; omega⟩, (by first | exact hs.drewN _ | exact (hs.drewN _).drewN _)⟩
          case measure => simp [intOf]; omega
      · have e1 : ((gn r k).pos != i) = true := by simp [hpi]
        have hkk2 : k ≠ kk := fun e => hpi (by rw [e]; exact HKP.out)
        have haf := HAF.out k hlt hkk2
        have HEA := Lib.hid haf
        have hcall : ∀ n, Calls Try.prog 8 #[.slice sb (gn R k).aft.length sd, .slice sa (gn r k).aft.length sc] (wr.drewN n) fun e w'' => e = .returned (.bool true) ∧ ∃ m, w'' = wr.drewN m := fun n => by
          have hsn : Same wr (wr.drewN n) := (Same.refl wr).drewN n
          have h2 := HI2.out.same hsn
          have h1 := HI1.out.same hsn
          rw [HEA.out] at h2 ⊢
          refine (sameI_same _ _ _ _ _ _ _ h2 h1 rfl HM1.out).mono ?_
          rintro e w'' ⟨rfl, m', rfl⟩
          exact ⟨rfl, (hsn.drewN m')⟩
        have HCA := Lib.hid hcall
        clear hpi hkk2 haf hcall
        by_cases hbf : (gn R k).bef = (gn r k).bef
        · have e2 : ((gn R k).bef != (gn r k).bef) = false := by simp [hbf]
          clear hbf hP hB1' hB2'
          go_wp2
          go_quiet ((go_at_call 8; exact HCA.out _))
          go_wp2
          go_quiet (fail)
          go_wp2
          go_roundw
          case rel => exact ⟨k + 1, m, by omega, by go_num, rfl, (by rcases HMQ.out with h | ⟨h, h'⟩; exact .inl h; exact .inr ⟨h, by omega⟩), (by first | exact hs.drewN _ | exact (hs.drewN _).drewN _)⟩
          case measure => simp [intOf]; omega
        · have e2 : ((gn R k).bef != (gn r k).bef) = true := by simp [hbf]
          have hkq : k = q := by
            by_cases e : k = q
            · exact e
            · exact absurd (HIQ.out e) hbf
          have hm0 : m = 0 := by rcases HMQ.out with h | ⟨_, h⟩; exact h; omega
          have HKQ := Lib.hid hkq
          clear hbf hP hB1' hB2' hkq
          subst hm0
          go_wp2
          go_quiet ((go_at_call 8; exact HCA.out _))
          go_wp2
          go_quiet (fail)
          go_wp2
          go_roundw
          case rel => exact ⟨k + 1, 1, by omega, by go_num, by go_num, .inr ⟨rfl, by have := HKQ.out; omega⟩, (by first | exact hs.drewN _ | exact (hs.drewN _).drewN _)⟩
          case measure => simp [intOf]; omega
    · have hlt' : ¬ ((k : Int) < (r.length : Int)) := by omega
      have hm1 : (m : Int) ≤ 1 := by rcases HMQ.out with h | ⟨h, _⟩ <;> omega
      go_wp2
      go_ret
      exact ⟨rfl, hBw.trans (hbr.mono hBw.size)⟩
end Go.Proofs.Ytfmodgongdochaa
