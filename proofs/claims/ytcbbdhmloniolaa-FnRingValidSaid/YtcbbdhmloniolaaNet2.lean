/- What the functions on linked peers compute: live successors, principals, safe rings. -/
import Derived.Test.YtcbbdhmloniolaaNet
namespace Go.Proofs.Ytcbbdhmloniolaa
open Go.RowKit
set_option linter.unusedVariables false

set_option maxHeartbeats 1000000 in
theorem hls_any (v : Bool) (L : Nat) (r : List Nd) (K : Nat → Option Pr) (i : Nat) (g : Nat) (w : World) (h : Net w L r K) (hv : rvB r = true) (hi : i < r.length) (hg : w.cell? ⟨L, i, none⟩ = some (.pointer (some ⟨g, 0, none⟩))) (hres : lsB r (gn r i) = v) :
    Calls Try.prog 89 #[.pointer (some ⟨g, 0, none⟩)] w fun e w' => e = .returned (.bool v) ∧ Same w w' := by
  obtain ⟨g', b, s0, s1, hp, hL, hc, hc0, hc2, hc3, hc4, hb, h0, h1⟩ := h.at_ hv hi
  rw [hg] at hc
  injection hc with hc; injection hc with hc; injection hc with hc; injection hc with hc
  subst hc
  obtain ⟨hpp, _, x, y, ha, hx, hy⟩ := (ndB_iff _).1 (rv_nd hv hi)
  have ea : gt (gn r i).aft 0 = x := by rw [ha]; rfl
  have eb : gt (gn r i).aft 1 = y := by rw [ha]; rfl
  have He : Hid (v = (liveB r x || liveB r y)) := by show v = _; rw [← hres, lsB, ea, eb]
  rw [ea] at h0
  rw [eb] at h1
  obtain ⟨g0, rfl, _, _, _, d0⟩ := h.peer hv hx h0
  obtain ⟨g1, rfl, _, _, _, d1⟩ := h.peer hv hy h1
  generalize liveB r x = lx at *
  generalize liveB r y = ly at *
  clear hb h0 h1 ea eb ha hp h hg hc0 hc2 hpp hx hy hres
  have i0 : ∀ w, (Instr.index 89 (.agg #[.pointer (some ⟨g0, 0, none⟩), .pointer (some ⟨g1, 0, none⟩)]) (.int .i64 0)).run Try.prog w = .ok (.pointer (some ⟨g0, 0, none⟩)) w := fun _ => by kernel_rfl
  have i1 : ∀ w, (Instr.index 89 (.agg #[.pointer (some ⟨g0, 0, none⟩), .pointer (some ⟨g1, 0, none⟩)]) (.int .i64 1)).run Try.prog w = .ok (.pointer (some ⟨g1, 0, none⟩)) w := fun _ => by kernel_rfl
  go_enter Try.func89, Try.ntmps89
  go_wp2
  go_loopw [9] (fun i wr => (i = .int .i64 0 ∨ (i = .int .i64 1 ∧ Hid (lx = false)) ∨ (i = .int .i64 2 ∧ Hid (lx = false) ∧ Hid (ly = false))) ∧ Same w wr) (fun i _ => 2 - (intOf i).toNat)
  case atStart => exact ⟨.inl rfl, Same.refl _⟩
  case round =>
    obtain ⟨hrel, hs⟩ := hrel
    have e1 := (hs.cell ⟨g0, 1, none⟩).trans d0
    have e2 := (hs.cell ⟨g1, 1, none⟩).trans d1
    rcases hrel with rfl | ⟨rfl, h1⟩ | ⟨rfl, h1, h2⟩
    · cases lx
      · go_wp2
        go_roundw
        case rel => exact ⟨.inr (.inl ⟨rfl, by unfold Hid; trivial⟩), hs⟩
        case measure => simp [intOf]
      · go_wp2
        go_ret
        exact ⟨ret_bool (by rw [He.out]; rfl), hs⟩
    · cases ly
      · go_wp2
        go_roundw
        case rel => exact ⟨.inr (.inr ⟨rfl, h1, by unfold Hid; trivial⟩), hs⟩
        case measure => simp [intOf]
      · go_wp2
        go_ret
        exact ⟨ret_bool (by rw [He.out, Bool.or_true]), hs⟩
    · go_wp2
      go_ret
      exact ⟨ret_bool (by rw [He.out, h1.out, h2.out]; rfl), hs⟩

theorem skips_as (v : Bool) (L : Nat) (r : List Nd) (K : Nat → Option Pr) (i : Nat) (g gq : Nat) (q : Int) (w : World) (h : Net w L r K) (hv : rvB r = true) (hi : i < r.length) (hg : w.cell? ⟨L, i, none⟩ = some (.pointer (some ⟨g, 0, none⟩)))
    (hq0 : 0 ≤ q) (hq1 : q < 64) (hgq : w.cell? ⟨gq, 0, none⟩ = some (.int .i64 q)) (hres : skB (gn r i) q = v) :
    Calls Try.prog 113 #[.pointer (some ⟨g, 0, none⟩), .pointer (some ⟨gq, 0, none⟩)] w fun e w' => e = .returned (.bool v) ∧ Same w w' := by
  subst hres; exact skips_any L r K i g gq q w h hv hi hg hq0 hq1 hgq

set_option maxHeartbeats 1000000 in
theorem ispr_any (v : Bool) (L : Nat) (r : List Nd) (K : Nat → Option Pr) (gq : Nat) (q : Int) (len cap : Nat) (w : World) (h : Net w L r K) (hv : rvB r = true) (hz : r.length = len)
    (hq0 : 0 ≤ q) (hq1 : q < 64) (hgq : w.cell? ⟨gq, 0, none⟩ = some (.int .i64 q)) (hres : (!skdB r q) = v) :
    Calls Try.prog 108 #[.pointer (some ⟨gq, 0, none⟩), .slice (some ⟨L, 0, none⟩) len cap] w fun e w' => e = .returned (.bool v) ∧ Same w w' := by
  have hm := rv_len hv
  rw [hz] at hm
  have H := Lib.hid h
  have HV := Lib.hid hv
  have HZ := Lib.hid hz
  have HR := Lib.hid hres
  have HG := Lib.hid hgq
  clear h hv hz hres hgq
  go_enter Try.func108, Try.ntmps108
  go_wp2
  go_loopw [9] (fun i wr => ∃ k : Nat, k ≤ len ∧ i = .int .i64 k ∧ (∀ j, j < k → skB (gn r j) q = false) ∧ Same w wr) (fun i _ => len - (intOf i).toNat)
  case atStart => exact ⟨0, by omega, rfl, fun j hj => absurd hj (by omega), Same.refl _⟩
  case round =>
    obtain ⟨k, hk, rfl, hno, hs⟩ := hrel
    have HN := Lib.hid hno
    clear hno
    by_cases hlt : k < len
    · have hkr : k < r.length := by rw [HZ.out]; exact hlt
      have hnet := H.out.same hs
      obtain ⟨g, b, s0, s1, hp, hL, hc, _⟩ := hnet.at_ HV.out hkr
      have HNET := Lib.hid hnet
      have HC := Lib.hid hc
      clear hnet hp
      have hcq := (hs.cell ⟨gq, 0, none⟩).trans HG.out
      have HCQ := Lib.hid hcq
      clear hcq
      cases hsk : skB (gn r k) q
      · have HS := Lib.hid hsk
        clear hsk
        go_wp2_with fail
        refine (skips_as false L r K k g gq q wr HNET.out HV.out hkr HC.out hq0 hq1 HCQ.out HS.out).mono ?_
        rintro e w2 ⟨rfl, hs2⟩
        go_wp2
        go_roundw
        case rel =>
          refine ⟨k + 1, by omega, by go_num, fun j hj => ?_, hs.trans hs2⟩
          rcases Nat.lt_or_ge j k with h' | h'
          · exact HN.out j h'
          · rw [show j = k by omega]; exact HS.out
        case measure => simp [intOf]; omega
      · have HS := Lib.hid hsk
        clear hsk
        go_wp2_with fail
        refine (skips_as true L r K k g gq q wr HNET.out HV.out hkr HC.out hq0 hq1 HCQ.out HS.out).mono ?_
        rintro e w2 ⟨rfl, hs2⟩
        go_wp2
        go_ret
        exact ⟨ret_bool (by rw [← HR.out, (skd_iff r q).2 ⟨k, hkr, HS.out⟩]; rfl), hs.trans hs2⟩
    · go_wp2
      go_ret
      exact ⟨ret_bool (by rw [← HR.out, (skd_no r q).2 (fun j hj => HN.out j (by rw [HZ.out] at hj; omega))]; rfl), hs⟩

set_option maxHeartbeats 1000000 in
theorem prof_any (L : Nat) (r : List Nd) (K : Nat → Option Pr) (len cap : Nat) (w : World) (h : Net w L r K) (hv : rvB r = true) (hz : r.length = len) :
    Calls Try.prog 90 #[.slice (some ⟨L, 0, none⟩) len cap] w (NewInts (prL r) w) := by
  have hm := rv_len hv
  rw [hz] at hm
  have H := Lib.hid h
  have HV := Lib.hid hv
  have HZ := Lib.hid hz
  clear h hv hz
  go_enter Try.func90, Try.ntmps90
  go_wp2
  go_loopw [3, 9] (fun o i wr => ∃ k : Nat, k ≤ len ∧ i = .int .i64 k ∧ IntsSoFar (prTo r k) w o wr) (fun _ i _ => len - (intOf i).toNat)
  case atStart => exact ⟨0, by omega, rfl, sofar_new w _ rfl⟩
  case round =>
    obtain ⟨k, hk, rfl, g, gc, rfl, hown, hbel⟩ := hrel
    by_cases hlt : k < len
    · have hkr : k < r.length := by rw [HZ.out]; exact hlt
      have hpl := prTo_len r k
      have hnet := H.out.keepB hbel
      obtain ⟨gq, b, s0, s1, hp, hL, hc, hc0, _⟩ := hnet.at_ HV.out hkr
      have hpp := ((ndB_iff _).1 (rv_nd HV.out hkr)).1
      have HNET := Lib.hid hnet
      have HC0 := Lib.hid hc0
      clear hnet hp hc0
      cases hsd : skdB r (gn r k).pos
      · have HP : Hid (prTo r (k + 1) = prTo r k ++ [(gn r k).pos]) := by show prTo r (k + 1) = _; rw [prTo, hsd]; rfl
        have HS := Lib.hid hsd
        clear hsd
        go_wp2_with fail
        refine (ispr_any true L r K gq (gn r k).pos len cap wr HNET.out HV.out HZ.out hpp.1 hpp.2 HC0.out (by rw [HS.out]; rfl)).mono ?_
        rintro e w2 ⟨rfl, hs2⟩
        have hcp := (hs2.cell ⟨gq, 0, none⟩).trans HC0.out
        have hb2 : Below wr.heap.size wr w2 := hs2.below _
        have hown2 : OwnI w2 w.heap.size (some ⟨g, 0, none⟩) gc (prTo r k) := hown.keepB hb2 (Nat.le_refl _)
        have hgl := hown2.lt
        have HO := Lib.hid hown2
        have hbel2 : Below w.heap.size w w2 := hbel.trans (hb2.mono hbel.size)
        clear hown2 hown
        unfold OwnI at HO
        go_wp2_with (at_builtin; refine wl_app _ (by rfl) _ _ (by rfl) w.heap.size g (prTo r k).length gc (vals (prTo r k)) (by rfl) (HO.out.alloc _) ⟨w2.heap.size, 0, none⟩ 1 1 [.int .i64 (gn r k).pos] (by rfl) rfl (src_one (heap_alloc_new w2 _)) (by simp [Value.oneCell']) ((prTo r k).length + 1) (vals (prTo r k ++ [(gn r k).pos])) rfl (by simp [vals]) (by omega) (by simp; omega) ?_; intro g5 cap5 w5 hown5 hg5 hat5)
        go_roundw
        case rel => exact ⟨k + 1, by omega, by go_num, by rw [HP.out]; exact sofar_next hbel2 ((Below.refl _ _).alloc (Nat.le_refl _) _) hg5 hgl.1 hown5⟩
        case measure => simp [intOf]; omega
      · have HP : Hid (prTo r (k + 1) = prTo r k) := by show prTo r (k + 1) = _; rw [prTo, hsd]; rfl
        have HS := Lib.hid hsd
        clear hsd
        have HO := Lib.hid hown
        clear hown
        go_wp2_with fail
        refine (ispr_any false L r K gq (gn r k).pos len cap wr HNET.out HV.out HZ.out hpp.1 hpp.2 HC0.out (by rw [HS.out]; rfl)).mono ?_
        rintro e w2 ⟨rfl, hs2⟩
        have hb2 : Below wr.heap.size wr w2 := hs2.below _
        go_wp2
        go_roundw
        case rel => exact ⟨k + 1, by omega, by go_num, by rw [HP.out]; exact ⟨g, gc, rfl, HO.out.keepB hb2 (Nat.le_refl _), hbel.trans (hb2.mono hbel.size)⟩⟩
        case measure => simp [intOf]; omega
    · have HF : Hid (prTo r k = prL r) := by show _ = _; rw [prL, HZ.out, show k = len by omega]
      go_wp2
      go_ret
      rw [← HF.out]
      exact new_of_sofar ⟨g, gc, rfl, hown, hbel⟩


set_option maxHeartbeats 1000000 in
theorem areSafe_any (v : Bool) (L : Nat) (r : List Nd) (K : Nat → Option Pr) (len cap : Nat) (w : World) (h : Net w L r K) (hv : rvB r = true) (hz : r.length = len) (hres : sfB r = v) :
    Calls Try.prog 70 #[.slice (some ⟨L, 0, none⟩) len cap] w fun e w' => e = .returned (.bool v) ∧ Below w.heap.size w w' := by
  have h10 := rv_len hv
  subst hz
  have HN := Lib.hid h
  have HV := Lib.hid hv
  have HR := Lib.hid hres
  clear h hv hres
  go_enter Try.func70, Try.ntmps70
  go_wp2
  go_loopw [7] (fun i wr => ∃ k : Nat, k ≤ r.length ∧ i = .int .i64 k ∧ (∀ j, j < k → lsB r (gn r j) = true) ∧ Same w wr) (fun i _ => r.length - (intOf i).toNat)
  case atStart => exact ⟨0, by omega, rfl, fun j hj => absurd hj (by omega), Same.refl _⟩
  case round =>
    obtain ⟨k, hk, rfl, hno, hs⟩ := hrel
    have HNO := Lib.hid hno
    clear hno
    by_cases hlt : k < r.length
    · have hnet := HN.out.same hs
      obtain ⟨g, b, s0, s1, hp, hL, hc, _⟩ := hnet.at_ HV.out hlt
      have HNET := Lib.hid hnet
      have HC := Lib.hid hc
      clear hnet hp
      cases hsk : lsB r (gn r k)
      · have HS := Lib.hid hsk
        clear hsk
        go_wp2_with fail
        refine (hls_any false L r K k g wr HNET.out HV.out hlt HC.out HS.out).mono ?_
        rintro e w3 ⟨rfl, hs2⟩
        go_wp2
        go_ret
        refine ⟨ret_bool ?_, (hs.trans hs2).below _⟩
        rw [← HR.out]
        cases hsf : sfB r
        · rfl
        · have := ((sf_iff r).1 hsf).1 k hlt
          rw [HS.out] at this; cases this
      · have HS := Lib.hid hsk
        clear hsk
        go_wp2_with fail
        refine (hls_any true L r K k g wr HNET.out HV.out hlt HC.out HS.out).mono ?_
        rintro e w3 ⟨rfl, hs2⟩
        go_wp2
        go_roundw
        case rel =>
          refine ⟨k + 1, by omega, by go_num, fun j hj => ?_, hs.trans hs2⟩
          rcases Nat.lt_or_ge j k with h' | h'
          · exact HNO.out j h'
          · rw [show j = k by omega]; exact HS.out
        case measure => simp [intOf]; omega
    · have hnet := HN.out.same hs
      have HNET := Lib.hid hnet
      clear hnet
      go_wp2_with fail
      refine (prof_any L r K _ _ wr HNET.out HV.out rfl).mono ?_
      rintro e w3 ⟨g, gc, rfl, ho, hb3⟩
      have HV2 : Hid (v = decide (3 ≤ (prL r).length)) := by
        show v = _
        rw [← HR.out, sfB, (allTo_iff _ _).2 (fun j hj => HNO.out j (by omega))]; simp
      have hpl : (prL r).length ≤ 10 := Nat.le_trans (prTo_len r _) h10
      go_wp2
      go_ret
      refine ⟨ret_bool ?_, (hs.below _).trans (hb3.mono (by have := hs.below 0 |>.size; omega))⟩
      rw [HV2.out]
      exact decide_eq_decide.2 (by omega)

set_option maxHeartbeats 1000000 in
theorem rsafe_any (v : Bool) (a : Option Addr) (len cap : Nat) (r : List Nd) (w : World) (h : RingAt w a r) (hz : r.length = len) (hm : len ≤ maxLen) (hres : safeB r = v) :
    Calls Try.prog 50 #[.slice a len cap] w fun e w' => e = .returned (.bool v) ∧ Below w.heap.size w w' := by
  have HI := Lib.hid h
  have HZ := Lib.hid hz
  have HM := Lib.hid hm
  have HR := Lib.hid hres
  clear h hz hm hres
  cases hv : rvB r
  · have He : Hid (v = false) := by show v = false; rw [← HR.out]; simp [safeB, hv]
    have HV := Lib.hid hv
    clear hv
    go_enter Try.func50, Try.ntmps50
    go_wp2_with fail
    refine (rv_as false a len cap r w HI.out HZ.out HM.out HV.out).mono ?_
    rintro e w1 ⟨rfl, hb1⟩
    go_wp2
    go_ret
    exact ⟨ret_bool He.out.symm, hb1⟩
  have He : Hid (sfB r = v) := by show sfB r = v; rw [← HR.out]; simp [safeB, hv]
  have HV := Lib.hid hv
  clear hv
  go_enter Try.func50, Try.ntmps50
  go_wp2_with fail
  refine (rv_as true a len cap r w HI.out HZ.out HM.out HV.out).mono ?_
  rintro e w1 ⟨rfl, hb1⟩
  go_wp2_with fail
  refine (link_any a len cap r w1 (HI.out.keepB hb1 (Nat.le_refl _)) HZ.out HV.out).mono ?_
  rintro e w2 ⟨K, rfl, hnet, hb2⟩
  have HN := Lib.hid hnet
  have hbw : Below w.heap.size w w2 := hb1.trans (hb2.mono hb1.size)
  generalize w1.heap.size + 1 = L at *
  clear hnet hb1 hb2
  go_wp2_with fail
  refine (areSafe_any v L r K _ _ w2 HN.out HV.out rfl He.out).mono ?_
  rintro e w3 ⟨rfl, hb3⟩
  go_wp2
  go_ret
  exact ⟨rfl, hbw.trans (hb3.mono hbw.size)⟩
end Go.Proofs.Ytcbbdhmloniolaa
