/- The law of repairs in an ideal ring. -/
import Derived.Test.YtoggmekkkonkgaaLawsH
import Derived.Test.YtoggmekkkonkgaaNwCalm
import Derived.Test.YtoggmekkkonkgaaLawsSafe
import Derived.Test.YtoggmekkkonkgaaIdealMath
import Derived.Test.YtoggmekkkonkgaaSameS
import Derived.Test.YtoggmekkkonkgaaNwRing
import Derived.Deep.DrawnRows
namespace Go.Proofs.Ytoggmekkkonkgaa
open Go.RowKit
set_option linter.unusedVariables false
attribute [local go_sem ↓] Go.wp_at_zero Go.wp_at_succ

theorem drawCalm2 (s : Option Addr) (len cap : Nat) (w : World) (h : BytesAt w s len cap) :
    Calls Try.prog 20 #[.slice s len cap] w (DrewR w) := by
  go_enter Try.func20, Try.ntmps20
  go_wp2_with fail
  refine (open_any s len cap w h).mono ?_
  rintro e w0 ⟨rfl, hr0, hb0, hz0⟩
  have HZ := Lib.hid hz0
  clear hz0
  go_wp2_with fail
  refine (spoilt_any w.heap.size 5 w0 (hr0.less (by omega))).mono ?_
  rintro e w1 ⟨N, cap1, F, r, rfl, ho, h1, h2, h10, hr1, hg1⟩
  go_wp2
  go_ret
  have hz := HZ.out
  exact ⟨N, cap1, r, rfl, ho.ring, h10, h1, below_of_grown hb0 (Nat.le_refl _) (by omega) hg1⟩

theorem cell_lt4 {w : World} {p : Addr} {v : Value} (h : w.cell? p = some v) : p.block < w.heap.size := by
  rcases Nat.lt_or_ge p.block w.heap.size with hlt | hge
  · exact hlt
  · exfalso
    have hn : w.heap[p.block]? = none := Array.getElem?_eq_none hge
    simp [World.cell?, hn] at h
theorem bcell2 {w w' : World} {a : Addr} {v : Value} (h : Below w.heap.size w w') (hc : w.cell? a = some v) : w'.cell? a = some v := by rw [h.cell (cell_lt4 hc)]; exact hc
theorem btwI_end (a b : Int) : btwI a b b = false := by rw [← Bool.not_eq_true, btwI_iff]; omega
theorem btwI_beg (a b : Int) : btwI a a b = false := by rw [← Bool.not_eq_true, btwI_iff]; omega
theorem calmS_safe2 {r : List Nd} (h : safeB r = true) : calmS r = calmR r := by unfold calmS; rw [h]; rfl
theorem safe_one2 {r : List Nd} (h : safeB r = true) {k : Nat} (hk : k < r.length) : (oneB r (gn r k).pos = true ∧ ptB (gn r k).pos = true) ∧ liveB r (gn r k).pos = true ∧ idxR r (gn r k).pos = k := by
  have hv := safe_rv h
  have hp : ptB (gn r k).pos = true := (ptB_iff _).2 (nd_open hv hk).1
  have hl : liveB r (gn r k).pos = true := (live_iff r _).2 ⟨k, hk, rfl⟩
  refine ⟨⟨by unfold oneB; rw [h, hp]; rfl, hp⟩, hl, ?_⟩
  obtain ⟨hj, hjf, _⟩ := idx_live hl
  exact rv_inj hv hj hk hjf
/-- repairs do not change an ideal ring -/
structure Fixed (R : List Nd) (x y : Int) : Prop where
  d : selB R (oneB R x) x (dropB R) = false
  c : selB R (oneB R x && ptB y) x (fun k => closerB R k y) = false
  n : selB R (oneB R y && ptB x) y (fun k => notB R k x) = false
  a : selR R (oneB R x) x (adoptR R) = R
  s : selR R (oneB R x) x (stabR R) = R
theorem fixed_of {R : List Nd} (h : safeB R = true) (hf : rndR R = R) {p : Nat} (hp : p < R.length) : Fixed R (gn R p).pos (gt (gn R p).aft 0) := by
  have hc := fix_calm h hf
  obtain ⟨⟨h1, h2⟩, h3, h4⟩ := safe_one2 h hp
  have hl := hc.liv p hp
  have hlf : liveB R (gt (gn R p).aft 0) = true := hl
  obtain ⟨q1, q2, _⟩ := idx_live hlf
  have hy := safe_one2 h q1
  rw [q2] at hy
  obtain ⟨⟨y1, y2⟩, y3, y4⟩ := hy
  have hbq := hc.bef p hp
  have hbq' : (gn R (idxR R (gt (gn R p).aft 0))).bef = (gn R p).pos := hbq
  have hpb := (ptB_iff _).1 h2
  refine ⟨?_, ?_, ?_, ?_, ?_⟩
  · unfold selB; rw [h1, h3, h4]; simp [dropB, hlf]
  · unfold selB; rw [h1, y2, h3, h4]; simp [closerB, btwI_end]
  · unfold selB; rw [y1, h2, y3]
    simp only [Bool.true_and, notB, keepB, hbq', h3, q2, btwI_beg, decide_eq_true hpb.1, Bool.not_false, Bool.and_self, Bool.not_true, Bool.and_false]
  · unfold selR; rw [h1, h3, h4, if_pos rfl, if_pos rfl, adopt_adS hp hl]
    rcases stab_mm h hp with ⟨_, e⟩ | e
    · rw [← e]; exact fix_stab h hf hp
    · rw [fix_stab h hf hp] at e; omega
  · unfold selR; rw [h1, h3, h4, if_pos rfl, if_pos rfl]; exact fix_stab h hf hp

set_option maxRecDepth 20000 in
set_option maxHeartbeats 4000000 in
theorem idealSteps (s : Option Addr) (len cap : Nat) (z : List Int) (s2 : Option Addr) (len2 cap2 : Nat) (z2 : List Int) (w : World) (h : RowIn .u8 w s len cap z) (h2 : RowIn .u8 w s2 len2 cap2 z2) :
    Calls Try.prog 6 #[.slice s len cap, .slice s2 len2 cap2] w fun e w' => e = .returned (.bool true) ∧ Below w.heap.size w w' := by
  have hb := bytes_of_row h
  have hm : len ≤ maxLen := Nat.le_trans hb.1 hb.2.1
  unfold maxLen at hm
  clear h
  have hm2 : len2 ≤ maxLen := Nat.le_trans (bytes_of_row h2).1 (bytes_of_row h2).2.1
  unfold maxLen at hm2
  clear h2
  by_cases hl : 1048576 < len
  · go_enter Try.func6, Try.ntmps6
    go_wp2
    go_ret
    exact ⟨rfl, Below.refl _ _⟩
  by_cases hl2 : 1048576 < len2
  · have hlB : decide ((1048576 : Int) < (len : Int)) = false := by simp; omega
    go_enter Try.func6, Try.ntmps6
    go_wp2
    go_ret
    exact ⟨rfl, Below.refl _ _⟩
  have hl2B : decide ((1048576 : Int) < (len2 : Int)) = false := by simp; omega
  have hlB : decide ((1048576 : Int) < (len : Int)) = false := by simp; omega
  go_enter Try.func6, Try.ntmps6
  go_wp2_with fail
  refine (drawCalm2 s len cap w hb).mono ?_
  rintro e w1 ⟨N, cap1, r, rfl, hr1, h10, hcap, hB1⟩
  have HI := Lib.hid hr1
  have HM : Hid (r.length ≤ maxLen) := by show _ ≤ maxLen; unfold maxLen; omega
  clear hr1 hlB
  obtain ⟨R, hR⟩ : ∃ R, R = calmS r := ⟨_, rfl⟩
  have HSM : Hid (Small R) := by show Small R; rw [hR]; exact small_of (calmS_sz r)
  have HRE := Lib.hid hR
  clear hR
  go_wp2_with fail
  refine (rcalm_any _ _ cap1 r w1 HI.out rfl HM.out).mono ?_
  rw [← HRE.out]
  rintro e w2 ⟨N2, c2, F2, rfl, ho2, hc2, hcm2, hb2⟩
  have O2 := Lib.hid ho2.ring
  clear ho2
  go_wp2_with fail
  refine (srcalm_any _ _ cap1 r w2 (HI.out.keepB hb2 (Nat.le_refl _)) rfl HM.out).mono ?_
  rw [← HRE.out]
  rintro e w3 ⟨N3, c3, F3, rfl, ho3, _, _, hb3⟩
  have O3 := Lib.hid ho3.ring
  clear ho3
  have O2b := Lib.hid (O2.out.keepB hb3 (Nat.le_refl _))
  have hB13 : Below w1.heap.size w1 w3 := hb2.trans (hb3.mono hb2.size)
  go_wp2_with fail
  refine (sameRing_same _ _ _ c2 c3 R w3 O2b.out O3.out rfl HSM.out).mono ?_
  rintro e w4 ⟨rfl, hb4⟩
  have hB14 : Below w1.heap.size w1 w4 := hB13.trans (hb4.mono hB13.size)
  have O4 := Lib.hid (O2b.out.keepB hb4 (Nat.le_refl _))
  have P4 := Lib.hid (O3.out.keepB hb4 (Nat.le_refl _))
  have hBw : Below w.heap.size w w4 := hB1.trans (hB14.mono hB1.size)
  clear hb2 hb3 hb4 hB13 hB14
  rcases bool_cases (safeB r) with hs | hs
  · have hR0 : R = [] := by rw [HRE.out]; unfold calmS; rw [hs]; rfl
    have hR0l : (R.length : Int) = 0 := by rw [hR0]; rfl
    have hR0B : ((R.length : Int) == 0) = true := by rw [hR0l]; rfl
    clear hs hR0
    go_wp2_with fail
    refine (sameRing_same _ _ _ c2 c3 R w4 O4.out P4.out rfl HSM.out).mono ?_
    rintro e w6 ⟨rfl, hb6⟩
    go_wp2
    go_ret
    exact ⟨rfl, hBw.trans (hb6.mono hBw.size)⟩
  have hRS : safeB R = true := by rw [HRE.out, calmS_safe2 hs]; exact (calm_ok hs).1.safe
  have hRF : rndR R = R := by rw [HRE.out, calmS_safe2 hs]; exact (calm_ok hs).2
  clear hs
  have h3 : 3 ≤ R.length := by
    have h1 := ((safe_iff R).1 hRS).2.2
    have h2 := prTo_len R R.length
    unfold prL at h1; omega
  have h10 : R.length ≤ 10 := rv_len (safe_rv hRS)
  have HRL : Hid (R.length ≤ maxLen) := by show _ ≤ maxLen; unfold maxLen; omega
  have hR0B : ((R.length : Int) == 0) = false := by simp; intro e; rw [e] at h3; simp at h3
  obtain ⟨p, hp⟩ : ∃ p, p = len2 % R.length := ⟨_, rfl⟩
  have hpl : p < R.length := by rw [hp]; exact Nat.mod_lt _ (by omega)
  have m1 : (len2 : Int).tmod (R.length : Int) = (p : Int) := by rw [hp]; rfl
  have m0 : ¬ (R.length : Int) = 0 := by omega
  clear hp
  have hFX := fixed_of hRS hRF hpl
  have haf := (nd_open (safe_rv hRS) hpl).2.2.2.2
  obtain ⟨b, off, hbo, hb0, hcells⟩ := O4.out.at_ hpl
  injection hbo with hbo; injection hbo with hbo hbo2; subst hbo hbo2
  obtain ⟨c0, c1, v9, hv9, a9, c9, hva, _, _, hi9⟩ := hcells p hpl
  clear hcells
  rw [haf] at hva hi9
  rw [hva] at hv9
  rw [Nat.zero_add] at c0 c1 hv9
  obtain ⟨b9, o9, ha9, _, hz9, hy9⟩ := ints_two hi9
  subst ha9
  obtain ⟨x, hx⟩ : ∃ x, x = (gn R p).pos := ⟨_, rfl⟩
  obtain ⟨y, hy⟩ : ∃ y, y = gt (gn R p).aft 0 := ⟨_, rfl⟩
  obtain ⟨B, hB⟩ : ∃ B, B = (gn R p).bef := ⟨_, rfl⟩
  rw [← hx, ← hy] at hFX
  rw [← hx] at c0
  rw [← hB] at c1
  rw [← hy] at hz9
  have FX := Lib.hid hFX
  clear hFX hx hy hB hva hi9 haf hRS hRF hy9
  have HZ9 := Lib.hid hz9
  clear hz9
  have d0 : (w4.alloc (.cells #[.int .i64 x, .int .i64 B, .slice (some ⟨b9, o9, none⟩) 2 c9] 29 (0, 0))).cell? ⟨w4.heap.size, 0, none⟩ = some (.int .i64 x) := by rw [World.cell?_alloc_at _ _ _ _ rfl]; rfl
  go_wp2_with fail
  clear d0
  have HBA : Hid (Below w4.heap.size w4 (w4.alloc (.cells #[.int .i64 x, .int .i64 B, .slice (some ⟨b9, o9, none⟩) 2 c9] 29 (0, 0)))) := (Below.refl _ _).alloc (Nat.le_refl _) _
  have HD0 : Hid ((w4.alloc (.cells #[.int .i64 x, .int .i64 B, .slice (some ⟨b9, o9, none⟩) 2 c9] 29 (0, 0))).cell? ⟨w4.heap.size, 0, none⟩ = some (.int .i64 x)) := by show _ = _; rw [World.cell?_alloc_at _ _ _ _ rfl]; rfl
  have HD2 : Hid ((w4.alloc (.cells #[.int .i64 x, .int .i64 B, .slice (some ⟨b9, o9, none⟩) 2 c9] 29 (0, 0))).cell? ⟨w4.heap.size, 2, none⟩ = some (.slice (some ⟨b9, o9, none⟩) 2 c9)) := by show _ = _; rw [World.cell?_alloc_at _ _ _ _ rfl]; rfl
  have HY9 := Lib.hid (bcell2 HBA.out HZ9.out)
  have OW := Lib.hid (O4.out.keepB HBA.out (Nat.le_refl _))
  have HBW := Lib.hid (hBw.trans (HBA.out.mono hBw.size))
  generalize hgw : w4.alloc (.cells #[.int .i64 x, .int .i64 B, .slice (some ⟨b9, o9, none⟩) 2 c9] 29 (0, 0)) = W at HBA HD0 HD2 HY9 OW HBW ⊢
  generalize hgm : w4.heap.size = m at HD0 HD2 ⊢
  clear hgw hgm HBA O4 P4 O2b O2 O3 HI HRE HM hBw hB1 HZ9 c0 c1 hv9 h10 h3 hl2B hm hm2 hl hl2 m1 m0
  have HCE : Hid (∀ w', Below W.heap.size W w' → Below W.heap.size W w' ∧ w'.cell? ⟨m, 0, none⟩ = some (.int .i64 x) ∧ w'.cell? ⟨m, 2, none⟩ = some (.slice (some ⟨b9, o9, none⟩) 2 c9) ∧ w'.cell? ⟨b9, o9, none⟩ = some (.int .i64 y)) := fun w' hb' => ⟨hb', bcell2 hb' HD0.out, bcell2 hb' HD2.out, bcell2 hb' HY9.out⟩
  have HCC : Hid (∀ w', Below W.heap.size W w' → Calls Try.prog 24 #[.slice (some ⟨N2, 0, none⟩) R.length c2, .int .i64 x, .int .i64 y] w' fun e w'' => ∃ n6 l6 c6, e = .returned (.tuple #[.slice (some ⟨n6, 0, none⟩) l6 c6, .bool false]) ∧ Below W.heap.size W w'') := fun w' hb' => by
    refine (rcloser_any _ _ c2 x y R w' (OW.out.keepB hb' (Nat.le_refl _)) rfl HRL.out).mono ?_
    rw [FX.out.c]
    rintro e w'' ⟨n6, c6, F6, rfl, _, _, _, hb6⟩
    exact ⟨n6, _, c6, rfl, hb'.trans (hb6.mono hb'.size)⟩
  have HCN : Hid (∀ w', Below W.heap.size W w' → Calls Try.prog 25 #[.slice (some ⟨N2, 0, none⟩) R.length c2, .int .i64 y, .int .i64 x] w' fun e w'' => ∃ n6 l6 c6, e = .returned (.tuple #[.slice (some ⟨n6, 0, none⟩) l6 c6, .bool false]) ∧ Below W.heap.size W w'') := fun w' hb' => by
    refine (rnot_any _ _ c2 y x R w' (OW.out.keepB hb' (Nat.le_refl _)) rfl HRL.out).mono ?_
    rw [FX.out.n]
    rintro e w'' ⟨n6, c6, F6, rfl, _, _, _, hb6⟩
    exact ⟨n6, _, c6, rfl, hb'.trans (hb6.mono hb'.size)⟩
  refine (rdrop_any _ _ c2 x R W OW.out rfl HRL.out).mono ?_
  rw [FX.out.d]
  rintro e w5 ⟨N5, c5, F5, rfl, _, _, _, hb5⟩
  generalize (selR R (oneB R x) x (dropR R)).length = l5
  go_wp2_with fail
  go_region_held3 (fun w' => Below W.heap.size W w' ∧ w'.cell? ⟨m, 0, none⟩ = some (.int .i64 x) ∧ w'.cell? ⟨m, 2, none⟩ = some (.slice (some ⟨b9, o9, none⟩) 2 c9) ∧ w'.cell? ⟨b9, o9, none⟩ = some (.int .i64 y)) (first | (exact HCE.out _ hb6) | (exact HCE.out _ hb5) | (exact HCE.out _ hb5.drew))
    ((go_at_call 24; refine (HCC.out _ (by first | exact hb5 | exact hb5.drew)).mono ?_; rintro e w6 ⟨n6, l6, c6, rfl, hb6⟩))
  clear hb5
  go_wp2_with fail
  go_region_held3 (fun w' => Below W.heap.size W w' ∧ w'.cell? ⟨m, 0, none⟩ = some (.int .i64 x) ∧ w'.cell? ⟨m, 2, none⟩ = some (.slice (some ⟨b9, o9, none⟩) 2 c9) ∧ w'.cell? ⟨b9, o9, none⟩ = some (.int .i64 y)) (first | (exact HCE.out _ hb7) | (exact HCE.out _ hb6) | (exact HCE.out _ hb6.drew))
    ((go_at_call 25; refine (HCN.out _ (by first | exact hb6 | exact hb6.drew)).mono ?_; rintro e w7 ⟨n7, l7, c7, rfl, hb7⟩))
  clear hb6
  obtain ⟨_, d0, _, _⟩ := HCE.out w7 hb7
  have O7 := Lib.hid (OW.out.keepB hb7 (Nat.le_refl _))
  go_wp2_with fail
  refine (radopt_any _ _ c2 x R w7 O7.out rfl HRL.out).mono ?_
  rw [FX.out.a]
  rintro e w8 ⟨N8, c8, F8, rfl, ho8, _, _, hb8⟩
  have hb58 : Below W.heap.size W w8 := hb7.trans (hb8.mono hb7.size)
  have D8 := Lib.hid ho8.ring
  clear d0 ho8
  obtain ⟨_, d0, _, _⟩ := HCE.out w8 hb58
  have O8 := Lib.hid (O7.out.keepB hb8 (Nat.le_refl _))
  go_wp2_with fail
  refine (rstab_any _ _ c2 x R w8 O8.out rfl HRL.out).mono ?_
  rw [FX.out.s]
  rintro e w9 ⟨N9, c10, F9, rfl, ho9, _, _, hb9⟩
  have hb59 : Below W.heap.size W w9 := hb58.trans (hb9.mono hb58.size)
  have E9 := Lib.hid ho9.ring
  have D9 := Lib.hid (D8.out.keepB hb9 (Nat.le_refl _))
  have O9 := Lib.hid (O8.out.keepB hb9 (Nat.le_refl _))
  have HB9 := Lib.hid (HBW.out.trans (hb59.mono HBW.out.size))
  clear d0 ho9 hb7 hb8 hb9 hb58 hb59
  go_wp2_with fail
  refine (sameRing_same _ _ _ c8 c2 R w9 D9.out O9.out rfl HSM.out).mono ?_
  rintro e w10 ⟨rfl, hb10⟩
  have HB10 := Lib.hid (HB9.out.trans (hb10.mono HB9.out.size))
  go_wp2_with fail
  refine (sameRing_same _ _ _ c10 c2 R w10 (E9.out.keepB hb10 (Nat.le_refl _)) (O9.out.keepB hb10 (Nat.le_refl _)) rfl HSM.out).mono ?_
  rintro e w11 ⟨rfl, hb11⟩
  go_wp2
  go_ret
  exact ⟨rfl, HB10.out.trans (hb11.mono HB10.out.size)⟩
end Go.Proofs.Ytoggmekkkonkgaa
