/- The walks of the laws of a scan's step. -/
import Derived.Test.YtenhaccdiamagaaLawsSc
import Derived.Laws.StructEq
import Derived.Deep.DrawnRows
import Derived.Deep.QuietTactic
import Derived.Deep.RegionLaw
namespace Go.Proofs.Ytenhaccdiamagaa
open Go.RowKit
set_option linter.unusedVariables false
attribute [local go_sem ↓] Go.wp_at_zero Go.wp_at_succ

/-- where a part of a slice begins -/
def slS (a : Option Addr) (cap l : Nat) : Option Addr := if cap = l then a else a.map (·.add l)
theorem slS_size (w : World) : (Go.sizeOf 3).run Try.prog w = .ok 1 w := by
  obtain ⟨i0, hi0, hz0, hz1, hz2⟩ := info_parts Try.infoI
  simp [Go.sizeOf, typeInfo, hi0, hz1]
theorem run_slSH (w : World) (a : Option Addr) (len cap h : Nat) (h2 : h ≤ cap) :
    (Instr.slice 24 (.slice a len cap) none (some (.int .i64 h)) none).run Try.prog w = .ok (.slice (slS a cap 0) h cap) w := by
  have e : Try.prog.underlying 24 = some (.slice (Try.prog.elem 24)) := Try.underlying24
  rw [run_slice_h _ _ _ _ _ e _ _ (by omega) (by omega)]
  have hs : (sizeOf (Try.prog.elem 24)).run Try.prog w = .ok 1 w := slS_size w
  rw [hs]
  simp [Result.andThen, sliced, slS]
theorem run_slSL (w : World) (a : Option Addr) (len cap l : Nat) (h1 : l ≤ len) :
    (Instr.slice 24 (.slice a len cap) (some (.int .i64 l)) none none).run Try.prog w = .ok (.slice (slS a cap l) (len - l) (cap - l)) w := by
  have e : Try.prog.underlying 24 = some (.slice (Try.prog.elem 24)) := Try.underlying24
  rw [run_slice_l _ _ _ _ _ e _ _ (by omega) (by omega)]
  have hs : (sizeOf (Try.prog.elem 24)).run Try.prog w = .ok 1 w := slS_size w
  rw [hs]
  simp [Result.andThen, sliced, slS]
theorem own_capS {w : World} {base cap : Nat} {a : Option Addr} {zs : List Int} (h : OwnI w base a cap zs) : zs.length ≤ cap := by
  rcases h.2 with ⟨_, h0⟩ | ⟨g', cap', cur, hv, hb, hg, hnc, _⟩
  · omega
  · injection hv with _ _ hc; omega
theorem gt_appL {xs ys : List Int} {i : Nat} (h : i < xs.length) : gt (xs ++ ys) i = gt xs i := by
  rw [gt_get (by rw [List.length_append]; omega), gt_get h, List.getElem_append_left h]
theorem gt_appR {xs ys : List Int} {i : Nat} (h : i < ys.length) : gt (xs ++ ys) (xs.length + i) = gt ys i := by
  rw [gt_get (by rw [List.length_append]; omega), gt_get h, List.getElem_append_right (by omega)]
  congr 1; omega
theorem ints_preS {w : World} {a : Option Addr} {xs ys : List Int} {cap : Nat} (h : IntsAt w a (xs ++ ys)) : IntsAt w (slS a cap 0) xs := by
  rcases h with h0 | ⟨b, off, ha, hlt, hc⟩
  · exact .inl (List.append_eq_nil_iff.1 h0).1
  · subst ha
    have hs : slS (some ⟨b, off, none⟩) cap 0 = some ⟨b, off, none⟩ := by
      unfold slS; split
      · rfl
      · rw [Option.map_some, add_plain]; rfl
    rw [hs]
    exact .inr ⟨b, off, rfl, hlt, fun i hi => by rw [hc i (by rw [List.length_append]; omega), gt_appL hi]⟩
theorem ints_sufS {w : World} {a : Option Addr} {xs ys : List Int} {cap : Nat} (h : IntsAt w a (xs ++ ys)) (hcap : (xs ++ ys).length ≤ cap) : IntsAt w (slS a cap xs.length) ys := by
  rcases h with h0 | ⟨b, off, ha, hlt, hc⟩
  · exact .inl (List.append_eq_nil_iff.1 h0).2
  · subst ha
    rcases Nat.eq_zero_or_pos ys.length with h0 | h0
    · exact .inl (List.length_eq_zero_iff.1 h0)
    · rw [List.length_append] at hcap
      have hs : slS (some ⟨b, off, none⟩) cap xs.length = some ⟨b, off + xs.length, none⟩ := by
        unfold slS; rw [if_neg (by omega), Option.map_some, add_plain]
      rw [hs]
      exact .inr ⟨b, off + xs.length, rfl, hlt, fun i hi => by rw [Nat.add_assoc, hc _ (by rw [List.length_append]; omega), gt_appR hi]⟩

set_option maxRecDepth 20000 in
set_option maxHeartbeats 4000000 in
theorem scanStep (s : Option Addr) (len cap : Nat) (z : List Int) (w : World) (h : RowIn .u8 w s len cap z) :
    Calls Try.prog 3 #[.slice s len cap] w fun e w' => e = .returned (.bool true) ∧ Below w.heap.size w w' := by
  have hb := bytes_of_row h
  have hm : len ≤ maxLen := Nat.le_trans hb.1 hb.2.1
  unfold maxLen at hm
  clear h
  by_cases hl : 1048576 < len
  · go_enter Try.func3, Try.ntmps3
    go_wp2
    go_ret
    exact ⟨rfl, Below.refl _ _⟩
  have hlB : decide ((1048576 : Int) < (len : Int)) = false := by simp; omega
  have HY := Lib.hid hb
  clear hb
  go_enter Try.func3, Try.ntmps3
  go_wp2_with fail
  refine (drawLKS s len cap w HY.out).mono ?_
  rintro e w0 ⟨gl, cl, L, gk, ck, K, b, cb, S, rfl, hll, hol, hkd, hkl, hok, hxb, htl, hos, hb0⟩
  obtain ⟨w1, hw1⟩ : ∃ w1, w1 = w0.alloc (.cells #[.int .i64 S.x, .slice (some ⟨b, 0, none⟩) S.t.length cb] 26) := ⟨_, rfl⟩
  have hst : StSc w1 w0.heap.size (some ⟨b, 0, none⟩) cb S := by rw [hw1]; exact stsc_new
  have hbA : Below w0.heap.size w0 w1 := by rw [hw1]; exact alB w0 _
  have HKS : Hid (∀ W, Below w1.heap.size w1 W → StSc W w0.heap.size (some ⟨b, 0, none⟩) cb S) := fun W hW => stsc_keep hst (hW.block _ (by rw [hw1]; simp))
  have HSO : Hid (∀ W, Below w1.heap.size w1 W → IntsAt W (some ⟨b, 0, none⟩) S.t) := fun W hW => own_intsS ((hos.keepB hbA (Nat.le_refl _)).keepB hW (Nat.le_refl _))
  have HKO : Hid (∀ W, Below w1.heap.size w1 W → IntsAt W (some ⟨gk, 0, none⟩) K) := fun W hW => own_intsS ((hok.keepB hbA (Nat.le_refl _)).keepB hW (Nat.le_refl _))
  have HLO : Hid (∀ W, Below w1.heap.size w1 W → LsAt W (some ⟨gl, 0, none⟩) L) := fun W hW => ((hol.keepB hbA (Nat.le_refl _)).keepB hW (Nat.le_refl _)).ls
  have HB1 : Hid (Below w.heap.size w w1) := by show Below _ _ _; rw [hw1]; exact hb0.alloc hb0.size _
  have HW1 := Lib.hid hw1
  have HLM := Lib.hid (len_max hll (by omega))
  have HKM := Lib.hid (len_max hkl (by omega))
  have HNM := Lib.hid (len_max htl (by omega))
  have HTS := Lib.hid (Nat.le_trans htl (show 66 ≤ 1048576 by omega))
  obtain ⟨c0, c1⟩ := hst
  obtain ⟨S', v, hR⟩ : ∃ S' v, stR L K S = (S', v) := ⟨_, _, rfl⟩
  have HOS : Hid (S'.t.length ≤ 1048576) := by show _ ≤ _; have := stR_len L K S; rw [hR] at this; simp only at this; omega
  have HR := Lib.hid hR
  clear hol hkd hok hos hb0 hw1 hR hbA
  go_wp2_with fail
  rw [← HW1.out]
  refine (pstep_as S' v _ _ _ _ _ _ _ _ _ L K S w1 (HLO.out _ (Below.refl _ _)) (HKO.out _ (Below.refl _ _)) (HSO.out _ (Below.refl _ _)) rfl rfl rfl HLM.out HKM.out HNM.out HR.out).mono ?_
  rintro e w2 ⟨aO, cO, rfl, hoo, hb2⟩
  obtain ⟨w3, hw3⟩ : ∃ w3, w3 = w2.alloc (.cells #[.int .i64 S'.x, .slice aO S'.t.length cO] 26) := ⟨_, rfl⟩
  have hbB : Below w2.heap.size w2 w3 := by rw [hw3]; exact alB w2 _
  have hst3 : StSc w3 w2.heap.size aO cO S' := by rw [hw3]; exact stsc_new
  have HKP : Hid (∀ W, Below w3.heap.size w3 W → StSc W w2.heap.size aO cO S') := fun W hW => stsc_keep hst3 (hW.block _ (by rw [hw3]; simp))
  have HPO : Hid (∀ W, Below w3.heap.size w3 W → OwnI W w1.heap.size aO cO S'.t) := fun W hW => (hoo.keepB hbB (Nat.le_refl _)).keepB hW (Nat.le_refl _)
  have HK3 : Hid (Below w1.heap.size w1 w3) := hb2.trans (hbB.mono hb2.size)
  have HCO := Lib.hid (own_capS hoo)
  have HW3 := Lib.hid hw3
  clear hoo hb2 hbB hst3 hw3 c0 c1
  obtain ⟨c0, c1⟩ := HKS.out w3 HK3.out
  rw [HW3.out] at c0 c1
  go_wp2_with fail
  rw [← HW3.out]
  refine (sstep_as2 S' v _ _ _ _ _ _ _ _ _ L K S w3 (HLO.out _ HK3.out) (HKO.out _ HK3.out) (HSO.out _ HK3.out) rfl rfl rfl HLM.out HKM.out HNM.out HR.out).mono ?_
  rintro e w4 ⟨aQ, cQ, rfl, hoq, hb4⟩
  obtain ⟨w5, hw5⟩ : ∃ w5, w5 = w4.alloc (.cells #[.int .i64 S'.x, .slice aQ S'.t.length cQ] 26) := ⟨_, rfl⟩
  have hbC : Below w4.heap.size w4 w5 := by rw [hw5]; exact alB w4 _
  have hst5 : StSc w5 w4.heap.size aQ cQ S' := by rw [hw5]; exact stsc_new
  have HKQ : Hid (∀ W, Below w5.heap.size w5 W → StSc W w4.heap.size aQ cQ S') := fun W hW => stsc_keep hst5 (hW.block _ (by rw [hw5]; simp))
  have HQO : Hid (∀ W, Below w5.heap.size w5 W → IntsAt W aQ S'.t) := fun W hW => own_intsS ((hoq.keepB hbC (Nat.le_refl _)).keepB hW (Nat.le_refl _))
  have HL5 : Hid (Below w3.heap.size w3 w5) := hb4.trans (hbC.mono hb4.size)
  have HK5 : Hid (Below w1.heap.size w1 w5) := HK3.out.trans (HL5.out.mono HK3.out.size)
  have HW5 := Lib.hid hw5
  clear hoq hb4 hbC hst5 hw5 c0 c1
  obtain ⟨c0, c1⟩ := HKP.out w5 HL5.out
  obtain ⟨d0, d1⟩ := HKQ.out w5 (Below.refl _ _)
  rw [HW5.out] at c0 c1 d0 d1
  have q1 : (v != v) = false := by cases v <;> rfl
  have q2 : (v == v) = true := by cases v <;> rfl
  go_wp2_with fail
  rw [← HW5.out]
  refine (sameSc_any aO aQ cO cQ S' w5 (own_intsS (HPO.out _ HL5.out)) (HQO.out _ (Below.refl _ _)) HOS.out).mono ?_
  rintro e w6 ⟨rfl, hb6⟩
  have HM6 := Lib.hid hb6
  have HL6 : Hid (Below w3.heap.size w3 w6) := HL5.out.trans (hb6.mono HL5.out.size)
  have HK6 : Hid (Below w1.heap.size w1 w6) := HK5.out.trans (hb6.mono HK5.out.size)
  have HBW6 : Hid (Below w.heap.size w w6) := HB1.out.trans (HK6.out.mono HB1.out.size)
  clear c0 c1 d0 d1 hb6
  cases v
  · obtain ⟨c0, c1⟩ := HKP.out w6 HL6.out
    obtain ⟨d0, d1⟩ := HKQ.out w6 HM6.out
    go_wp2_with fail
    refine (sameSc_any aO aQ cO cQ S' w6 (own_intsS (HPO.out _ HL6.out)) (HQO.out _ HM6.out) HOS.out).mono ?_
    rintro e w7 ⟨rfl, hb7⟩
    have HBW7 := Lib.hid (HBW6.out.trans (hb7.mono HBW6.out.size))
    clear c0 c1 d0 d1 hb7
    go_wp2
    go_ret
    exact ⟨rfl, HBW7.out⟩
  have hyes := stR_ok (L := L) (K := K) (s := S) (by rw [HR.out])
  obtain ⟨hok, hx64, hst⟩ := hyes
  have hS' : S' = stS L K S := by have h := HR.out; rw [hst] at h; injection h with h _; exact h.symm
  obtain ⟨hlv, hky, hsc⟩ := (stOk_iff _ _ _).1 hok
  have HV := Lib.hid hlv
  have HKY := Lib.hid hky
  have HSC := Lib.hid hsc
  have HST := Lib.hid hS'
  have hx0 := ((scB_iff S).1 hsc).2.1.1
  have hnx := nx_bd hlv hx64
  have hxx : S'.x = nxE L S.x := by rw [hS']; rfl
  have htt : S'.t = S.t ++ btw K S.x S'.x := by rw [hxx, hS']; rfl
  have HXX := Lib.hid hxx
  have HTT := Lib.hid htt
  rw [← hxx] at hnx
  clear hok hst hS' hlv hky hsc hxx htt q1 q2
  obtain ⟨c0, c1⟩ := HKS.out w6 HK6.out
  obtain ⟨d0, d1⟩ := HKP.out w6 HL6.out
  have HOV : Hid (scB S' = true) := by show _ = _; rw [HST.out]; exact stS_ok HV.out HKY.out HSC.out hx64
  have hlen : S'.t.length = S.t.length + (btw K S.x S'.x).length := by rw [HTT.out, List.length_append]
  have hcO := HCO.out
  have t1 : decide (S.x < S'.x) = true := by simp; omega
  have t2 : decide ((S.t.length : Int) ≤ (S'.t.length : Int)) = true := by simp; omega
  have t3 : decide (S.t.length ≤ S'.t.length) = true := by rw [decide_eq_true_eq]; omega
  have t4 : S.t.length ≤ S'.t.length := by omega
  have hsl := fun w => run_slSH w aO S'.t.length cO S.t.length (by omega)
  have HPR : Hid (∀ W, Below w6.heap.size w6 W → IntsAt W (slS aO cO 0) S.t) := fun W hW => by
    have h := own_intsS (HPO.out W (HL6.out.trans (hW.mono HL6.out.size)))
    rw [HTT.out] at h; exact ints_preS h
  have HSS : Hid (∀ W, Below w6.heap.size w6 W → IntsAt W (some ⟨b, 0, none⟩) S.t) := fun W hW => HSO.out W (HK6.out.trans (hW.mono HK6.out.size))
  have HOO : Hid (∀ W, Below w6.heap.size w6 W → IntsAt W aO S'.t) := fun W hW => own_intsS (HPO.out W (HL6.out.trans (hW.mono HL6.out.size)))
  have HOM : Hid (S'.t.length ≤ maxLen) := by show _ ≤ maxLen; have := HOS.out; unfold maxLen; omega
  have HK : Hid (∀ w', Below w6.heap.size w6 w' → w'.cell? ⟨w0.heap.size, 0, none⟩ = some (.int .i64 S.x) ∧ w'.cell? ⟨w0.heap.size, 1, none⟩ = some (.slice (some ⟨b, 0, none⟩) S.t.length cb) ∧ w'.cell? ⟨w2.heap.size, 0, none⟩ = some (.int .i64 S'.x) ∧ w'.cell? ⟨w2.heap.size, 1, none⟩ = some (.slice aO S'.t.length cO)) := fun w' hb => by
    have k8 := HKS.out w' (HK6.out.trans (hb.mono HK6.out.size))
    have k2 := HKP.out w' (HL6.out.trans (hb.mono HL6.out.size))
    exact ⟨k8.1, k8.2, k2.1, k2.2⟩
  have HBD : Hid (Below w6.heap.size w6 w6.drew) := (Below.refl _ _).drew
  clear hlen hcO hx0 hx64 hnx hll hkl hxb htl
  go_wp2_with fail
  go_region_held3 (fun w' => w'.cell? ⟨w0.heap.size, 0, none⟩ = some (.int .i64 S.x) ∧ w'.cell? ⟨w0.heap.size, 1, none⟩ = some (.slice (some ⟨b, 0, none⟩) S.t.length cb) ∧ w'.cell? ⟨w2.heap.size, 0, none⟩ = some (.int .i64 S'.x) ∧ w'.cell? ⟨w2.heap.size, 1, none⟩ = some (.slice aO S'.t.length cO)) (first | (with_reducible exact HK.out _ (HBD.out)) | (with_reducible exact HK.out _ (HB7.out)) | (with_reducible exact HK.out _ (HB8.out))) (first
    | (go_at_call 19; refine (pscv_as true aO _ _ S' _ (HOO.out _ HBD.out) rfl HOM.out HOV.out).mono ?_; rintro e w7 ⟨rfl, hb7⟩; have HB7 := Lib.hid (HBD.out.trans (hb7.mono HBD.out.size)); clear hb7)
    | (go_at_call 20; refine (sameI_as (slS aO cO 0) (some ⟨b, 0, none⟩) S.t.length cO cb S.t w7 (HPR.out _ HB7.out) (HSS.out _ HB7.out) rfl HTS.out w7.heap.size).mono ?_; rintro e w8 ⟨rfl, hb8⟩; have HB8 := Lib.hid (HB7.out.trans (hb8.mono HB7.out.size)); clear hb8))
  clear c0 c1 d0 d1
  go_wp2
  go_ret
  exact ⟨rfl, HBW6.out.trans (HB8.out.mono HBW6.out.size)⟩

set_option maxRecDepth 20000 in
set_option maxHeartbeats 4000000 in
theorem scanStepOne (s : Option Addr) (len cap : Nat) (z : List Int) (w : World) (h : RowIn .u8 w s len cap z) :
    Calls Try.prog 5 #[.slice s len cap] w fun e w' => e = .returned (.bool true) ∧ Below w.heap.size w w' := by
  have hb := bytes_of_row h
  have hm : len ≤ maxLen := Nat.le_trans hb.1 hb.2.1
  unfold maxLen at hm
  clear h
  by_cases hl : 1048576 < len
  · go_enter Try.func5, Try.ntmps5
    go_wp2
    go_ret
    exact ⟨rfl, Below.refl _ _⟩
  have hlB : decide ((1048576 : Int) < (len : Int)) = false := by simp; omega
  have HY := Lib.hid hb
  clear hb
  go_enter Try.func5, Try.ntmps5
  go_wp2_with fail
  refine (drawLKS s len cap w HY.out).mono ?_
  rintro e w0 ⟨gl, cl, L, gk, ck, K, b, cb, S, rfl, hll, hol, hkd, hkl, hok, hxb, htl, hos, hb0⟩
  obtain ⟨w1, hw1⟩ : ∃ w1, w1 = w0.alloc (.cells #[.int .i64 S.x, .slice (some ⟨b, 0, none⟩) S.t.length cb] 26) := ⟨_, rfl⟩
  have hst : StSc w1 w0.heap.size (some ⟨b, 0, none⟩) cb S := by rw [hw1]; exact stsc_new
  have hbA : Below w0.heap.size w0 w1 := by rw [hw1]; exact alB w0 _
  have HKS : Hid (∀ W, Below w1.heap.size w1 W → StSc W w0.heap.size (some ⟨b, 0, none⟩) cb S) := fun W hW => stsc_keep hst (hW.block _ (by rw [hw1]; simp))
  have HSO : Hid (∀ W, Below w1.heap.size w1 W → IntsAt W (some ⟨b, 0, none⟩) S.t) := fun W hW => own_intsS ((hos.keepB hbA (Nat.le_refl _)).keepB hW (Nat.le_refl _))
  have HKO : Hid (∀ W, Below w1.heap.size w1 W → IntsAt W (some ⟨gk, 0, none⟩) K) := fun W hW => own_intsS ((hok.keepB hbA (Nat.le_refl _)).keepB hW (Nat.le_refl _))
  have HLO : Hid (∀ W, Below w1.heap.size w1 W → LsAt W (some ⟨gl, 0, none⟩) L) := fun W hW => ((hol.keepB hbA (Nat.le_refl _)).keepB hW (Nat.le_refl _)).ls
  have HB1 : Hid (Below w.heap.size w w1) := by show Below _ _ _; rw [hw1]; exact hb0.alloc hb0.size _
  have HW1 := Lib.hid hw1
  have HLM := Lib.hid (len_max hll (by omega))
  have HKM := Lib.hid (len_max hkl (by omega))
  have HNM := Lib.hid (len_max htl (by omega))
  have HTS := Lib.hid (Nat.le_trans htl (show 66 ≤ 1048576 by omega))
  obtain ⟨c0, c1⟩ := hst
  obtain ⟨S', v, hR⟩ : ∃ S' v, stR L K S = (S', v) := ⟨_, _, rfl⟩
  have HOS : Hid (S'.t.length ≤ 1048576) := by show _ ≤ _; have := stR_len L K S; rw [hR] at this; simp only at this; omega
  have HR := Lib.hid hR
  clear hol hkd hok hos hb0 hw1 hR hbA
  go_wp2_with fail
  rw [← HW1.out]
  refine (pstep_as S' v _ _ _ _ _ _ _ _ _ L K S w1 (HLO.out _ (Below.refl _ _)) (HKO.out _ (Below.refl _ _)) (HSO.out _ (Below.refl _ _)) rfl rfl rfl HLM.out HKM.out HNM.out HR.out).mono ?_
  rintro e w2 ⟨aO, cO, rfl, hoo, hb2⟩
  obtain ⟨w3, hw3⟩ : ∃ w3, w3 = w2.alloc (.cells #[.int .i64 S'.x, .slice aO S'.t.length cO] 26) := ⟨_, rfl⟩
  have hbB : Below w2.heap.size w2 w3 := by rw [hw3]; exact alB w2 _
  have hst3 : StSc w3 w2.heap.size aO cO S' := by rw [hw3]; exact stsc_new
  have HKP : Hid (∀ W, Below w3.heap.size w3 W → StSc W w2.heap.size aO cO S') := fun W hW => stsc_keep hst3 (hW.block _ (by rw [hw3]; simp))
  have HPO : Hid (∀ W, Below w3.heap.size w3 W → OwnI W w1.heap.size aO cO S'.t) := fun W hW => (hoo.keepB hbB (Nat.le_refl _)).keepB hW (Nat.le_refl _)
  have HK3 : Hid (Below w1.heap.size w1 w3) := hb2.trans (hbB.mono hb2.size)
  have HCO := Lib.hid (own_capS hoo)
  have HW3 := Lib.hid hw3
  clear hoo hb2 hbB hst3 hw3 c0 c1
  obtain ⟨c0, c1⟩ := HKS.out w3 HK3.out
  rw [HW3.out] at c0 c1
  go_wp2_with fail
  rw [← HW3.out]
  refine (sstep_as2 S' v _ _ _ _ _ _ _ _ _ L K S w3 (HLO.out _ HK3.out) (HKO.out _ HK3.out) (HSO.out _ HK3.out) rfl rfl rfl HLM.out HKM.out HNM.out HR.out).mono ?_
  rintro e w4 ⟨aQ, cQ, rfl, hoq, hb4⟩
  obtain ⟨w5, hw5⟩ : ∃ w5, w5 = w4.alloc (.cells #[.int .i64 S'.x, .slice aQ S'.t.length cQ] 26) := ⟨_, rfl⟩
  have hbC : Below w4.heap.size w4 w5 := by rw [hw5]; exact alB w4 _
  have hst5 : StSc w5 w4.heap.size aQ cQ S' := by rw [hw5]; exact stsc_new
  have HKQ : Hid (∀ W, Below w5.heap.size w5 W → StSc W w4.heap.size aQ cQ S') := fun W hW => stsc_keep hst5 (hW.block _ (by rw [hw5]; simp))
  have HQO : Hid (∀ W, Below w5.heap.size w5 W → IntsAt W aQ S'.t) := fun W hW => own_intsS ((hoq.keepB hbC (Nat.le_refl _)).keepB hW (Nat.le_refl _))
  have HL5 : Hid (Below w3.heap.size w3 w5) := hb4.trans (hbC.mono hb4.size)
  have HK5 : Hid (Below w1.heap.size w1 w5) := HK3.out.trans (HL5.out.mono HK3.out.size)
  have HW5 := Lib.hid hw5
  clear hoq hb4 hbC hst5 hw5 c0 c1
  obtain ⟨c0, c1⟩ := HKP.out w5 HL5.out
  obtain ⟨d0, d1⟩ := HKQ.out w5 (Below.refl _ _)
  rw [HW5.out] at c0 c1 d0 d1
  have q1 : (v != v) = false := by cases v <;> rfl
  have q2 : (v == v) = true := by cases v <;> rfl
  go_wp2_with fail
  rw [← HW5.out]
  refine (sameSc_any aO aQ cO cQ S' w5 (own_intsS (HPO.out _ HL5.out)) (HQO.out _ (Below.refl _ _)) HOS.out).mono ?_
  rintro e w6 ⟨rfl, hb6⟩
  have HM6 := Lib.hid hb6
  have HL6 : Hid (Below w3.heap.size w3 w6) := HL5.out.trans (hb6.mono HL5.out.size)
  have HK6 : Hid (Below w1.heap.size w1 w6) := HK5.out.trans (hb6.mono HK5.out.size)
  have HBW6 : Hid (Below w.heap.size w w6) := HB1.out.trans (HK6.out.mono HB1.out.size)
  clear c0 c1 d0 d1 hb6
  cases v
  · obtain ⟨c0, c1⟩ := HKP.out w6 HL6.out
    obtain ⟨d0, d1⟩ := HKQ.out w6 HM6.out
    go_wp2_with fail
    refine (sameSc_any aO aQ cO cQ S' w6 (own_intsS (HPO.out _ HL6.out)) (HQO.out _ HM6.out) HOS.out).mono ?_
    rintro e w7 ⟨rfl, hb7⟩
    have HBW7 := Lib.hid (HBW6.out.trans (hb7.mono HBW6.out.size))
    clear c0 c1 d0 d1 hb7
    go_wp2
    go_ret
    exact ⟨rfl, HBW7.out⟩
  have hyes := stR_ok (L := L) (K := K) (s := S) (by rw [HR.out])
  obtain ⟨hok, hx64, hst⟩ := hyes
  have hS' : S' = stS L K S := by have h := HR.out; rw [hst] at h; injection h with h _; exact h.symm
  obtain ⟨hlv, hky, hsc⟩ := (stOk_iff _ _ _).1 hok
  have HV := Lib.hid hlv
  have HKY := Lib.hid hky
  have HSC := Lib.hid hsc
  have HST := Lib.hid hS'
  have hx0 := ((scB_iff S).1 hsc).2.1.1
  have hnx := nx_bd hlv hx64
  have hxx : S'.x = nxE L S.x := by rw [hS']; rfl
  have htt : S'.t = S.t ++ btw K S.x S'.x := by rw [hxx, hS']; rfl
  have HXX := Lib.hid hxx
  have HTT := Lib.hid htt
  rw [← hxx] at hnx
  clear hok hst hS' hlv hky hsc hxx htt q1 q2
  obtain ⟨c0, c1⟩ := HKS.out w6 HK6.out
  obtain ⟨d0, d1⟩ := HKP.out w6 HL6.out
  have hgd : Try.prog.eqGuardType Try.prog.depth 36 = false := by kernel_rfl
  obtain ⟨y, hy⟩ : ∃ y, y = ofL L S.x := ⟨_, rfl⟩
  have HYE := Lib.hid hy.symm
  have HQ0 : Hid (ofR L S.x = (y, true)) := by show _ = _; rw [ofR_yes HV.out ((ptB_iff _).2 ⟨by omega, by omega⟩), hy]
  clear hy d0 d1
  go_wp2_with fail
  refine (lof_any _ _ _ L S.x w6 (HLO.out w6 HK6.out) rfl HLM.out).mono ?_
  rintro e w7 ⟨rfl, hb7⟩
  rw [HQ0.out]
  obtain ⟨w8, hw8⟩ : ∃ w8, w8 = w7.alloc (.cells #[.int .i64 y.e, .int .i64 y.o, .int .i64 y.u] 36) := ⟨_, rfl⟩
  have hy8 : w8.heap[w7.heap.size]? = some (.cells #[.int .i64 y.e, .int .i64 y.o, .int .i64 y.u] 36 (0, 0)) := by rw [hw8]; exact heap_alloc_new _ _
  have HKY8 : Hid (∀ W, Below w8.heap.size w8 W → W.heap[w7.heap.size]? = some (.cells #[.int .i64 y.e, .int .i64 y.o, .int .i64 y.u] 36 (0, 0))) := fun W hW => (hW.block _ (by rw [hw8]; simp)).trans hy8
  have HL8 : Hid (Below w6.heap.size w6 w8) := by show Below _ _ _; rw [hw8]; exact hb7.alloc hb7.size _
  have HW8 := Lib.hid hw8
  clear hb7 hw8 hy8 c0 c1
  obtain ⟨c0, c1⟩ := HKS.out w8 (HK6.out.trans (HL8.out.mono HK6.out.size))
  obtain ⟨d0, d1⟩ := HKP.out w8 (HL6.out.trans (HL8.out.mono HL6.out.size))
  rw [HW8.out] at c0 c1 d0 d1
  go_wp2_with (fail)
  rw [← HW8.out]
  clear c0 c1 d0 d1
  go_loopw [12] (fun q wr => ∃ z : Int, q = .int .i64 z ∧ S.x ≤ z ∧ z ≤ S'.x ∧ Below w8.heap.size w8 wr) (fun q _ => (64 - intOf q).toNat)
  case atStart => exact ⟨S.x, rfl, by omega, by omega, Below.refl _ _⟩
  case round =>
    obtain ⟨q, rfl, hq0, hq1, hbel⟩ := hrel
    have HWR := Lib.hid (HL8.out.trans (hbel.mono HL8.out.size))
    have HBE := Lib.hid hbel
    obtain ⟨wo, rfl⟩ : ∃ x, x = wr := ⟨_, rfl⟩
    obtain ⟨d0, d1⟩ := HKP.out wo (HL6.out.trans (HWR.out.mono HL6.out.size))
    clear hbel
    by_cases hlt : q < S'.x
    · have HQ : Hid (ofR L q = (y, true)) := by show _ = _; rw [ofR_yes HV.out ((ptB_iff _).2 ⟨by omega, by omega⟩), nx_same HV.out hq0 (by rw [← HXX.out]; exact hlt) (by rw [← HXX.out]; omega), HYE.out]
      go_wp2_with fail
      refine (lof_any _ _ _ L q wo (HLO.out wo (HK6.out.trans (HWR.out.mono HK6.out.size))) rfl HLM.out).mono ?_
      rintro e w9 ⟨rfl, hb9⟩
      rw [HQ.out]
      have HB9 : Hid (∀ o, Below w8.heap.size w8 (w9.alloc o)) := fun o => (HBE.out.trans (hb9.mono HBE.out.size)).trans ((alB w9 o).mono (HBE.out.trans (hb9.mono HBE.out.size)).size)
      have y0 : ∀ o, (w9.alloc o).cell? ⟨w7.heap.size, 0, none⟩ = some (.int .i64 y.e) := fun o => by rw [cell_of_cells (HKY8.out _ (HB9.out o))]; rfl
      have y1 : ∀ o, (w9.alloc o).cell? ⟨w7.heap.size, 1, none⟩ = some (.int .i64 y.o) := fun o => by rw [cell_of_cells (HKY8.out _ (HB9.out o))]; rfl
      have y2 : ∀ o, (w9.alloc o).cell? ⟨w7.heap.size, 2, none⟩ = some (.int .i64 y.u) := fun o => by rw [cell_of_cells (HKY8.out _ (HB9.out o))]; rfl
      clear d0 d1 hb9
      go_wp2
      go_roundw
      case rel => exact ⟨q + 1, by go_num, by omega, by omega, HB9.out _⟩
      case measure => simp [intOf]; omega
    · go_wp2
      go_ret
      exact ⟨rfl, HBW6.out.trans (HWR.out.mono HBW6.out.size)⟩

set_option maxRecDepth 20000 in
set_option maxHeartbeats 4000000 in
theorem scanStepKeys (s : Option Addr) (len cap : Nat) (z : List Int) (w : World) (h : RowIn .u8 w s len cap z) :
    Calls Try.prog 4 #[.slice s len cap] w fun e w' => e = .returned (.bool true) ∧ Below w.heap.size w w' := by
  have hb := bytes_of_row h
  have hm : len ≤ maxLen := Nat.le_trans hb.1 hb.2.1
  unfold maxLen at hm
  clear h
  by_cases hl : 1048576 < len
  · go_enter Try.func4, Try.ntmps4
    go_wp2
    go_ret
    exact ⟨rfl, Below.refl _ _⟩
  have hlB : decide ((1048576 : Int) < (len : Int)) = false := by simp; omega
  have HY := Lib.hid hb
  clear hb
  go_enter Try.func4, Try.ntmps4
  go_wp2_with fail
  refine (drawLKS s len cap w HY.out).mono ?_
  rintro e w0 ⟨gl, cl, L, gk, ck, K, b, cb, S, rfl, hll, hol, hkd, hkl, hok, hxb, htl, hos, hb0⟩
  obtain ⟨w1, hw1⟩ : ∃ w1, w1 = w0.alloc (.cells #[.int .i64 S.x, .slice (some ⟨b, 0, none⟩) S.t.length cb] 26) := ⟨_, rfl⟩
  have hst : StSc w1 w0.heap.size (some ⟨b, 0, none⟩) cb S := by rw [hw1]; exact stsc_new
  have hbA : Below w0.heap.size w0 w1 := by rw [hw1]; exact alB w0 _
  have HKS : Hid (∀ W, Below w1.heap.size w1 W → StSc W w0.heap.size (some ⟨b, 0, none⟩) cb S) := fun W hW => stsc_keep hst (hW.block _ (by rw [hw1]; simp))
  have HSO : Hid (∀ W, Below w1.heap.size w1 W → IntsAt W (some ⟨b, 0, none⟩) S.t) := fun W hW => own_intsS ((hos.keepB hbA (Nat.le_refl _)).keepB hW (Nat.le_refl _))
  have HKO : Hid (∀ W, Below w1.heap.size w1 W → IntsAt W (some ⟨gk, 0, none⟩) K) := fun W hW => own_intsS ((hok.keepB hbA (Nat.le_refl _)).keepB hW (Nat.le_refl _))
  have HLO : Hid (∀ W, Below w1.heap.size w1 W → LsAt W (some ⟨gl, 0, none⟩) L) := fun W hW => ((hol.keepB hbA (Nat.le_refl _)).keepB hW (Nat.le_refl _)).ls
  have HB1 : Hid (Below w.heap.size w w1) := by show Below _ _ _; rw [hw1]; exact hb0.alloc hb0.size _
  have HW1 := Lib.hid hw1
  have HLM := Lib.hid (len_max hll (by omega))
  have HKM := Lib.hid (len_max hkl (by omega))
  have HNM := Lib.hid (len_max htl (by omega))
  have HTS := Lib.hid (Nat.le_trans htl (show 66 ≤ 1048576 by omega))
  obtain ⟨c0, c1⟩ := hst
  obtain ⟨S', v, hR⟩ : ∃ S' v, stR L K S = (S', v) := ⟨_, _, rfl⟩
  have HOS : Hid (S'.t.length ≤ 1048576) := by show _ ≤ _; have := stR_len L K S; rw [hR] at this; simp only at this; omega
  have HR := Lib.hid hR
  clear hol hkd hok hos hb0 hw1 hR hbA
  go_wp2_with fail
  rw [← HW1.out]
  refine (pstep_as S' v _ _ _ _ _ _ _ _ _ L K S w1 (HLO.out _ (Below.refl _ _)) (HKO.out _ (Below.refl _ _)) (HSO.out _ (Below.refl _ _)) rfl rfl rfl HLM.out HKM.out HNM.out HR.out).mono ?_
  rintro e w2 ⟨aO, cO, rfl, hoo, hb2⟩
  obtain ⟨w3, hw3⟩ : ∃ w3, w3 = w2.alloc (.cells #[.int .i64 S'.x, .slice aO S'.t.length cO] 26) := ⟨_, rfl⟩
  have hbB : Below w2.heap.size w2 w3 := by rw [hw3]; exact alB w2 _
  have hst3 : StSc w3 w2.heap.size aO cO S' := by rw [hw3]; exact stsc_new
  have HKP : Hid (∀ W, Below w3.heap.size w3 W → StSc W w2.heap.size aO cO S') := fun W hW => stsc_keep hst3 (hW.block _ (by rw [hw3]; simp))
  have HPO : Hid (∀ W, Below w3.heap.size w3 W → OwnI W w1.heap.size aO cO S'.t) := fun W hW => (hoo.keepB hbB (Nat.le_refl _)).keepB hW (Nat.le_refl _)
  have HK3 : Hid (Below w1.heap.size w1 w3) := hb2.trans (hbB.mono hb2.size)
  have HCO := Lib.hid (own_capS hoo)
  have HW3 := Lib.hid hw3
  clear hoo hb2 hbB hst3 hw3 c0 c1
  obtain ⟨c0, c1⟩ := HKS.out w3 HK3.out
  rw [HW3.out] at c0 c1
  go_wp2_with fail
  rw [← HW3.out]
  refine (sstep_as2 S' v _ _ _ _ _ _ _ _ _ L K S w3 (HLO.out _ HK3.out) (HKO.out _ HK3.out) (HSO.out _ HK3.out) rfl rfl rfl HLM.out HKM.out HNM.out HR.out).mono ?_
  rintro e w4 ⟨aQ, cQ, rfl, hoq, hb4⟩
  obtain ⟨w5, hw5⟩ : ∃ w5, w5 = w4.alloc (.cells #[.int .i64 S'.x, .slice aQ S'.t.length cQ] 26) := ⟨_, rfl⟩
  have hbC : Below w4.heap.size w4 w5 := by rw [hw5]; exact alB w4 _
  have hst5 : StSc w5 w4.heap.size aQ cQ S' := by rw [hw5]; exact stsc_new
  have HKQ : Hid (∀ W, Below w5.heap.size w5 W → StSc W w4.heap.size aQ cQ S') := fun W hW => stsc_keep hst5 (hW.block _ (by rw [hw5]; simp))
  have HQO : Hid (∀ W, Below w5.heap.size w5 W → IntsAt W aQ S'.t) := fun W hW => own_intsS ((hoq.keepB hbC (Nat.le_refl _)).keepB hW (Nat.le_refl _))
  have HL5 : Hid (Below w3.heap.size w3 w5) := hb4.trans (hbC.mono hb4.size)
  have HK5 : Hid (Below w1.heap.size w1 w5) := HK3.out.trans (HL5.out.mono HK3.out.size)
  have HW5 := Lib.hid hw5
  clear hoq hb4 hbC hst5 hw5 c0 c1
  obtain ⟨c0, c1⟩ := HKP.out w5 HL5.out
  obtain ⟨d0, d1⟩ := HKQ.out w5 (Below.refl _ _)
  rw [HW5.out] at c0 c1 d0 d1
  have q1 : (v != v) = false := by cases v <;> rfl
  have q2 : (v == v) = true := by cases v <;> rfl
  go_wp2_with fail
  rw [← HW5.out]
  refine (sameSc_any aO aQ cO cQ S' w5 (own_intsS (HPO.out _ HL5.out)) (HQO.out _ (Below.refl _ _)) HOS.out).mono ?_
  rintro e w6 ⟨rfl, hb6⟩
  have HM6 := Lib.hid hb6
  have HL6 : Hid (Below w3.heap.size w3 w6) := HL5.out.trans (hb6.mono HL5.out.size)
  have HK6 : Hid (Below w1.heap.size w1 w6) := HK5.out.trans (hb6.mono HK5.out.size)
  have HBW6 : Hid (Below w.heap.size w w6) := HB1.out.trans (HK6.out.mono HB1.out.size)
  clear c0 c1 d0 d1 hb6
  cases v
  · obtain ⟨c0, c1⟩ := HKP.out w6 HL6.out
    obtain ⟨d0, d1⟩ := HKQ.out w6 HM6.out
    go_wp2_with fail
    refine (sameSc_any aO aQ cO cQ S' w6 (own_intsS (HPO.out _ HL6.out)) (HQO.out _ HM6.out) HOS.out).mono ?_
    rintro e w7 ⟨rfl, hb7⟩
    have HBW7 := Lib.hid (HBW6.out.trans (hb7.mono HBW6.out.size))
    clear c0 c1 d0 d1 hb7
    go_wp2
    go_ret
    exact ⟨rfl, HBW7.out⟩
  have hyes := stR_ok (L := L) (K := K) (s := S) (by rw [HR.out])
  obtain ⟨hok, hx64, hst⟩ := hyes
  have hS' : S' = stS L K S := by have h := HR.out; rw [hst] at h; injection h with h _; exact h.symm
  obtain ⟨hlv, hky, hsc⟩ := (stOk_iff _ _ _).1 hok
  have HV := Lib.hid hlv
  have HKY := Lib.hid hky
  have HSC := Lib.hid hsc
  have HST := Lib.hid hS'
  have hx0 := ((scB_iff S).1 hsc).2.1.1
  have hnx := nx_bd hlv hx64
  have hxx : S'.x = nxE L S.x := by rw [hS']; rfl
  have htt : S'.t = S.t ++ btw K S.x S'.x := by rw [hxx, hS']; rfl
  have HXX := Lib.hid hxx
  have HTT := Lib.hid htt
  rw [← hxx] at hnx
  clear hok hst hS' hlv hky hsc hxx htt q1 q2
  obtain ⟨c0, c1⟩ := HKS.out w6 HK6.out
  obtain ⟨d0, d1⟩ := HKP.out w6 HL6.out
  have HH0 : Hid (IntsSoFar [] w6 (.slice (some ⟨w6.heap.size, 0, none⟩) 0 0) (w6.alloc (.cells #[] 3))) := sofar_new w6 _ rfl
  obtain ⟨W6, hW6⟩ : ∃ W6, W6 = w6.alloc (.cells #[] 3) := ⟨_, rfl⟩
  rw [← hW6] at HH0
  have HW6 := Lib.hid hW6
  have hlen : S'.t.length = S.t.length + (btw K S.x S'.x).length := by rw [HTT.out, List.length_append]
  have HLE := Lib.hid hlen
  clear hW6 c0 c1 d0 d1 hx0 hx64 hnx hll hxb hlen
  go_wp2_with (fail)
  rw [← HW6.out]
  obtain ⟨lk, hlk⟩ : ∃ lk, lk = K.length := ⟨_, rfl⟩
  rw [← hlk] at hkl ⊢
  have HLK := Lib.hid hlk.symm
  clear hlk
  go_loopw [10, 11] (fun o i wr => ∃ k : Nat, k ≤ lk ∧ i = .int .i64 k ∧ IntsSoFar (btw (K.take k) S.x S'.x) w6 o wr) (fun _ i _ => lk - (intOf i).toNat)
  case atStart => exact ⟨0, by omega, rfl, HH0.out⟩
  case round =>
    obtain ⟨k, hk, rfl, g, cap', rfl, hown, hbel⟩ := hrel
    have HO := Lib.hid hown
    have hgl := hown.lt
    have HBE := Lib.hid hbel
    obtain ⟨wo, rfl⟩ : ∃ x, x = wr := ⟨_, rfl⟩
    have hlm := btw_len (K.take k) S.x S'.x
    have htk : (K.take k).length ≤ k := by rw [List.length_take]; omega
    obtain ⟨Y, hY⟩ : ∃ Y, Y = btw (K.take k) S.x S'.x := ⟨_, rfl⟩
    rw [← hY] at HO hlm ⊢
    obtain ⟨m, hm⟩ : ∃ m, m = Y.length := ⟨_, rfl⟩
    rw [← hm] at hlm ⊢
    have HML := Lib.hid hm.symm
    have HYE := Lib.hid hY
    clear hown hbel hY hm
    by_cases hlt : k < lk
    · obtain ⟨d0, d1⟩ := HKP.out wo (HL6.out.trans (HBE.out.mono HL6.out.size))
      obtain ⟨c0, c1⟩ := HKS.out wo (HK6.out.trans (HBE.out.mono HK6.out.size))
      obtain ⟨bk, ofk, hak, hb0, hcells⟩ : ∃ bb off, (some ⟨gk, 0, none⟩ : Option Addr) = some ⟨bb, off, none⟩ ∧ bb < wo.heap.size ∧ ∀ i, i < K.length → wo.cell? ⟨bb, off + i, none⟩ = some (.int .i64 (gt K i)) := by
        rcases HKO.out wo (HK6.out.trans (HBE.out.mono HK6.out.size)) with h0 | h0
        · have := HLK.out; rw [h0] at this; simp at this; omega
        · exact h0
      injection hak with hak
      injection hak with ha1 ha2
      subst ha1
      subst ha2
      have hz := hcells k (by rw [HLK.out]; exact hlt)
      rw [Nat.zero_add] at hz
      have HTK := Lib.hid (btw_take_s (K := K) (k := k) (by rw [HLK.out]; exact hlt) S.x S'.x)
      obtain ⟨y, hyy⟩ : ∃ y, y = gt K k := ⟨_, rfl⟩
      rw [← hyy] at hz HTK
      rw [← HYE.out] at HTK
      have k0 : (0 : Int) ≤ (k : Int) := by omega
      have k1 : (k : Int) < (lk : Int) := by omega
      clear hcells hyy d1 c1 hb0
      cases ha : decide (S.x ≤ y)
      · have HN : Hid (btw (K.take (k + 1)) S.x S'.x = Y) := by show _ = _; rw [HTK.out, ha]; simp
        go_wp2_with fail
        go_quiet (fail)
        go_wp2
        go_roundw
        case rel => exact ⟨k + 1, by omega, by go_num, by rw [HN.out]; exact ⟨g, cap', by rw [HML.out], HO.out.kept fun _ _ _ => rfl, HBE.out.trans ((Same.below ⟨_, rfl⟩ wo.heap.size).mono HBE.out.size)⟩⟩
        case measure => simp [intOf]; omega
      cases hb : decide (y < S'.x)
      · have HN : Hid (btw (K.take (k + 1)) S.x S'.x = Y) := by show _ = _; rw [HTK.out, hb]; simp
        have ha' : S.x ≤ y := of_decide_eq_true ha
        have hb' : ¬ y < S'.x := of_decide_eq_false hb
        clear ha hb
        go_wp2_with fail
        go_quiet (fail)
        go_wp2
        go_roundw
        case rel => exact ⟨k + 1, by omega, by go_num, by rw [HN.out]; exact ⟨g, cap', by rw [HML.out], HO.out.kept fun _ _ _ => rfl, HBE.out.trans ((Same.below ⟨_, rfl⟩ wo.heap.size).mono HBE.out.size)⟩⟩
        case measure => simp [intOf]; omega
      · have HN : Hid (btw (K.take (k + 1)) S.x S'.x = Y ++ [y]) := by show _ = _; rw [HTK.out, ha, hb]; simp
        have ha' : S.x ≤ y := of_decide_eq_true ha
        have hb' : y < S'.x := of_decide_eq_true hb
        clear ha hb
        go_wp2_with fail
        go_quiet (fail)
        obtain ⟨wa, hwa⟩ : ∃ wa, wa = wo.drewN nq := ⟨_, rfl⟩
        rw [← hwa]
        have hsa : Same wo wa := ⟨nq, hwa⟩
        have HOA : Hid (OwnI wa w6.heap.size (some ⟨g, 0, none⟩) cap' Y) := by show OwnI _ _ _ _ _; rw [hwa]; exact HO.out.kept fun _ _ _ => rfl
        have hbelA : Below w6.heap.size w6 wa := HBE.out.trans ((hsa.below wo.heap.size).mono HBE.out.size)
        have hws := hbelA.size
        have hz2 := (hsa.cell _).trans hz
        have HBA := Lib.hid hbelA
        clear hwa hsa c0 d0 hz hbelA
        go_wp2_with (at_builtin; have h1 := (HOA.out.keepB (alB wa (.cells #[.int .i64 y] 3)) (Nat.le_refl _)); have h2 := src_one (heap_alloc_new wa (.cells #[.int .i64 y] 3)); unfold OwnI at h1; rw [HML.out] at h1; refine wl_app _ (by rfl) _ _ (by rfl) w6.heap.size g m cap' (vals Y) (by rfl) h1 ⟨wa.heap.size, 0, none⟩ 1 1 [.int .i64 y] (by rfl) rfl h2 (by simp [Value.oneCell']) (m + 1) (vals (Y ++ [y])) rfl (by simp [vals]) (by omega) (by simp; omega) ?_; intro g' c' w9 hown3 hgr3 hat3; have H3 := Lib.hid (sofar_next (zs := Y) (z := y) HBA.out (alB wa _) hgr3 hgl.1 (by rw [HML.out]; exact hown3)); clear hown3 hgr3 hat3 h1 h2)
        go_roundw
        case rel => exact ⟨k + 1, by omega, by go_num, by rw [HN.out]; have := H3.out; rw [HML.out] at this; exact this⟩
        case measure => simp [intOf]; omega
    · have hKT : K.take k = K := List.take_of_length_le (by rw [HLK.out]; omega)
      rw [hKT] at HYE
      have hm2 : S'.t.length - S.t.length = m := by have := HLE.out; rw [← HYE.out, HML.out] at this; omega
      have hle : S.t.length ≤ S'.t.length := by have := HLE.out; omega
      obtain ⟨d0, d1⟩ := HKP.out wo (HL6.out.trans (HBE.out.mono HL6.out.size))
      obtain ⟨c0, c1⟩ := HKS.out wo (HK6.out.trans (HBE.out.mono HK6.out.size))
      have HSU : Hid (IntsAt wo (slS aO cO S.t.length) Y) := by
        show IntsAt _ _ _
        have h := own_intsS (HPO.out wo (HL6.out.trans (HBE.out.mono HL6.out.size)))
        have hc := HCO.out
        rw [HTT.out, ← HYE.out] at h hc
        exact ints_sufS h hc
      have HOI := Lib.hid (own_intsS HO.out)
      have hsl : ∀ w, (Instr.slice 24 (.slice aO S'.t.length cO) (some (.int .i64 S.t.length)) none none).run Try.prog w = .ok (.slice (slS aO cO S.t.length) m (cO - S.t.length)) w := fun w => by
        rw [run_slSL w aO S'.t.length cO S.t.length hle, hm2]
      have hmm : m ≤ 1048576 := by omega
      have HMM := Lib.hid hmm
      clear hKT hm2 d0 c0 hle
      go_wp2_with fail
      refine (sameI_as (slS aO cO S.t.length) _ m _ _ Y wo HSU.out HOI.out HML.out HMM.out wo.heap.size).mono ?_
      rintro e w8 ⟨rfl, hb8⟩
      have HB8 := Lib.hid (HBE.out.trans (hb8.mono HBE.out.size))
      clear hb8 c1 d1
      go_wp2
      go_ret
      exact ⟨rfl, HBW6.out.trans (HB8.out.mono HBW6.out.size)⟩

end Go.Proofs.Ytenhaccdiamagaa
