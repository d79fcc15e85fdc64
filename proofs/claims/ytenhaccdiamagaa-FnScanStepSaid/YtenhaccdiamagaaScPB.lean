/- Scans, as the program performs them: the keys that were told, and a scan that is taken up again. -/
import Derived.Test.YtenhaccdiamagaaScPA
namespace Go.Proofs.Ytenhaccdiamagaa
open Go.RowKit
set_option linter.unusedVariables false
attribute [local go_sem ↓] Go.wp_at_zero Go.wp_at_succ

/-- two elements exchanged -/
def xchI (zs : List Int) (i j : Nat) : List Int := (zs.set i (gt zs j)).set j (gt zs i)
theorem gt_setP (zs : List Int) (i : Nat) (v : Int) (hi : i < zs.length) (j : Nat) : gt (zs.set i v) j = if j = i then v else gt zs j := by
  unfold gt
  rw [List.getD_eq_getElem?_getD, List.getD_eq_getElem?_getD, List.getElem?_set]
  by_cases h : j = i
  · subst h; simp [hi]
  · rw [if_neg h, if_neg (fun e => h e.symm)]
theorem xchI_gt {zs : List Int} {i j : Nat} (hi : i < zs.length) (hj : j < zs.length) (k : Nat) : gt (xchI zs i j) k = if k = j then gt zs i else if k = i then gt zs j else gt zs k := by
  unfold xchI
  rw [gt_setP _ _ _ (by simpa using hj), gt_setP _ _ _ hi]
/-- k pairs are exchanged -/
def RvAt (zs M : List Int) (k : Nat) : Prop := M.length = zs.length ∧ ∀ t, t < zs.length → gt M t = if t < k ∨ zs.length - k ≤ t then gt zs (zs.length - 1 - t) else gt zs t
theorem rv_zero (zs : List Int) : RvAt zs zs 0 := ⟨rfl, fun t ht => by rw [if_neg (by omega)]⟩
theorem rv_next {zs M : List Int} {k : Nat} (h : RvAt zs M k) (hk : 2 * k + 1 < zs.length) : RvAt zs (xchI M k (zs.length - 1 - k)) (k + 1) := by
  obtain ⟨h1, h2⟩ := h
  refine ⟨by simp [xchI, h1], fun t ht => ?_⟩
  rw [xchI_gt (by omega) (by omega)]
  by_cases e1 : t = zs.length - 1 - k
  · rw [if_pos e1, h2 k (by omega), if_neg (by omega), if_pos (by omega)]
    congr 1; omega
  · rw [if_neg e1]
    by_cases e2 : t = k
    · rw [if_pos e2, h2 _ (by omega), if_neg (by omega), if_pos (by omega), e2]
    · rw [if_neg e2, h2 t ht]
      by_cases e3 : t < k ∨ zs.length - k ≤ t
      · rw [if_pos e3, if_pos (by omega)]
      · rw [if_neg e3, if_neg (by omega)]
theorem rv_end {zs M : List Int} {k : Nat} (h : RvAt zs M k) (hk : zs.length ≤ 2 * k + 1) : M = zs.reverse := by
  obtain ⟨h1, h2⟩ := h
  refine List.ext_getElem (by simp [h1]) fun t h3 h4 => ?_
  rw [List.getElem_reverse, ← gt_get h3, h2 t (by omega), ← gt_get]
  split
  · rfl
  · congr 1; omega
theorem kept_cellP (w : World) (g i : Nat) (u : Value) : Kept g w (w.setCell ⟨g, i, none⟩ u) := ⟨rfl, rfl, rfl, by simp [World.setCell], fun q hq => heap_set_ne _ _ _ _ _ hq⟩
theorem kept_drewP {q : Nat} {a b : World} (h : Kept q a b) : Kept q a b.drew := ⟨h.os, h.tape, h.output, h.size, h.block⟩

set_option maxHeartbeats 4000000 in
theorem prev_any (base g n cap : Nat) (zs : List Int) (w : World) (h : OwnI w base (some ⟨g, 0, none⟩) cap zs) (hz : zs.length = n) (hm : n ≤ 1000000) :
    Calls Try.prog 75 #[.slice (some ⟨g, 0, none⟩) n cap] w fun e w' => e = .returned (.tuple #[]) ∧ OwnI w' base (some ⟨g, 0, none⟩) cap zs.reverse ∧ Kept g w w' := by
  have HO := Lib.hid h
  have HZ := Lib.hid hz
  have hnc : n ≤ cap := by have := h.cap_le.1; omega
  have hcm : cap ≤ 9223372036854775807 := by have := h.cap_le.2; unfold maxLen at this; omega
  clear h hz
  go_enter Try.func75, Try.ntmps75
  go_wp2
  go_loopw [2, 3] (fun i j wr => ∃ (k : Nat) (M : List Int), 2 * k ≤ n + 1 ∧ i = .int .i64 k ∧ j = .int .i64 ((n : Int) - 1 - k) ∧ Hid (RvAt zs M k) ∧ Hid (OwnI wr base (some ⟨g, 0, none⟩) cap M) ∧ Kept g w wr) (fun i _ _ => n - (intOf i).toNat)
  case atStart => exact ⟨0, zs, by omega, rfl, by go_num, rv_zero zs, HO.out, Kept.refl _ _⟩
  case round =>
    obtain ⟨k, M, hk, rfl, rfl, HR, HM, hkp⟩ := hrel
    by_cases hlt : 2 * k + 1 < n
    · obtain ⟨m, hm2⟩ : ∃ m : Nat, m = n - 1 - k := ⟨_, rfl⟩
      have hme : (n : Int) - 1 - (k : Int) = (m : Int) := by omega
      rw [hme]
      have hkm : k < m := by omega
      have hmn : m < n := by omega
      have HL : Hid (M.length = n) := HR.out.1.trans HZ.out
      have hme2 : (m : Int) - 1 = (n : Int) - 1 - ((k + 1 : Nat) : Int) := by omega
      have HME := Lib.hid hme2
      have HM2 := Lib.hid hm2
      have HN : Hid (RvAt zs (xchI M k m) (k + 1)) := by
        have := rv_next HR.out (by rw [HZ.out]; exact hlt)
        rw [HZ.out, ← hm2] at this; exact this
      obtain ⟨cs, hbk, hcs⟩ := HM.out.blk
      obtain ⟨g', hg', _, _, hcell, hfz⟩ := HM.out.at_ (by rw [HL.out]; omega)
      injection hg' with hg'; injection hg' with hg' _; subst hg'
      have x0 := hcell k (by rw [HL.out]; omega)
      have x1 := hcell m (by rw [HL.out]; omega)
      have f0 := hfz k
      have f1 := hfz m
      have i0 : (0 : Int) ≤ (k : Int) := by omega
      have i1 : (k : Int) < (n : Int) := by omega
      have j0 : (0 : Int) ≤ (m : Int) := by omega
      have j1 : (m : Int) < (n : Int) := by omega
      have hij : ¬ k = m := by omega
      have hji : ¬ m = k := by omega
      have HKP := Lib.hid hkp
      obtain ⟨u, hu⟩ : ∃ u, u = gt M k := ⟨_, rfl⟩
      obtain ⟨v, hv⟩ : ∃ v, v = gt M m := ⟨_, rfl⟩
      rw [← hu] at x0
      rw [← hv] at x1
      have HU := Lib.hid hu
      have HV := Lib.hid hv
      have HSW : Hid (∀ U, OwnI U base (some ⟨g, 0, none⟩) cap ((M.set k v).set m u) → OwnI U base (some ⟨g, 0, none⟩) cap (xchI M k m)) := fun U hU => by
        show OwnI U _ _ _ ((M.set k (gt M m)).set m (gt M k))
        rw [← HU.out, ← HV.out]; exact hU
      clear hcell hfz hbk hcs hkp hm2 hme hme2 hu hv
      go_wp2
      go_region
      all_goals
        go_wp2
        go_roundw
        case rel =>
          refine ⟨k + 1, xchI M k m, by omega, by go_num, by have := HM2.out; go_num, HN, ?_, ?_⟩
          · have h1 := HM.out.set (i := k) (by rw [HL.out]; omega) v
            have h2 := h1.set (i := m) (by rw [List.length_set, HL.out]; omega) u
            exact (HSW.out _ h2).kept (fun _ _ _ => rfl)
          · exact kept_drewP ((HKP.out.trans (kept_cellP _ _ _ _)).trans (kept_cellP _ _ _ _))
        case measure => simp [intOf]; omega
    · have HE : Hid (M = zs.reverse) := rv_end HR.out (by rw [HZ.out]; omega)
      have hge : (n : Int) - 1 - (k : Int) ≤ (k : Int) := by omega
      go_wp2
      go_end0
      exact ⟨rfl, by rw [← HE.out]; exact HM.out, hkp⟩

def slLen : Value → Nat
  | .slice _ n _ => n
  | _ => 0
theorem slLen_sl (a : Option Addr) (n c : Nat) : slLen (.slice a n c) = n := rfl
theorem rev_len {zs ds rs : List Int} (h : ds ++ rs = zs.reverse) : ds.length + rs.length = zs.length := by rw [← List.length_append, h, List.length_reverse]
set_option maxHeartbeats 2000000 in
theorem ptold_any (g : Nat) (x : Int) (zs : List Int) (w : World) (h : SgAt w g x zs) (hz : zs.length ≤ 1000) :
    Calls Try.prog 56 #[.pointer (some ⟨g, 0, none⟩)] w (NewInts zs w) := by
  obtain ⟨p, hp, hl⟩ := h.sg
  have HCS : Hid (∀ o, (w.alloc o).cell? ⟨g, 1, none⟩ = some (.pointer p)) := fun o => (cell2s ((Below.heap_alloc w o g (heap_lt hp)).trans hp)).2
  have c1 := HCS.out
  have H0 : Hid (IntsSoFar [] w (.slice (some ⟨w.heap.size, 0, none⟩) 0 0) (w.alloc (.cells #[] 3))) := sofar_new w _ rfl
  have HL := Lib.hid hl
  have HZ := Lib.hid hz
  clear hp hl h HCS hz
  go_enter Try.func56, Try.ntmps56
  go_wp2
  go_loopw [3, 4] (fun o t wr => ∃ (ds rs : List Int) (q : Option Addr), t = .pointer q ∧ Hid (ds ++ rs = zs.reverse) ∧ Hid (Lnk w g q rs) ∧ IntsSoFar ds w o wr) (fun o _ _ => zs.length - slLen o)
  case atStart => exact ⟨[], zs.reverse, p, rfl, rfl, HL, H0.out⟩
  case round =>
    obtain ⟨ds, rs, q, rfl, HD, HR, g1, c, rfl, hown, hbel⟩ := hrel
    have HO := Lib.hid hown
    have hgl := hown.lt
    obtain ⟨k, hkl⟩ : ∃ k, ds.length = k := ⟨_, rfl⟩
    rw [hkl]
    have HKL := Lib.hid hkl
    clear hown hkl
    cases rs with
    | nil =>
      obtain rfl : q = none := HR.out
      have HE : Hid (ds.reverse = zs) := by
        have := HD.out
        rw [List.append_nil] at this
        show ds.reverse = zs
        rw [this, List.reverse_reverse]
      have hk : k ≤ 1000 := by have h1 := rev_len HD.out; have h2 := HKL.out; have h3 := HZ.out; simp at h1; omega
      go_wp2_with fail
      refine (prev_any w.heap.size g1 k c ds wr HO.out HKL.out (by omega)).mono ?_
      rintro e w2 ⟨rfl, ho2, hk2⟩
      have HO2 := Lib.hid ho2
      have HB2 := Lib.hid (hbel.trans (hk2.below hgl.1))
      clear ho2 hk2
      go_wp2
      go_ret
      rw [HE.out] at HO2
      have hl2 : zs.length = k := by rw [← HE.out, List.length_reverse]; exact HKL.out
      exact ⟨g1, c, by rw [hl2]; rfl, HO2.out, HB2.out⟩
    | cons z rs =>
      obtain ⟨b, q', rfl, hgb, hbk, hr⟩ := HR.out
      have hbl := heap_lt hbk
      obtain ⟨d0, d1⟩ := cell2s ((hbel.block b hbl).trans hbk)
      have HDB : Hid (∀ U, Below w.heap.size w U → U.cell? ⟨b, 1, none⟩ = some (.pointer q')) := fun U hU => (cell2s ((hU.block b hbl).trans hbk)).2
      have HR2 := Lib.hid hr
      have HD2 : Hid ((ds ++ [z]) ++ rs = zs.reverse) := by show _ = _; rw [List.append_assoc]; exact HD.out
      have hk : k + 1 ≤ zs.length := by have h1 := rev_len HD.out; have h2 := HKL.out; simp at h1; omega
      have hk2 : k ≤ 1000 := by have := HZ.out; omega
      have HK2 := Lib.hid hk
      have hws := hbel.size
      clear hbk hr hgb hk
      go_wp2_with (at_builtin; have h1 := (HO.out.keepB (alB wr (.cells #[.int .i64 z] 3)) (Nat.le_refl _)); have h2 := src_one (heap_alloc_new wr (.cells #[.int .i64 z] 3)); unfold OwnI at h1; rw [HKL.out] at h1; refine wl_app _ (by rfl) _ _ (by rfl) w.heap.size g1 k c (vals ds) (by rfl) h1 ⟨wr.heap.size, 0, none⟩ 1 1 [.int .i64 z] (by rfl) rfl h2 (by simp [Value.oneCell']) (k + 1) (vals (ds ++ [z])) rfl (by simp [vals]) (by omega) (by simp; omega) ?_; intro g' c' w3 hown3 hgr3 hat3; have H3 := Lib.hid (sofar_next (zs := ds) (z := z) hbel (alB wr _) hgr3 hgl.1 (by rw [HKL.out]; exact hown3)); have d3 := HDB.out w3 H3.out.choose_spec.choose_spec.2.2; clear hown3 hgr3 hat3 h1 h2)
      go_roundw
      case rel => exact ⟨ds ++ [z], rs, q', rfl, HD2, HR2, by have := H3.out; rw [HKL.out] at this; exact this⟩
      case measure => have := HK2.out; simp [slLen]; omega

set_option maxHeartbeats 2000000 in
theorem presume_any (a : Option Addr) (n cap : Nat) (s : Sc) (w : World) (h : IntsAt w a s.t) (hz : s.t.length = n) (hm : n ≤ maxLen) :
    Calls Try.prog 54 #[.agg #[.int .i64 s.x, .slice a n cap]] w fun e w' => ∃ g, e = .returned (.pointer (some ⟨g, 0, none⟩)) ∧ w.heap.size ≤ g ∧ SgAt w' g s.x s.t ∧ Below w.heap.size w w' := by
  obtain ⟨x, ts⟩ := s
  simp only at *
  unfold maxLen at hm
  obtain ⟨W, hW⟩ : ∃ W, W = w.alloc (.cells #[.int .i64 x, .slice a n cap] 26) := ⟨_, rfl⟩
  have hB : Below w.heap.size w W := by rw [hW]; exact alB w _
  have hh : W.heap[w.heap.size]? = some (.cells #[.int .i64 x, .slice a n cap] 26 (0, 0)) := by rw [hW]; exact heap_alloc_new w _
  obtain ⟨V, hV⟩ : ∃ V, V = W.alloc (.cells #[.int .i64 x, .pointer none] 74) := ⟨_, rfl⟩
  have hBV : Below W.heap.size W V := by rw [hV]; exact alB W _
  have hsz : W.heap.size = w.heap.size + 1 := by rw [hW]; simp
  have hg : V.heap[W.heap.size]? = some (.cells #[.int .i64 x, .pointer none] 74 (0, 0)) := by rw [hV]; exact heap_alloc_new W _
  have h2 := (hBV.block _ (heap_lt hh)).trans hh
  obtain ⟨c0, c1⟩ := cell2s hh
  obtain ⟨e0, e1⟩ := cell2s h2
  have HS0 : Hid (SgAt V (w.heap.size + 1) x []) := by rw [← hsz]; exact ⟨none, hg, rfl⟩
  have HBW := Lib.hid hB
  have HBV := Lib.hid (hB.trans (hBV.mono hB.size))
  have HIB : Hid (∀ U, Below (w.heap.size + 1) V U → IntsAt U a ts) := fun U hU => h.keepB ((hB.trans (hBV.mono hB.size)).trans (hU.mono (by omega))) (Nat.le_refl _)
  have HZ := Lib.hid hz
  have HW := Lib.hid hW
  have HV := Lib.hid hV
  clear hB hBV hg hh h2 h hz hW hV hsz
  go_enter Try.func54, Try.ntmps54
  go_wp2_with fail
  rw [← HW.out]
  go_wp2_with fail
  rw [← HV.out]
  go_wp2
  go_loopw [13] (fun i wr => ∃ k : Nat, k ≤ n ∧ i = .int .i64 k ∧ SgAt wr (w.heap.size + 1) x (ts.take k) ∧ Below (w.heap.size + 1) V wr) (fun i _ => n - (intOf i).toNat)
  case atStart => exact ⟨0, by omega, rfl, by simpa using HS0.out, Below.refl _ _⟩
  case round =>
    obtain ⟨k, hk, rfl, hs, hb⟩ := hrel
    have HSR := Lib.hid hs
    have HBR := Lib.hid hb
    clear hs hb
    by_cases hlt : k < n
    · have hkl : k < ts.length := by rw [HZ.out]; exact hlt
      obtain ⟨b, off, rfl, hc⟩ : ∃ b off, a = some ⟨b, off, none⟩ ∧ wr.cell? ⟨b, off + k, none⟩ = some (.int .i64 (gt ts k)) := by
        rcases HIB.out wr HBR.out with h0 | ⟨b, off, ha, hb, hc⟩
        · rw [h0] at hkl; simp at hkl
        · exact ⟨b, off, ha, hc k hkl⟩
      have HT : Hid (ts.take (k + 1) = ts.take k ++ [gt ts k]) := by show _ = _; rw [List.take_add_one, List.getElem?_eq_getElem hkl, gt_get hkl]; rfl
      obtain ⟨z, hzv⟩ : ∃ z, z = gt ts k := ⟨_, rfl⟩
      rw [← hzv] at hc HT
      clear hzv hkl
      have k0 : (0 : Int) ≤ (k : Int) := by omega
      have k1 : (k : Int) < (n : Int) := by omega
      go_wp2_with fail
      refine (ptell_any (w.heap.size + 1) x z _ wr HSR.out).mono ?_
      rintro e w3 ⟨rfl, hs3, hb3⟩
      have HS3 := Lib.hid hs3
      have HB3 := Lib.hid (HBR.out.trans hb3)
      clear hs3 hb3
      go_wp2
      go_roundw
      case rel => exact ⟨k + 1, by omega, by go_num, by rw [HT.out]; exact HS3.out, HB3.out⟩
      case measure => simp [intOf]; omega
    · have HE : Hid (ts.take k = ts) := List.take_of_length_le (by rw [HZ.out]; omega)
      go_wp2
      go_ret
      exact ⟨w.heap.size + 1, rfl, by omega, by have := HSR.out; rw [HE.out] at this; exact this, HBV.out.trans (HBR.out.mono (by omega))⟩
end Go.Proofs.Ytenhaccdiamagaa
