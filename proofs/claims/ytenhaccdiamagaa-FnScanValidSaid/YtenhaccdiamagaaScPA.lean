/- Scans, as the program performs them: the told keys are a linked list, from the last one back to the first one. -/
import Derived.Test.YtenhaccdiamagaaScS3
import Derived.Deep.RegionWith
namespace Go.Proofs.Ytenhaccdiamagaa
open Go.RowKit
set_option linter.unusedVariables false
attribute [local go_sem ↓] Go.wp_at_zero Go.wp_at_succ

/-! ### keys that ascend below a limit -/
def PbTo (zs : List Int) (x : Int) (k : Nat) : Prop := ∀ j, j < k → okAt zs j = true ∧ gt zs j < x
def prevI (zs : List Int) (k : Nat) : Int := if k = 0 then -1 else gt zs (k - 1)
theorem prevI_succ (zs : List Int) (k : Nat) : prevI zs (k + 1) = gt zs k := by unfold prevI; rw [if_neg (by omega), Nat.add_sub_cancel]
theorem pb_prev {zs : List Int} {x : Int} {k : Nat} (h : PbTo zs x k) : -1 ≤ prevI zs k := by
  unfold prevI
  split
  · omega
  · have := ((okAt_iff.1 (h (k - 1) (by omega)).1).1).1; omega
theorem pb_next {zs : List Int} {x : Int} {k : Nat} (h : PbTo zs x k) (hx : x ≤ 64) (h1 : prevI zs k < gt zs k) (h2 : gt zs k < x) : PbTo zs x (k + 1) := fun j hj => by
  rcases Nat.lt_or_ge j k with h' | h'
  · exact h j h'
  · obtain rfl : j = k := by omega
    have h0 := pb_prev h
    refine ⟨okAt_iff.2 ⟨⟨by omega, by omega⟩, ?_⟩, h2⟩
    rcases Nat.eq_zero_or_pos j with e | e
    · exact .inl e
    · refine .inr ?_
      unfold prevI at h1
      rw [if_neg (by omega)] at h1
      exact h1
theorem sc_no_ky {x : Int} {zs : List Int} (h : kyB zs = false) : scB ⟨x, zs⟩ = false := by simp only [scB, h, Bool.and_false]
theorem pb_lo {zs : List Int} {x : Int} {k : Nat} (hk : k < zs.length) (h : gt zs k ≤ prevI zs k) : scB ⟨x, zs⟩ = false := by
  rcases k with _ | k
  · have h' : gt zs 0 ≤ -1 := h
    exact sc_no_ky (ky_no_pt hk ((ptB_no _).2 (by omega)))
  · rw [prevI_succ] at h
    exact sc_no_ky (ky_no_lt hk h)
theorem pb_all {zs : List Int} {x : Int} (h : PbTo zs x zs.length) (h0 : 0 ≤ x) (h1 : x ≤ 64) : scB ⟨x, zs⟩ = true := by
  have hk : kyB zs = true := asc_all.2 fun k hk => (h k hk).1
  exact (scB_iff _).2 ⟨fun z hz => by
    obtain ⟨i, hi, rfl⟩ := List.getElem_of_mem hz
    rw [← gt_get hi]; exact (h i hi).2, ⟨h0, h1⟩, hk⟩
theorem sc64 (K : List Int) : scB ⟨64, K⟩ = kyB K := by
  cases h : kyB K
  · exact sc_no_ky h
  · exact (scB_iff _).2 ⟨fun z hz => ((ky_iff.1 h).1 z hz).2, by simp, h⟩
theorem sc_no_x {x : Int} {zs : List Int} (h : ¬ (0 ≤ x ∧ x ≤ 64)) : scB ⟨x, zs⟩ = false := by
  have : decide (0 ≤ x ∧ x ≤ 64) = false := decide_eq_false h
  show (toldB ⟨x, zs⟩ && decide (0 ≤ x ∧ x ≤ 64) && kyB zs) = false
  rw [this, Bool.and_false, Bool.false_and]

set_option maxHeartbeats 1000000 in
theorem pab_any (a : Option Addr) (n cap : Nat) (zs : List Int) (x : Int) (w : World) (h : IntsAt w a zs) (hz : zs.length = n) (hm : n ≤ maxLen) (hx0 : 0 ≤ x) (hx1 : x ≤ 64) :
    Calls Try.prog 59 #[.slice a n cap, .int .i64 x] w fun e w' => e = .returned (.bool (scB ⟨x, zs⟩)) ∧ w = w' := by
  have HI := Lib.hid h
  have HZ := Lib.hid hz
  unfold maxLen at hm
  clear h hz
  go_enter Try.func59, Try.ntmps59
  go_wp2
  go_loop [5, 10] (fun b i => ∃ (k : Nat) (p : Int), k ≤ n ∧ i = .int .i64 k ∧ b = .int .i64 p ∧ Hid (p = prevI zs k) ∧ Hid (PbTo zs x k)) (fun _ i => n - (intOf i).toNat)
  case atStart => exact ⟨0, -1, by omega, rfl, rfl, rfl, fun j hj => by omega⟩
  case round =>
    obtain ⟨k, p, hk, rfl, rfl, HP, HB⟩ := hrel
    by_cases hlt : k < n
    · obtain ⟨b, off, rfl, hc⟩ : ∃ b off, a = some ⟨b, off, none⟩ ∧ w.cell? ⟨b, off + k, none⟩ = some (.int .i64 (gt zs k)) := by
        rcases HI.out with h0 | ⟨b, off, ha, hb, hc⟩
        · have := HZ.out; rw [h0] at this; simp at this; omega
        · exact ⟨b, off, ha, hc k (by rw [HZ.out]; exact hlt)⟩
      obtain ⟨z, hzv⟩ : ∃ z, z = gt zs k := ⟨_, rfl⟩
      rw [← hzv] at hc
      have HG := Lib.hid hzv
      clear hzv
      have k0 : (0 : Int) ≤ (k : Int) := by omega
      have k1 : (k : Int) < (n : Int) := by omega
      by_cases h1 : z ≤ p
      · have HR : Hid (scB ⟨x, zs⟩ = false) := pb_lo (k := k) (by rw [HZ.out]; exact hlt) (by rw [← HG.out, ← HP.out]; exact h1)
        go_wp2
        go_ret
        exact ⟨ret_bool HR.out.symm, rfl⟩
      · by_cases h2 : x ≤ z
        · have HR : Hid (scB ⟨x, zs⟩ = false) := toldB_no (s := ⟨x, zs⟩) (k := k) (by show k < zs.length; rw [HZ.out]; exact hlt) (by show x ≤ gt zs k; rw [← HG.out]; exact h2)
          go_wp2
          go_ret
          exact ⟨ret_bool HR.out.symm, rfl⟩
        · have HN : Hid (PbTo zs x (k + 1)) := pb_next HB.out hx1 (by rw [← HG.out, ← HP.out]; omega) (by rw [← HG.out]; omega)
          have HE : Hid (z = prevI zs (k + 1)) := by show z = _; rw [prevI_succ]; exact HG.out
          go_wp2
          go_round
          case rel => exact ⟨k + 1, z, by omega, by go_num, rfl, HE, HN⟩
          case measure => simp [intOf]; omega
    · have HR : Hid (scB ⟨x, zs⟩ = true) := pb_all (by rw [HZ.out]; have := HB.out; rwa [show k = n by omega] at this) hx0 hx1
      go_wp2
      go_ret
      exact ⟨ret_bool HR.out.symm, rfl⟩

set_option maxHeartbeats 1000000 in
theorem pscv_any (a : Option Addr) (n cap : Nat) (s : Sc) (w : World) (h : IntsAt w a s.t) (hz : s.t.length = n) (hm : n ≤ maxLen) :
    Calls Try.prog 19 #[.agg #[.int .i64 s.x, .slice a n cap]] w fun e w' => e = .returned (.bool (scB s)) ∧ Below w.heap.size w w' := by
  have HZ := Lib.hid hz
  have HM := Lib.hid hm
  obtain ⟨x, ts⟩ := s
  simp only at *
  obtain ⟨W, hW⟩ : ∃ W, W = w.alloc (.cells #[.int .i64 x, .slice a n cap] 26) := ⟨_, rfl⟩
  have hB : Below w.heap.size w W := by rw [hW]; exact alB w _
  have hh : W.heap[w.heap.size]? = some (.cells #[.int .i64 x, .slice a n cap] 26 (0, 0)) := by rw [hW]; exact heap_alloc_new w _
  have HI := Lib.hid (h.keepB hB (Nat.le_refl _))
  have HB := Lib.hid hB
  have HW := Lib.hid hW
  obtain ⟨c0, c1⟩ := cell2s hh
  clear hh hW hB h hz hm
  by_cases h0 : x < 0
  · have HR : Hid (scB ⟨x, ts⟩ = false) := sc_no_x (by omega)
    go_enter Try.func19, Try.ntmps19
    go_wp2_with fail
    rw [← HW.out]
    go_wp2
    go_ret
    exact ⟨ret_bool HR.out.symm, HB.out⟩
  · by_cases h1 : 64 < x
    · have HR : Hid (scB ⟨x, ts⟩ = false) := sc_no_x (by omega)
      go_enter Try.func19, Try.ntmps19
      go_wp2_with fail
      rw [← HW.out]
      go_wp2
      go_ret
      exact ⟨ret_bool HR.out.symm, HB.out⟩
    · go_enter Try.func19, Try.ntmps19
      go_wp2_with fail
      rw [← HW.out]
      go_wp2_with fail
      refine (pab_any a n cap ts x W HI.out HZ.out HM.out (by omega) (by omega)).mono ?_
      rintro e w2 ⟨rfl, rfl⟩
      go_wp2
      go_ret
      exact ⟨rfl, HB.out⟩
theorem pscv_as0 (v : Bool) (a : Option Addr) (n cap : Nat) (s : Sc) (w : World) (h : IntsAt w a s.t) (hz : s.t.length = n) (hm : n ≤ maxLen) (hv : scB s = v) :
    Calls Try.prog 19 #[.agg #[.int .i64 s.x, .slice a n cap]] w fun e w' => e = .returned (.bool v) ∧ Below w.heap.size w w' := by subst hv; exact pscv_any a n cap s w h hz hm

set_option maxHeartbeats 1000000 in
theorem pdone_any (a : Option Addr) (n cap : Nat) (s : Sc) (w : World) (h : IntsAt w a s.t) (hz : s.t.length = n) (hm : n ≤ maxLen) :
    Calls Try.prog 23 #[.agg #[.int .i64 s.x, .slice a n cap]] w fun e w' => e = .returned (.bool (doneB s)) ∧ Below w.heap.size w w' := by
  have HZ := Lib.hid hz
  have HM := Lib.hid hm
  obtain ⟨x, ts⟩ := s
  simp only at *
  obtain ⟨W, hW⟩ : ∃ W, W = w.alloc (.cells #[.int .i64 x, .slice a n cap] 26) := ⟨_, rfl⟩
  have hB : Below w.heap.size w W := by rw [hW]; exact alB w _
  have hh : W.heap[w.heap.size]? = some (.cells #[.int .i64 x, .slice a n cap] 26 (0, 0)) := by rw [hW]; exact heap_alloc_new w _
  have hs1 : w.heap.size < W.heap.size := by rw [hW]; simp
  have HC : Hid (∀ u, Below W.heap.size W u → u.cell? ⟨w.heap.size, 0, none⟩ = some (.int .i64 x)) := fun u hu => (hu.cell (p := ⟨w.heap.size, 0, none⟩) hs1).trans (cell2s hh).1
  have HI := Lib.hid (h.keepB hB (Nat.le_refl _))
  have HB := Lib.hid hB
  have HW := Lib.hid hW
  obtain ⟨c0, c1⟩ := cell2s hh
  clear hh hW hB h hz hm hs1
  cases hv : scB ⟨x, ts⟩
  · have HV := Lib.hid hv
    have HR : Hid (doneB ⟨x, ts⟩ = false) := by show _ = _; simp only [doneB, hv, Bool.false_and]
    clear hv
    go_enter Try.func23, Try.ntmps23
    go_wp2_with fail
    rw [← HW.out]
    go_wp2_with fail
    refine (pscv_as0 false a n cap ⟨x, ts⟩ W HI.out HZ.out HM.out HV.out).mono ?_
    rintro e w2 ⟨rfl, hb2⟩
    go_wp2
    go_ret
    exact ⟨ret_bool HR.out.symm, HB.out.trans (hb2.mono HB.out.size)⟩
  · have HV := Lib.hid hv
    have HR : Hid (doneB ⟨x, ts⟩ = (x == 64)) := by show _ = _; simp only [doneB, hv, Bool.true_and]; rw [Bool.eq_iff_iff]; simp
    clear hv
    go_enter Try.func23, Try.ntmps23
    go_wp2_with fail
    rw [← HW.out]
    go_wp2_with fail
    refine (pscv_as0 true a n cap ⟨x, ts⟩ W HI.out HZ.out HM.out HV.out).mono ?_
    rintro e w2 ⟨rfl, hb2⟩
    have hc := HC.out w2 hb2
    clear c0 c1
    go_wp2
    go_ret
    exact ⟨ret_bool HR.out.symm, HB.out.trans (hb2.mono HB.out.size)⟩
theorem pdone_as0 (v : Bool) (a : Option Addr) (n cap : Nat) (s : Sc) (w : World) (h : IntsAt w a s.t) (hz : s.t.length = n) (hm : n ≤ maxLen) (hv : doneB s = v) :
    Calls Try.prog 23 #[.agg #[.int .i64 s.x, .slice a n cap]] w fun e w' => e = .returned (.bool v) ∧ Below w.heap.size w w' := by subst hv; exact pdone_any a n cap s w h hz hm

set_option maxHeartbeats 1000000 in
theorem pcan_any (al ak : Option Addr) (ll cl lk ck : Nat) (L : List Ls) (K : List Int) (w : World) (hl : LsAt w al L) (hk : IntsAt w ak K) (hzl : L.length = ll) (hzk : K.length = lk) (hlm : ll ≤ maxLen) (hkm : lk ≤ maxLen) :
    Calls Try.prog 52 #[.slice al ll cl, .slice ak lk ck] w fun e w' => e = .returned (.bool (lvB L && kyB K)) ∧ Below w.heap.size w w' := by
  have HL := Lib.hid hl
  have HKB : Hid (∀ U, Below w.heap.size w U → IntsAt U ak K) := fun U hU => hk.keepB hU (Nat.le_refl _)
  have HZL := Lib.hid hzl
  have HZK := Lib.hid hzk
  have HLM := Lib.hid hlm
  have HKM := Lib.hid hkm
  clear hl hk hzl hzk hlm hkm
  cases hv : lvB L
  · have HV := Lib.hid hv
    go_enter Try.func52, Try.ntmps52
    go_wp2_with fail
    refine (lvs_any al ll cl L w HL.out HZL.out HLM.out).mono ?_
    rintro e w2 ⟨rfl, hb2⟩
    rw [hv]
    clear hv
    go_wp2
    go_ret
    exact ⟨rfl, hb2⟩
  · go_enter Try.func52, Try.ntmps52
    go_wp2_with fail
    refine (lvs_any al ll cl L w HL.out HZL.out HLM.out).mono ?_
    rintro e w2 ⟨rfl, hb2⟩
    rw [hv]
    clear hv
    go_wp2_with fail
    refine (pab_any ak lk ck K 64 w2 (HKB.out w2 hb2) HZK.out HKM.out (by omega) (by omega)).mono ?_
    rintro e w3 ⟨rfl, rfl⟩
    rw [sc64]
    go_wp2
    go_ret
    exact ⟨by rw [Bool.true_and]; rfl, hb2⟩
theorem pcan_as (v : Bool) (al ak : Option Addr) (ll cl lk ck : Nat) (L : List Ls) (K : List Int) (w : World) (hl : LsAt w al L) (hk : IntsAt w ak K) (hzl : L.length = ll) (hzk : K.length = lk) (hlm : ll ≤ maxLen) (hkm : lk ≤ maxLen) (hv : (lvB L && kyB K) = v) :
    Calls Try.prog 52 #[.slice al ll cl, .slice ak lk ck] w fun e w' => e = .returned (.bool v) ∧ Below w.heap.size w w' := by subst hv; exact pcan_any al ak ll cl lk ck L K w hl hk hzl hzk hlm hkm

/-- the last position for which the holder of p is asked -/
def lasE (L : List Ls) (p : Int) : Int := if p ≤ (ofL L p).e then (ofL L p).e else 63
theorem las_nx (L : List Ls) (p : Int) : nxE L p = lasE L p + 1 := by unfold nxE lasE; split <;> omega
set_option maxHeartbeats 1000000 in
theorem plast_any (a : Option Addr) (len cap : Nat) (L : List Ls) (p : Int) (w : World) (h : LsAt w a L) (hz : L.length = len) (hv : lvB L = true) :
    Calls Try.prog 74 #[.slice a len cap, .int .i64 p] w fun e w' => e = .returned (.int .i64 (lasE L p)) ∧ Below w.heap.size w w' := by
  have HI := Lib.hid h
  have HZ := Lib.hid hz
  have HV := Lib.hid hv
  have hal := at_lt (L := L) (by have := (lv_len hv).1; omega) p
  rw [hz] at hal
  clear h hz hv
  go_enter Try.func74, Try.ntmps74
  go_wp2_with fail
  refine (leaseAt_any a len cap L p w HI.out HZ.out HV.out).mono ?_
  rintro e w3 ⟨rfl, hb3⟩
  obtain ⟨b, off, rfl, hb0, hcells⟩ := (HI.out.keepB hb3 (Nat.le_refl _)).at_ (i := atL L p) (by rw [HZ.out]; exact hal)
  obtain ⟨hc0, hc1, hc2⟩ := hcells (atL L p) (by rw [HZ.out]; exact hal)
  clear hcells hc1 hc2
  obtain ⟨E, hE⟩ : ∃ E, E = (ofL L p).e := ⟨_, rfl⟩
  have hE' : (gl L (atL L p)).e = E := hE.symm
  rw [hE'] at hc0
  have HE := Lib.hid hE
  clear hE hE'
  by_cases hle : p ≤ E
  · have HR : Hid (lasE L p = E) := by show _ = _; unfold lasE; rw [← HE.out, if_pos hle]
    go_wp2
    go_ret
    exact ⟨ret_int HR.out.symm, hb3⟩
  · have HR : Hid (lasE L p = 63) := by show _ = _; unfold lasE; rw [← HE.out, if_neg hle]
    go_wp2
    go_ret
    exact ⟨ret_int HR.out.symm, hb3⟩

/-! ### a scan under way -/
/-- the linked keys from p on, in blocks above g -/
def Lnk (w : World) (g : Nat) : Option Addr → List Int → Prop
  | p, [] => p = none
  | p, z :: zs => ∃ b q, p = some ⟨b, 0, none⟩ ∧ g < b ∧ w.heap[b]? = some (.cells #[.int .i64 z, .pointer q] 91 (0, 0)) ∧ Lnk w g q zs
theorem Lnk.keep {w w' : World} {g : Nat} (hk : ∀ b, g < b → b < w.heap.size → w'.heap[b]? = w.heap[b]?) : ∀ {zs : List Int} {p : Option Addr}, Lnk w g p zs → Lnk w' g p zs
  | [], _, h => h
  | _ :: _, _, ⟨b, q, hp, hg, hb, hr⟩ => ⟨b, q, hp, hg, (hk b hg (heap_lt hb)).trans hb, Lnk.keep hk hr⟩
/-- a scan under way in block g -/
structure SgAt (w : World) (g : Nat) (x : Int) (zs : List Int) : Prop where
  sg : ∃ p, w.heap[g]? = some (.cells #[.int .i64 x, .pointer p] 74 (0, 0)) ∧ Lnk w g p zs.reverse
theorem SgAt.keepB {w w' : World} {g : Nat} {x : Int} {zs : List Int} (h : SgAt w g x zs) (hb : Below w.heap.size w w') : SgAt w' g x zs := by
  obtain ⟨p, hp, hl⟩ := h.sg
  exact ⟨p, (hb.block g (heap_lt hp)).trans hp, hl.keep fun b _ hlt => hb.block b hlt⟩
theorem SgAt.lt {w : World} {g : Nat} {x : Int} {zs : List Int} (h : SgAt w g x zs) : g < w.heap.size := by
  obtain ⟨p, hp, _⟩ := h.sg; exact heap_lt hp
theorem SgAt.cell {w : World} {g : Nat} {x : Int} {zs : List Int} (h : SgAt w g x zs) : w.cell? ⟨g, 0, none⟩ = some (.int .i64 x) := by
  obtain ⟨p, hp, _⟩ := h.sg; exact (cell2s hp).1
theorem SgAt.fz {w : World} {g : Nat} {x : Int} {zs : List Int} (h : SgAt w g x zs) : w.frozen? ⟨g, 0, none⟩ = false := by
  obtain ⟨p, hp, _⟩ := h.sg; exact frozen_of_cells hp 0
theorem SgAt.setX {w : World} {g : Nat} {x : Int} {zs : List Int} (h : SgAt w g x zs) (x' : Int) : SgAt (w.setCell ⟨g, 0, none⟩ (.int .i64 x')) g x' zs := by
  obtain ⟨p, hp, hl⟩ := h.sg
  exact ⟨p, heap_set w g 0 _ hp, hl.keep fun b hg _ => heap_set_ne w g 0 b _ (by omega)⟩

set_option maxHeartbeats 1000000 in
theorem ptell_any (g : Nat) (x z : Int) (zs : List Int) (w : World) (h : SgAt w g x zs) :
    Calls Try.prog 73 #[.pointer (some ⟨g, 0, none⟩), .int .i64 z] w fun e w' => e = .returned (.tuple #[]) ∧ SgAt w' g x (zs ++ [z]) ∧ Below g w w' := by
  obtain ⟨p, hp, hl⟩ := h.sg
  obtain ⟨c0, c1⟩ := cell2s hp
  have f1 := frozen_of_cells hp 1
  have hlt := heap_lt hp
  have HP := Lib.hid hp
  have HL := Lib.hid hl
  clear hp hl h c0
  go_enter Try.func73, Try.ntmps73
  go_wp2
  go_end0
  obtain ⟨V, hV⟩ : ∃ V, V = w.setCell ⟨g, 1, none⟩ (.pointer (some ⟨w.heap.size, 0, none⟩)) := ⟨_, rfl⟩
  have hVs : V.heap.size = w.heap.size := by rw [hV]; simp [World.setCell]
  have hVg := heap_set w g 1 (.pointer (some ⟨w.heap.size, 0, none⟩)) HP.out
  have hVn : ∀ b, b ≠ g → V.heap[b]? = w.heap[b]? := fun b hb => by rw [hV]; exact heap_set_ne w g 1 b _ hb
  have hVb : Below g w V := by rw [hV]; exact (Below.refl g w).setCell (p := ⟨g, 1, none⟩) (Nat.le_refl g) _
  have hb := alB V (.cells #[.int .i64 z, .pointer p] 91)
  have hn := heap_alloc_new V (.cells #[.int .i64 z, .pointer p] 91)
  rw [hVs] at hn
  rw [← hV] at hVg ⊢
  refine ⟨rfl, ⟨some ⟨w.heap.size, 0, none⟩, (hb.block g (by omega)).trans hVg, ?_⟩, hVb.trans (hb.mono (by omega))⟩
  rw [List.reverse_append]
  exact ⟨w.heap.size, p, rfl, hlt, hn, HL.out.keep fun b hg hb2 => (hb.block b (by omega)).trans (hVn b (by omega))⟩

theorem btw_no {K : List Int} {k : Nat} (hk : k < K.length) {a b : Int} (h : ¬ (a ≤ gt K k ∧ gt K k < b)) : btw (K.take (k + 1)) a b = btw (K.take k) a b := by
  rw [btw_take_s hk, if_neg (by simp; omega), List.append_nil]
theorem btw_yes {K : List Int} {k : Nat} (hk : k < K.length) {a b : Int} (h1 : a ≤ gt K k) (h2 : gt K k < b) : btw (K.take (k + 1)) a b = btw (K.take k) a b ++ [gt K k] := by
  rw [btw_take_s hk, if_pos (by simp; omega)]

set_option maxHeartbeats 2000000 in
theorem pstep1_any (g : Nat) (al ak : Option Addr) (ll cl lk ck : Nat) (L : List Ls) (K : List Int) (x : Int) (zs : List Int) (w : World) (h : SgAt w g x zs)
    (hl : LsAt w al L) (hk : ∀ U, Below g w U → IntsAt U ak K) (hzl : L.length = ll) (hzk : K.length = lk) (hv : lvB L = true) (hkm : lk ≤ maxLen) (hx0 : 0 ≤ x) (hx : x < 64) :
    Calls Try.prog 55 #[.pointer (some ⟨g, 0, none⟩), .slice al ll cl, .slice ak lk ck] w fun e w' => e = .returned (.tuple #[]) ∧ SgAt w' g (nxE L x) (zs ++ btw K x (nxE L x)) ∧ Below g w w' := by
  have c0 := h.cell
  have HS := Lib.hid h
  have HL := Lib.hid hl
  have HK : Hid (∀ U, Below g w U → IntsAt U ak K) := hk
  have HZL := Lib.hid hzl
  have HZK := Lib.hid hzk
  have HV := Lib.hid hv
  have hbd := nx_bd hv hx
  rw [las_nx] at hbd
  obtain ⟨hd1, hd2⟩ := hbd
  have HD := Lib.hid (las_nx L x)
  obtain ⟨d, hd⟩ : ∃ d, d = lasE L x := ⟨_, rfl⟩
  rw [← hd] at HD hd1 hd2
  have HDL := Lib.hid hd
  unfold maxLen at hkm
  clear h hl hk hzl hzk hv hd
  go_enter Try.func55, Try.ntmps55
  go_wp2_with fail
  refine (plast_any al ll cl L x w HL.out HZL.out HV.out).mono ?_
  rintro e w2 ⟨rfl, hb2⟩
  rw [← HDL.out]
  have HS2 := Lib.hid (HS.out.keepB hb2)
  have HB2 := Lib.hid (hb2.mono (Nat.le_of_lt HS.out.lt))
  clear hb2 c0
  go_wp2
  go_loopw [17] (fun i wr => ∃ k : Nat, k ≤ lk ∧ i = .int .i64 k ∧ SgAt wr g x (zs ++ btw (K.take k) x (d + 1)) ∧ Below g w wr) (fun i _ => lk - (intOf i).toNat)
  case atStart => exact ⟨0, by omega, rfl, by simpa [btw] using HS2.out, HB2.out⟩
  case round =>
    obtain ⟨k, hk, rfl, hs, hb⟩ := hrel
    have HSR := Lib.hid hs
    have HBR := Lib.hid hb
    have c0 := hs.cell
    have f0 := hs.fz
    clear hs hb
    by_cases hlt : k < lk
    · have hkl : k < K.length := by rw [HZK.out]; exact hlt
      obtain ⟨b, off, rfl, hc⟩ : ∃ b off, ak = some ⟨b, off, none⟩ ∧ wr.cell? ⟨b, off + k, none⟩ = some (.int .i64 (gt K k)) := by
        rcases HK.out wr HBR.out with h0 | ⟨b, off, ha, hb, hc⟩
        · rw [h0] at hkl; simp at hkl
        · exact ⟨b, off, ha, hc k hkl⟩
      have HKL := Lib.hid hkl
      obtain ⟨z, hzv⟩ : ∃ z, z = gt K k := ⟨_, rfl⟩
      rw [← hzv] at hc
      have HG := Lib.hid hzv
      clear hzv hkl
      have k0 : (0 : Int) ≤ (k : Int) := by omega
      have k1 : (k : Int) < (lk : Int) := by omega
      by_cases h1 : z < x
      · have HE : Hid (btw (K.take (k + 1)) x (d + 1) = btw (K.take k) x (d + 1)) := btw_no HKL.out (by rw [← HG.out]; omega)
        go_wp2
        go_roundw
        case rel => exact ⟨k + 1, by omega, by go_num, by rw [HE.out]; exact HSR.out, HBR.out⟩
        case measure => simp [intOf]; omega
      · by_cases h2 : d < z
        · have HE : Hid (btw (K.take (k + 1)) x (d + 1) = btw (K.take k) x (d + 1)) := btw_no HKL.out (by rw [← HG.out]; omega)
          go_wp2
          go_roundw
          case rel => exact ⟨k + 1, by omega, by go_num, by rw [HE.out]; exact HSR.out, HBR.out⟩
          case measure => simp [intOf]; omega
        · have HE : Hid (btw (K.take (k + 1)) x (d + 1) = btw (K.take k) x (d + 1) ++ [z]) := by show _ = _; rw [HG.out]; exact btw_yes HKL.out (by rw [← HG.out]; omega) (by rw [← HG.out]; omega)
          go_wp2_with fail
          refine (ptell_any g x z _ wr HSR.out).mono ?_
          rintro e w3 ⟨rfl, hs3, hb3⟩
          have HS3 := Lib.hid hs3
          have HB3 := Lib.hid (HBR.out.trans hb3)
          clear hs3 hb3
          go_wp2
          go_roundw
          case rel => exact ⟨k + 1, by omega, by go_num, by rw [HE.out, ← List.append_assoc]; exact HS3.out, HB3.out⟩
          case measure => simp [intOf]; omega
    · have HE : Hid (K.take k = K) := List.take_of_length_le (by rw [HZK.out]; omega)
      go_wp2
      go_end0
      have h3 := HSR.out.setX (d + 1)
      rw [HE.out] at h3
      rw [HD.out]
      exact ⟨rfl, h3, HBR.out.setCell (Nat.le_refl _) _⟩

end Go.Proofs.Ytenhaccdiamagaa
