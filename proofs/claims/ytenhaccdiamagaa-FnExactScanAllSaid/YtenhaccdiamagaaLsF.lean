/- The index of the lease that holds a key, as the program finds it. -/
import Derived.Test.YtenhaccdiamagaaLsV
namespace Go.Proofs.Ytenhaccdiamagaa
open Go.RowKit
set_option linter.unusedVariables false

def cmpI (x y : Int) : Int := if x < y then -1 else if y < x then 1 else 0
theorem cmpI_neg {x y : Int} (h : x < y) : cmpI x y = -1 := by unfold cmpI; rw [if_pos h]
theorem cmpI_zero (x : Int) : cmpI x x = 0 := by unfold cmpI; rw [if_neg (by omega), if_neg (by omega)]
theorem cmpI_pos {x y : Int} (h : y < x) : cmpI x y = 1 := by unfold cmpI; rw [if_neg (by omega), if_pos h]
theorem cmpI_ge {x y : Int} (h : y ≤ x) : 0 ≤ cmpI x y := by unfold cmpI; split; omega; split <;> omega

set_option maxHeartbeats 1000000 in
theorem cmp_any (x y : Int) (w : World) :
    Calls Try.prog 81 #[.int .i64 x, .int .i64 y] w fun e w' => e = .returned (.int .i64 (cmpI x y)) ∧ w = w' := by
  go_enter Try.func81, Try.ntmps81
  go_wp2
  all_goals (go_ret; refine ⟨?_, rfl⟩; unfold cmpI; (repeat' split) <;> first | rfl | (exfalso; omega))

set_option maxHeartbeats 400000 in
theorem fend1_any (x : Ls) (key : Int) (w : World) :
    Calls Try.prog 80 #[.agg #[.int .i64 x.e, .int .i64 x.o, .int .i64 x.u], .int .i64 key] w fun e w' => e = .returned (.int .i64 (cmpI x.e key)) ∧ Below w.heap.size w w' := by
  obtain ⟨e, o, u⟩ := x
  simp only at *
  have HB := Lib.hid (alB w)
  go_enter Try.func80, Try.ntmps80
  go_wp2_with fail
  refine (cmp_any _ _ _).mono ?_
  rintro e w' ⟨rfl, rfl⟩
  go_wp2
  go_ret
  exact ⟨rfl, HB.out _⟩

set_option maxHeartbeats 2000000 in
theorem bsf_any (a : Option Addr) (len cap : Nat) (L : List Ls) (key : Int) (w : World) (h : LsAt w a L) (hz : L.length = len) (hv : lvB L = true) :
    Calls Try.prog 79 #[.slice a len cap, .int .i64 key, .func (.func 80) #[] #[]] w fun e w' =>
      e = .returned (.tuple #[.int .i64 (fdL L key : Nat), .bool (decide ((ofL L key).e = key))]) ∧ Below w.heap.size w w' := by
  have HI := Lib.hid h
  have HZ := Lib.hid hz
  have HV := Lib.hid hv
  have h12 : len ≤ 12 := by have := (lv_len hv).2; omega
  clear h hz hv
  go_enter Try.func79, Try.ntmps79
  go_wp2
  go_loopw [9, 10] (fun i j wr => ∃ p q : Nat, p ≤ q ∧ q ≤ len ∧ i = .int .i64 p ∧ j = .int .i64 q ∧ p ≤ fdL L key ∧ fdL L key ≤ q ∧ Below w.heap.size w wr) (fun i j _ => (intOf j).toNat - (intOf i).toNat)
  case atStart => exact ⟨0, len, by omega, by omega, rfl, rfl, by omega, by rw [← HZ.out]; exact fd_le _ _, Below.refl _ _⟩
  case round =>
    obtain ⟨p, q, hpq, hq, rfl, rfl, hp1, hq1, hbel⟩ := hrel
    have HP := Lib.hid hp1
    have HQ := Lib.hid hq1
    clear hp1 hq1
    by_cases hlt : p < q
    · have hm1 : p ≤ (p + q) / 2 := by omega
      have hm2 : (p + q) / 2 < q := by omega
      obtain ⟨b, off, rfl, hb0, hcells⟩ := (HI.out.keepB hbel (Nat.le_refl _)).at_ (i := (p + q) / 2) (by rw [HZ.out]; omega)
      obtain ⟨hc0, hc1, hc2⟩ := hcells ((p + q) / 2) (by rw [HZ.out]; omega)
      obtain ⟨x, hx⟩ : ∃ x, x = gl L ((p + q) / 2) := ⟨_, rfl⟩
      rw [← hx] at hc0 hc1 hc2
      have HX := Lib.hid hx
      clear hcells hx
      by_cases hle : x.e < key
      · have hcm := Lib.hid (cmpI_neg hle)
        have hfd : Hid ((p + q) / 2 + 1 ≤ fdL L key) := by
          show (p + q) / 2 + 1 ≤ fdL L key
          rw [HX.out] at hle
          rcases Nat.lt_or_ge ((p + q) / 2) (fdL L key) with h' | h'
          · exact h'
          · exfalso
            have hv := HV.out
            have h1 := fd_at (L := L) (key := key) (by rw [HZ.out]; omega)
            rcases Nat.eq_or_lt_of_le h' with h2 | h2
            · rw [h2] at h1; omega
            · have := lv_lt hv h2 (by rw [HZ.out]; omega); omega
        go_wp2_with fail
        refine (fend1_any x key wr).mono ?_
        rintro e w2 ⟨rfl, hb2⟩
        rw [hcm.out]
        have hbel2 : Below w.heap.size w w2 := hbel.trans (hb2.mono hbel.size)
        go_wp2
        go_roundw
        case rel => exact ⟨(p + q) / 2 + 1, q, by omega, hq, by go_num, rfl, hfd.out, HQ.out, hbel2⟩
        case measure => simp [intOf]; omega
      · have hge : key ≤ x.e := by omega
        have hcm := Lib.hid (cmpI_ge hge)
        have hfd : Hid (fdL L key ≤ (p + q) / 2) := by
          show fdL L key ≤ (p + q) / 2
          rcases Nat.lt_or_ge ((p + q) / 2) (fdL L key) with h' | h'
          · have := fd_below h'
            rw [← HX.out] at this; omega
          · exact h'
        go_wp2_with fail
        refine (fend1_any x key wr).mono ?_
        rintro e w2 ⟨rfl, hb2⟩
        have hbel2 : Below w.heap.size w w2 := hbel.trans (hb2.mono hbel.size)
        have hc : ¬ cmpI x.e key < 0 := by have := hcm.out; omega
        generalize cmpI x.e key = c at *
        go_wp2
        go_roundw
        case rel => exact ⟨p, (p + q) / 2, by omega, by omega, rfl, by go_num, HP.out, hfd.out, hbel2⟩
        case measure => simp [intOf]; omega
    · obtain rfl : p = q := by omega
      have hpf : Hid (p = fdL L key) := by show p = fdL L key; have := HP.out; have := HQ.out; omega
      by_cases hl : p < len
      · obtain ⟨b, off, rfl, hb0, hcells⟩ := (HI.out.keepB hbel (Nat.le_refl _)).at_ (i := p) (by rw [HZ.out]; omega)
        obtain ⟨hc0, hc1, hc2⟩ := hcells p (by rw [HZ.out]; omega)
        obtain ⟨x, hx⟩ : ∃ x, x = gl L p := ⟨_, rfl⟩
        rw [← hx] at hc0 hc1 hc2
        have HX := Lib.hid hx
        clear hcells hx
        have hw : Hid (((ofL L key).e = key) ↔ x.e = key) := by
          show ((ofL L key).e = key) ↔ x.e = key
          rw [fd_whole HV.out, ← hpf.out, ← HX.out]
          exact ⟨fun h => h.2, fun h => ⟨by rw [HZ.out]; exact hl, h⟩⟩
        by_cases he : x.e = key
        · have hcm : Hid (cmpI x.e key = 0) := by show cmpI x.e key = 0; rw [he]; exact cmpI_zero _
          have HE : Hid (decide ((ofL L key).e = key) = true) := by show _ = true; rw [decide_eq_true_eq, hw.out]; exact he
          clear he
          go_wp2_with fail
          refine (fend1_any x key wr).mono ?_
          rintro e w2 ⟨rfl, hb2⟩
          rw [hcm.out]
          have hbel2 : Below w.heap.size w w2 := hbel.trans (hb2.mono hbel.size)
          go_wp2
          go_ret2
          exact ⟨by rw [HE.out, ← hpf.out]; rfl, hbel2⟩
        · have hcm : Hid ((cmpI x.e key == 0) = false) := by
            show (cmpI x.e key == 0) = false
            unfold cmpI; split
            · rfl
            · rw [if_pos (by omega)]; rfl
          have HE : Hid (decide ((ofL L key).e = key) = false) := by show _ = false; rw [decide_eq_false_iff_not, hw.out]; exact he
          clear he
          go_wp2_with fail
          refine (fend1_any x key wr).mono ?_
          rintro e w2 ⟨rfl, hb2⟩
          have hbel2 : Below w.heap.size w w2 := hbel.trans (hb2.mono hbel.size)
          have hc := hcm.out
          generalize cmpI x.e key = c at *
          go_wp2
          go_ret2
          exact ⟨by rw [HE.out, ← hpf.out]; rfl, hbel2⟩
      · have HE : Hid (decide ((ofL L key).e = key) = false) := by
          show _ = false
          rw [decide_eq_false_iff_not, fd_whole HV.out, ← hpf.out, HZ.out]
          exact fun h => hl h.1
        go_wp2
        go_ret2
        exact ⟨by rw [HE.out, ← hpf.out]; rfl, hbel⟩

set_option maxHeartbeats 400000 in
theorem findEnd_any (a : Option Addr) (len cap : Nat) (L : List Ls) (key : Int) (w : World) (h : LsAt w a L) (hz : L.length = len) (hv : lvB L = true) :
    Calls Try.prog 77 #[.slice a len cap, .int .i64 key] w fun e w' =>
      e = .returned (.tuple #[.int .i64 (fdL L key : Nat), .bool (decide ((ofL L key).e = key))]) ∧ Below w.heap.size w w' := by
  have HI := Lib.hid h
  have HZ := Lib.hid hz
  have HV := Lib.hid hv
  clear h hz hv
  go_enter Try.func77, Try.ntmps77
  go_wp2_with fail
  refine (bsf_any a len cap L key w HI.out HZ.out HV.out).mono ?_
  rintro e w2 ⟨rfl, hb2⟩
  go_wp2
  go_ret2
  exact ⟨rfl, hb2⟩

set_option maxHeartbeats 400000 in
theorem leaseAt_any (a : Option Addr) (len cap : Nat) (L : List Ls) (key : Int) (w : World) (h : LsAt w a L) (hz : L.length = len) (hv : lvB L = true) :
    Calls Try.prog 61 #[.slice a len cap, .int .i64 key] w fun e w' =>
      e = .returned (.int .i64 (atL L key : Nat)) ∧ Below w.heap.size w w' := by
  have HI := Lib.hid h
  have HZ := Lib.hid hz
  have HV := Lib.hid hv
  have hl := lv_len hv
  rw [hz] at hl
  obtain ⟨hl1, hl2⟩ := hl
  have hf := fd_le L key
  rw [hz] at hf
  have ht : ((fdL L key : Nat) : Int).tmod (len : Int) = (atL L key : Nat) := by
    have := at_mod (L := L) (by omega) key
    rw [hz] at this
    rw [← this]; rfl
  have ht' : (len : Int) ≠ 0 := by omega
  have hq : ((len : Int) == 0) = false := by simp; omega
  have ha := at_lt (L := L) (by omega) key
  rw [hz] at ha
  clear h hz hv
  go_enter Try.func61, Try.ntmps61
  go_wp2_with fail
  refine (findEnd_any a len cap L key w HI.out HZ.out HV.out).mono ?_
  rintro e w2 ⟨rfl, hb2⟩
  go_wp2
  go_ret
  exact ⟨rfl, hb2⟩

theorem results_cell_tmp {P : Program} {fn : Func} {p q : Tmp} {ty : TypeId} (h : fn.results = #[.cell p ty, .tmp q]) (tmps : Array Value) (w : World) (g : Nat) (t : TypeId) (cs : Array Value) (fr : Nat × Nat) (d : TypeDesc)
    (hp : tmps.getD p undef = .pointer (some ⟨g, 0, none⟩)) (hg : w.heap[g]? = some (.cells cs t fr))
    (hu : P.underlying ty = some d) (hd : (match d with | .struct _ | .array _ _ => true | _ => false) = true) (hi : (P.info? ty).map (·.size) = some cs.size) :
    (results fn tmps).run P w = .ok (.tuple #[.agg cs, tmps.getD q undef]) w := by
  have hp' : tmps[p]?.getD undef = .pointer (some ⟨g, 0, none⟩) := by simpa using hp
  simp [results, h, hp', asAddr, run_loadVar_row w g t ty cs fr d hg hu hd hi]

/-- what LeaseOf answers -/
def ofR (L : List Ls) (key : Int) : Ls × Bool := if lvB L && ptB key then (ofL L key, true) else (⟨0, 0, 0⟩, false)
theorem ofR_yes {L : List Ls} {key : Int} (h : lvB L = true) (h' : ptB key = true) : ofR L key = (ofL L key, true) := by simp [ofR, h, h']
theorem ofR_no1 {L : List Ls} {key : Int} (h : lvB L = false) : ofR L key = (⟨0, 0, 0⟩, false) := by simp [ofR, h]
theorem ofR_no2 {L : List Ls} {key : Int} (h : ptB key = false) : ofR L key = (⟨0, 0, 0⟩, false) := by simp [ofR, h]
theorem ofR_ok (L : List Ls) (key : Int) : (ofR L key).2 = (lvB L && ptB key) := by unfold ofR; split <;> simp_all

set_option maxHeartbeats 1000000 in
theorem lof_any (a : Option Addr) (len cap : Nat) (L : List Ls) (key : Int) (w : World) (h : LsAt w a L) (hz : L.length = len) (hm : len ≤ maxLen) :
    Calls Try.prog 21 #[.slice a len cap, .int .i64 key] w fun e w' =>
      e = .returned (.tuple #[.agg #[.int .i64 (ofR L key).1.e, .int .i64 (ofR L key).1.o, .int .i64 (ofR L key).1.u], .bool (ofR L key).2]) ∧ Below w.heap.size w w' := by
  have HI := Lib.hid h
  have HZ := Lib.hid hz
  have HM := Lib.hid hm
  clear h hz hm
  obtain ⟨W, hW⟩ : ∃ W, W = w.alloc (.cells #[.int .i64 0, .int .i64 0, .int .i64 0] 36) := ⟨_, rfl⟩
  have hWb : Below w.heap.size w W := by rw [hW]; exact alB _ _
  have hWh : W.heap[w.heap.size]? = some (.cells #[.int .i64 0, .int .i64 0, .int .i64 0] 36 (0, 0)) := by rw [hW]; exact heap_alloc_new w _
  have hWs : w.heap.size < W.heap.size := by rw [hW]; simp
  have HW := Lib.hid hW
  have HH := Lib.hid hWh
  clear hW hWh
  cases hv : lvB L
  · have HR := Lib.hid (ofR_no1 (key := key) hv)
    go_enter Try.func21, Try.ntmps21
    go_wp2_with fail
    rw [← HW.out]
    refine (lvs_any a len cap L W (HI.out.keepB hWb (Nat.le_refl _)) HZ.out HM.out).mono ?_
    rintro e w2 ⟨rfl, hb2⟩
    have h2 := (hb2.block w.heap.size hWs).trans HH.out
    have c0 : w2.cell? ⟨w.heap.size, 0, none⟩ = some (.int .i64 0) := by rw [cell_of_cells h2]; rfl
    have c1 : w2.cell? ⟨w.heap.size, 1, none⟩ = some (.int .i64 0) := by rw [cell_of_cells h2]; rfl
    have c2 : w2.cell? ⟨w.heap.size, 2, none⟩ = some (.int .i64 0) := by rw [cell_of_cells h2]; rfl
    have f0 := frozen_of_cells h2 0
    have f1 := frozen_of_cells h2 1
    have f2 := frozen_of_cells h2 2
    have H2 := Lib.hid h2
    clear h2
    rw [hv]
    go_wp2
    have e1 := heap_set _ w.heap.size 2 (.int .i64 0) (heap_set _ w.heap.size 1 (.int .i64 0) (heap_set w2 w.heap.size 0 (.int .i64 0) H2.out))
    refine bodyPost_ret (results_cell_tmp rfl _ _ w.heap.size _ #[.int .i64 0, .int .i64 0, .int .i64 0] (0, 0) _ rfl e1 Try.underlying36 rfl (by kernel_rfl)) rfl ?_
    rw [HR.out]
    exact ⟨rfl, (((hWb.trans (hb2.mono (by omega))).setCell (Nat.le_refl _) _).setCell (Nat.le_refl _) _).setCell (Nat.le_refl _) _⟩
  cases hk : ptB key
  · have HR := Lib.hid (ofR_no2 (L := L) hk)
    go_enter Try.func21, Try.ntmps21
    go_wp2_with fail
    rw [← HW.out]
    refine (lvs_any a len cap L W (HI.out.keepB hWb (Nat.le_refl _)) HZ.out HM.out).mono ?_
    rintro e w2 ⟨rfl, hb2⟩
    have h2 := (hb2.block w.heap.size hWs).trans HH.out
    have c0 : w2.cell? ⟨w.heap.size, 0, none⟩ = some (.int .i64 0) := by rw [cell_of_cells h2]; rfl
    have c1 : w2.cell? ⟨w.heap.size, 1, none⟩ = some (.int .i64 0) := by rw [cell_of_cells h2]; rfl
    have c2 : w2.cell? ⟨w.heap.size, 2, none⟩ = some (.int .i64 0) := by rw [cell_of_cells h2]; rfl
    have f0 := frozen_of_cells h2 0
    have f1 := frozen_of_cells h2 1
    have f2 := frozen_of_cells h2 2
    have H2 := Lib.hid h2
    clear h2
    rw [hv]
    go_wp2_with fail
    refine (valid_any key w2).mono ?_
    rintro e w' ⟨rfl, rfl⟩
    rw [hk]
    go_wp2
    have e1 := heap_set _ w.heap.size 2 (.int .i64 0) (heap_set _ w.heap.size 1 (.int .i64 0) (heap_set w2 w.heap.size 0 (.int .i64 0) H2.out))
    refine bodyPost_ret (results_cell_tmp rfl _ _ w.heap.size _ #[.int .i64 0, .int .i64 0, .int .i64 0] (0, 0) _ rfl e1 Try.underlying36 rfl (by kernel_rfl)) rfl ?_
    rw [HR.out]
    exact ⟨rfl, (((hWb.trans (hb2.mono (by omega))).setCell (Nat.le_refl _) _).setCell (Nat.le_refl _) _).setCell (Nat.le_refl _) _⟩
  · have HR := Lib.hid (ofR_yes hv hk)
    have HV := Lib.hid hv
    have hal := at_lt (L := L) (by have := (lv_len hv).1; omega) key
    rw [HZ.out] at hal
    go_enter Try.func21, Try.ntmps21
    go_wp2_with fail
    rw [← HW.out]
    refine (lvs_any a len cap L W (HI.out.keepB hWb (Nat.le_refl _)) HZ.out HM.out).mono ?_
    rintro e w2 ⟨rfl, hb2⟩
    rw [hv]
    go_wp2_with fail
    refine (valid_any key w2).mono ?_
    rintro e w' ⟨rfl, rfl⟩
    rw [hk]
    have hB2 : Below w.heap.size w w2 := hWb.trans (hb2.mono (by omega))
    go_wp2_with fail
    refine (leaseAt_any a len cap L key w2 (HI.out.keepB hB2 (Nat.le_refl _)) HZ.out HV.out).mono ?_
    rintro e w3 ⟨rfl, hb3⟩
    have hB3 : Below w.heap.size w w3 := hB2.trans (hb3.mono hB2.size)
    obtain ⟨b, off, rfl, hb0, hcells⟩ := (HI.out.keepB hB3 (Nat.le_refl _)).at_ (i := atL L key) (by rw [HZ.out]; exact hal)
    obtain ⟨hc0, hc1, hc2⟩ := hcells (atL L key) (by rw [HZ.out]; exact hal)
    clear hcells
    have h2 := ((hb2.trans (hb3.mono hb2.size)).block w.heap.size hWs).trans HH.out
    have c0 : w3.cell? ⟨w.heap.size, 0, none⟩ = some (.int .i64 0) := by rw [cell_of_cells h2]; rfl
    have c1 : w3.cell? ⟨w.heap.size, 1, none⟩ = some (.int .i64 0) := by rw [cell_of_cells h2]; rfl
    have c2 : w3.cell? ⟨w.heap.size, 2, none⟩ = some (.int .i64 0) := by rw [cell_of_cells h2]; rfl
    have f0 := frozen_of_cells h2 0
    have f1 := frozen_of_cells h2 1
    have f2 := frozen_of_cells h2 2
    have H2 := Lib.hid h2
    clear h2
    go_wp2
    have e1 := heap_set _ w.heap.size 2 (.int .i64 (ofL L key).u) (heap_set _ w.heap.size 1 (.int .i64 (ofL L key).o) (heap_set w3 w.heap.size 0 (.int .i64 (ofL L key).e) H2.out))
    refine bodyPost_ret (results_cell_tmp rfl _ _ w.heap.size _ #[.int .i64 (ofL L key).e, .int .i64 (ofL L key).o, .int .i64 (ofL L key).u] (0, 0) _ rfl e1 Try.underlying36 rfl (by kernel_rfl)) rfl ?_
    rw [HR.out]
    exact ⟨rfl, ((hB3.setCell (Nat.le_refl _) _).setCell (Nat.le_refl _) _).setCell (Nat.le_refl _) _⟩

/-! ### the model's -/
set_option maxHeartbeats 1000000 in
theorem sat_any (a : Option Addr) (len cap : Nat) (L : List Ls) (key : Int) (w : World) (h : LsAt w a L) (hz : L.length = len) (hm : len ≤ maxLen) :
    Calls Try.prog 76 #[.slice a len cap, .int .i64 key] w fun e w' => e = .returned (.int .i64 (atL L key : Nat)) ∧ w = w' := by
  have HI := Lib.hid h
  have HZ := Lib.hid hz
  unfold maxLen at hm
  clear h hz
  go_enter Try.func76, Try.ntmps76
  go_wp2
  go_loop [5] (fun i => ∃ k : Nat, k ≤ len ∧ i = .int .i64 k ∧ k ≤ fdL L key) (fun i => len - (intOf i).toNat)
  case atStart => exact ⟨0, by omega, rfl, by omega⟩
  case round =>
    obtain ⟨k, hk, rfl, hf⟩ := hrel
    have HF := Lib.hid hf
    clear hf
    by_cases hlt : k < len
    · obtain ⟨b, off, rfl, hb0, hcells⟩ := HI.out.at_ (i := k) (by rw [HZ.out]; exact hlt)
      obtain ⟨hc0, hc1, hc2⟩ := hcells k (by rw [HZ.out]; exact hlt)
      clear hcells
      by_cases hle : key ≤ (gl L k).e
      · have he : Hid (atL L key = k) := by
          show atL L key = k
          have : fdL L key = k := by
            have h1 := HF.out
            rcases Nat.lt_or_ge k (fdL L key) with h' | h'
            · have := fd_below h'; omega
            · omega
          unfold atL; rw [this, if_pos (by rw [HZ.out]; exact hlt)]
        go_wp2
        go_ret
        exact ⟨ret_int (by rw [he.out]), rfl⟩
      · have hf : Hid (k + 1 ≤ fdL L key) := by
          show k + 1 ≤ fdL L key
          have h1 := HF.out
          rcases Nat.lt_or_ge k (fdL L key) with h' | h'
          · exact h'
          · have h2 : fdL L key = k := by omega
            have := fd_at (L := L) (key := key) (by rw [HZ.out]; omega)
            rw [h2] at this; omega
        go_wp2
        go_round
        case rel => exact ⟨k + 1, by omega, by go_num, hf.out⟩
        case measure => simp [intOf]; omega
    · have he : Hid (atL L key = 0) := by
        show atL L key = 0
        unfold atL
        have h1 := HF.out
        rw [if_neg (by rw [HZ.out]; omega)]
      go_wp2
      go_ret
      exact ⟨ret_int (by rw [he.out]; rfl), rfl⟩

end Go.Proofs.Ytenhaccdiamagaa
