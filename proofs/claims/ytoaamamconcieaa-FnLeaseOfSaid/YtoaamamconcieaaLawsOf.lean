/- The walks of the laws of which lease holds a key. -/
import Derived.Test.YtoaamamconcieaaLsDraw2
import Derived.Laws.StructEq
namespace Go.Proofs.Ytoaamamconcieaa
open Go.RowKit
set_option linter.unusedVariables false

theorem kcn_split (L : List Ls) (m n : Nat) : kcn L (fun j => decide (j < m + 1)) n = kcn L (fun j => decide (j < m)) n + kcn L (fun j => decide (j = m)) n := by
  induction n with
  | zero => rfl
  | succ n ih =>
    rw [kcn, kcn, kcn, ih]
    rcases Nat.lt_trichotomy (atL L n) m with h | h | h
    · rw [if_pos (by simp; omega), if_pos (by simp; omega), if_neg (by simp; omega)]; omega
    · rw [if_pos (by simp; omega), if_neg (by simp; omega), if_pos (by simp; omega)]; omega
    · rw [if_neg (by simp; omega), if_neg (by simp; omega), if_neg (by simp; omega)]; omega
theorem kcn_pos {L : List Ls} {p : Nat → Bool} {k : Nat} (n : Nat) (hk : k < n) (hp : p (atL L k) = true) : 1 ≤ kcn L p n := by
  induction n with
  | zero => omega
  | succ n ih =>
    rw [kcn]
    by_cases h : k = n
    · subst h; rw [if_pos hp]; omega
    · have := ih (by omega); omega
theorem kcn_all {L : List Ls} {p : Nat → Bool} (n : Nat) (hp : ∀ k : Nat, p (atL L k) = true) : kcn L p n = n := by
  induction n with
  | zero => rfl
  | succ n ih => rw [kcn, ih, if_pos (hp _)]
theorem of_between {L : List Ls} {key q : Int} (hv : lvB L = true) (h1 : key ≤ q) (h2 : q ≤ (ofL L key).e) : ofL L q = ofL L key := by
  have hn := (lv_len hv).1
  have hf := fd_le L key
  by_cases hk : fdL L key < L.length
  · have e1 : atL L key = fdL L key := by unfold atL; rw [if_pos hk]
    have e2 : atL L q = fdL L key := at_mid hv hk (fun j hj => by have := fd_below hj; omega) (by have h3 := h2; unfold ofL at h3; rw [e1] at h3; exact h3)
    unfold ofL; rw [e1, e2]
  · exfalso
    have hk' : fdL L key = L.length := by omega
    have h3 := fd_below (L := L) (key := key) (i := 0) (by omega)
    have e1 : atL L key = 0 := by unfold atL; rw [if_neg hk]
    unfold ofL at h2; rw [e1] at h2; omega
theorem of_end {L : List Ls} {key : Int} (hv : lvB L = true) : ofL L (ofL L key).e = ofL L key := by
  have hal := at_lt (L := L) (by have := lv_len hv; omega) key
  have := at_end hv hal
  unfold ofL; rw [this]

set_option maxHeartbeats 4000000 in
theorem leaseOne (s : Option Addr) (len cap : Nat) (z : List Int) (w : World) (h : RowIn .u8 w s len cap z) :
    Calls Try.prog 8 #[.slice s len cap] w fun e w' => e = .returned (.bool true) ∧ Below w.heap.size w w' := by
  have hb := bytes_of_row h
  have hm : len ≤ maxLen := Nat.le_trans hb.1 hb.2.1
  unfold maxLen at hm
  clear h
  by_cases hl : 1048576 < len
  · go_enter Try.func8, Try.ntmps8
    go_wp2
    go_ret
    exact ⟨rfl, Below.refl _ _⟩
  have hlB : decide ((1048576 : Int) < (len : Int)) = false := by simp; omega
  have hgd : Try.prog.eqGuardType Try.prog.depth 30 = false := by kernel_rfl
  have HBY := Lib.hid hb
  clear hb
  go_enter Try.func8, Try.ntmps8
  go_wp2_with fail
  refine (drawLeaseOf s len cap w HBY.out).mono ?_
  rintro e w1 ⟨g, c, L, key, rfl, hl12, ho, hb1⟩
  have O1 := Lib.hid ho
  have hmx : Hid (L.length ≤ maxLen) := by show _ ≤ maxLen; unfold maxLen; omega
  clear ho
  obtain ⟨x, ok, hX⟩ : ∃ x ok, ofR L key = (x, ok) := ⟨_, _, rfl⟩
  have HX := Lib.hid hX
  have hX2 := ofR_ok L key
  rw [hX] at hX2
  simp only at hX2
  cases ok
  · clear hX hX2
    go_wp2_with fail
    refine (lof_any _ _ _ L key w1 O1.out.ls rfl hmx.out).mono ?_
    rintro e w2 ⟨rfl, hb2⟩
    have hB2 : Below w.heap.size w w2 := hb1.trans (hb2.mono hb1.size)
    have O2 := Lib.hid (O1.out.keepB hb2 (Nat.le_refl _))
    rw [HX.out]
    obtain ⟨W2, hW2⟩ : ∃ W, W = w2.alloc (.cells #[.int .i64 x.e, .int .i64 x.o, .int .i64 x.u] 30) := ⟨_, rfl⟩
    have hbW2 : Below w2.heap.size w2 W2 := by rw [hW2]; exact alB _ _
    have hBW2 : Below w.heap.size w W2 := hB2.trans (hbW2.mono hB2.size)
    have XW2 : Hid (W2.heap[w2.heap.size]? = some (.cells #[.int .i64 x.e, .int .i64 x.o, .int .i64 x.u] 30 (0, 0))) := by show _ = _; rw [hW2]; exact heap_alloc_new _ _
    have HXW2 := Lib.hid hW2
    have hlW2 : w2.heap.size < W2.heap.size := by rw [hW2]; simp
    clear hW2
    have OW2 := Lib.hid (O2.out.keepB hbW2 (Nat.le_refl _))
    go_wp2_with fail
    rw [← HXW2.out]
    refine (slof_any _ _ _ L key W2 OW2.out.ls rfl hmx.out).mono ?_
    rintro e w3 ⟨rfl, hb3⟩
    rw [HX.out]
    have hB3 : Below w.heap.size w w3 := hBW2.trans (hb3.mono hBW2.size)
    have O3 := Lib.hid (OW2.out.keepB hb3 (Nat.le_refl _))
    have hx3 := (hb3.block w2.heap.size hlW2).trans XW2.out
    have hl3 : w2.heap.size < w3.heap.size := by have := hb3.size; omega
    have x0 : ∀ o, (w3.alloc o).cell? ⟨w2.heap.size, 0, none⟩ = some (.int .i64 x.e) := fun o => ((alB w3 o).cell (p := ⟨w2.heap.size, 0, none⟩) hl3).trans (by rw [cell_of_cells hx3]; rfl)
    have x1 : ∀ o, (w3.alloc o).cell? ⟨w2.heap.size, 1, none⟩ = some (.int .i64 x.o) := fun o => ((alB w3 o).cell (p := ⟨w2.heap.size, 1, none⟩) hl3).trans (by rw [cell_of_cells hx3]; rfl)
    have x2 : ∀ o, (w3.alloc o).cell? ⟨w2.heap.size, 2, none⟩ = some (.int .i64 x.u) := fun o => ((alB w3 o).cell (p := ⟨w2.heap.size, 2, none⟩) hl3).trans (by rw [cell_of_cells hx3]; rfl)
    have HX3 := Lib.hid hx3
    clear hx3
    have HA3 : Hid (∀ o, Below w.heap.size w (w3.alloc o)) := fun o => hB3.trans ((alB w3 o).mono hB3.size)
    go_wp2
    go_ret
    exact ⟨rfl, HA3.out _⟩
  rw [eq_comm, Bool.and_eq_true] at hX2
  obtain ⟨hv, hpt⟩ := hX2
  have hx : x = ofL L key := by rw [ofR_yes hv hpt] at hX; injection hX with hX; exact hX.symm
  have HV := Lib.hid hv
  have HPT := Lib.hid hpt
  have HXO := Lib.hid hx
  clear hX hx hv hpt
  go_wp2_with fail
  refine (lof_any _ _ _ L key w1 O1.out.ls rfl hmx.out).mono ?_
  rintro e w2 ⟨rfl, hb2⟩
  have hB2 : Below w.heap.size w w2 := hb1.trans (hb2.mono hb1.size)
  have O2 := Lib.hid (O1.out.keepB hb2 (Nat.le_refl _))
  rw [HX.out]
  obtain ⟨W2, hW2⟩ : ∃ W, W = w2.alloc (.cells #[.int .i64 x.e, .int .i64 x.o, .int .i64 x.u] 30) := ⟨_, rfl⟩
  have hbW2 : Below w2.heap.size w2 W2 := by rw [hW2]; exact alB _ _
  have hBW2 : Below w.heap.size w W2 := hB2.trans (hbW2.mono hB2.size)
  have XW2 : Hid (W2.heap[w2.heap.size]? = some (.cells #[.int .i64 x.e, .int .i64 x.o, .int .i64 x.u] 30 (0, 0))) := by show _ = _; rw [hW2]; exact heap_alloc_new _ _
  have HXW2 := Lib.hid hW2
  have hlW2 : w2.heap.size < W2.heap.size := by rw [hW2]; simp
  clear hW2
  have OW2 := Lib.hid (O2.out.keepB hbW2 (Nat.le_refl _))
  go_wp2_with fail
  rw [← HXW2.out]
  refine (slof_any _ _ _ L key W2 OW2.out.ls rfl hmx.out).mono ?_
  rintro e w3 ⟨rfl, hb3⟩
  rw [HX.out]
  have hB3 : Below w.heap.size w w3 := hBW2.trans (hb3.mono hBW2.size)
  have O3 := Lib.hid (OW2.out.keepB hb3 (Nat.le_refl _))
  have hx3 := (hb3.block w2.heap.size hlW2).trans XW2.out
  have hl3 : w2.heap.size < w3.heap.size := by have := hb3.size; omega
  have x0 : ∀ o, (w3.alloc o).cell? ⟨w2.heap.size, 0, none⟩ = some (.int .i64 x.e) := fun o => ((alB w3 o).cell (p := ⟨w2.heap.size, 0, none⟩) hl3).trans (by rw [cell_of_cells hx3]; rfl)
  have x1 : ∀ o, (w3.alloc o).cell? ⟨w2.heap.size, 1, none⟩ = some (.int .i64 x.o) := fun o => ((alB w3 o).cell (p := ⟨w2.heap.size, 1, none⟩) hl3).trans (by rw [cell_of_cells hx3]; rfl)
  have x2 : ∀ o, (w3.alloc o).cell? ⟨w2.heap.size, 2, none⟩ = some (.int .i64 x.u) := fun o => ((alB w3 o).cell (p := ⟨w2.heap.size, 2, none⟩) hl3).trans (by rw [cell_of_cells hx3]; rfl)
  have HX3 := Lib.hid hx3
  clear hx3
  have HA3 : Hid (∀ o, Below w.heap.size w (w3.alloc o)) := fun o => hB3.trans ((alB w3 o).mono hB3.size)
  obtain ⟨W3, hW3⟩ : ∃ W, W = w3.alloc (.cells #[.int .i64 x.e, .int .i64 x.o, .int .i64 x.u] 30) := ⟨_, rfl⟩
  have hbW3 : Below w3.heap.size w3 W3 := by rw [hW3]; exact alB _ _
  have hBW3 : Below w.heap.size w W3 := hB3.trans (hbW3.mono hB3.size)
  have XW3 : Hid (W3.heap[w3.heap.size]? = some (.cells #[.int .i64 x.e, .int .i64 x.o, .int .i64 x.u] 30 (0, 0))) := by show _ = _; rw [hW3]; exact heap_alloc_new _ _
  have HXW3 := Lib.hid hW3
  have hlW3 : w3.heap.size < W3.heap.size := by rw [hW3]; simp
  clear hW3
  have OW3 := Lib.hid (O3.out.keepB hbW3 (Nat.le_refl _))
  have hXW := (hbW3.block w2.heap.size hl3).trans HX3.out
  have hlx : w2.heap.size < W3.heap.size := by have := hbW3.size; omega
  have HXW := Lib.hid hXW
  clear hXW
  have hl1 : 1 ≤ L.length := (lv_len HV.out).1
  go_wp2
  rw [← HXW3.out]
  clear x0 x1 x2
  go_loopw [9, 10] (fun s i wr => ∃ k : Nat, k ≤ L.length ∧ i = .int .i64 k ∧ s = .int .i64 (kcn L (fun j => decide (j < k)) 64 : Nat) ∧ Below W3.heap.size W3 wr) (fun _ i _ => L.length - (intOf i).toNat)
  case atStart =>
    refine ⟨0, by omega, rfl, ?_, Below.refl _ _⟩
    rw [show kcn L (fun j => decide (j < 0)) 64 = 0 from by
      have : ∀ n, kcn L (fun j => decide (j < 0)) n = 0 := by
        intro n; induction n with
        | zero => rfl
        | succ n ih => rw [kcn, ih, if_neg (by simp)]
      exact this 64]
    rfl
  case round =>
    obtain ⟨k, hk, rfl, rfl, hbel⟩ := hrel
    have hsn := kcn_le L (fun j => decide (j < k)) 64
    by_cases hlt : k < L.length
    · have d1 : (k : Int) < (L.length : Int) := by omega
      go_wp2
      go_loopw [11, 12] (fun n q wr' => ∃ m : Nat, m ≤ 64 ∧ q = .int .i64 m ∧ n = .int .i64 (kcn L (fun j => decide (j = k)) m : Nat) ∧ Below W3.heap.size W3 wr') (fun _ q _ => 64 - (intOf q).toNat)
      case atStart => exact ⟨0, by omega, rfl, rfl, hbel⟩
      case round =>
        obtain ⟨m, hm64, rfl, rfl, hbel2⟩ := hrel
        have hnn := kcn_le L (fun j => decide (j = k)) m
        by_cases hmm : m < 64
        · have HM : Hid (ofR L m = (ofL L m, true)) := ofR_yes HV.out ((ptB_iff _).2 ⟨by omega, by omega⟩)
          have hs : Hid (kcn L (fun j => decide (j = k)) (m + 1) = kcn L (fun j => decide (j = k)) m + if atL L m = k then 1 else 0) := by show _ = _; rw [kcn]; simp
          have hee : (((ofL L m).e == (gl L k).e) = true ↔ atL L m = k) := by
            rw [beq_iff_eq]
            constructor
            · intro he
              have h3 := at_end HV.out (i := atL L m) (at_lt (by omega) _)
              have h4 := at_end HV.out (i := k) hlt
              have he' : (gl L (atL L m)).e = (gl L k).e := he
              rw [he', h4] at h3; exact h3.symm
            · intro he; show (gl L (atL L m)).e = _; rw [he]
          have d2 : (m : Int) < 64 := by omega
          go_wp2_with fail
          refine (lof_any _ _ _ L m _ (OW3.out.keepB hbel2 (Nat.le_refl _)).ls rfl hmx.out).mono ?_
          rintro e w5 ⟨rfl, hb5⟩
          rw [HM.out]
          have hB5 : Below W3.heap.size W3 w5 := hbel2.trans (hb5.mono hbel2.size)
          have HB6 : Hid (∀ o, Below W3.heap.size W3 (w5.alloc o)) := fun o => hB5.trans ((alB w5 o).mono hB5.size)
          obtain ⟨y00, _, _⟩ := (OW3.out.keepB hB5 (Nat.le_refl _)).cells (i := k) hlt
          have hg5 := (OW3.out.keepB hB5 (Nat.le_refl _)).blk.2.1
          have y0 : ∀ o, (w5.alloc o).cell? ⟨g, k * 3, none⟩ = some (.int .i64 (gl L k).e) := fun o => ((alB w5 o).cell (p := ⟨g, k * 3, none⟩) hg5).trans y00
          clear y00
          cases c1 : ((ofL L m).e == (gl L k).e)
          · have hne : ¬ atL L m = k := fun h => by have := hee.2 h; rw [c1] at this; cases this
            clear hee
            go_wp2
            go_quiet (fail)
            go_wp2
            go_roundw
            case rel => exact ⟨m + 1, by omega, by go_num, by rw [hs.out, if_neg hne]; rfl, bel_dN (HB6.out _) _⟩
            case measure => simp [intOf]; omega
          · have hne : atL L m = k := hee.1 c1
            have HNE := Lib.hid hne
            clear hee hne
            go_wp2
            go_quiet (fail)
            go_wp2
            go_roundw
            case rel => exact ⟨m + 1, by omega, by go_num, by rw [hs.out, if_pos HNE.out]; go_num, bel_dN (HB6.out _) _⟩
            case measure => simp [intOf]; omega
        · obtain rfl : m = 64 := by omega
          have hpos : 1 ≤ kcn L (fun j => decide (j = k)) 64 := by
            have he := lv_e HV.out hlt
            refine kcn_pos (k := (gl L k).e.toNat) 64 (by omega) ?_
            rw [decide_eq_true_eq, Int.toNat_of_nonneg he.1]
            exact at_end HV.out hlt
          have hsp := Lib.hid (kcn_split L k 64)
          have d3 : ((kcn L (fun j => decide (j = k)) 64 : Int) == 0) = false := by rw [beq_eq_false_iff_ne]; omega
          go_wp2
          go_roundw
          case rel => exact ⟨k + 1, by omega, by go_num, by rw [hsp.out]; go_num, hbel2⟩
          case measure => simp [intOf]; omega
    · obtain rfl : k = L.length := by omega
      have hall : kcn L (fun j => decide (j < L.length)) 64 = 64 := kcn_all 64 fun k => by rw [decide_eq_true_eq]; exact at_lt (by omega) _
      rw [hall]
      clear hall hsn
      go_wp2
      go_ret
      exact ⟨rfl, hBW3.trans (hbel.mono hBW3.size)⟩

set_option maxHeartbeats 4000000 in
theorem leaseOf (s : Option Addr) (len cap : Nat) (z : List Int) (w : World) (h : RowIn .u8 w s len cap z) :
    Calls Try.prog 9 #[.slice s len cap] w fun e w' => e = .returned (.bool true) ∧ Below w.heap.size w w' := by
  have hb := bytes_of_row h
  have hm : len ≤ maxLen := Nat.le_trans hb.1 hb.2.1
  unfold maxLen at hm
  clear h
  by_cases hl : 1048576 < len
  · go_enter Try.func9, Try.ntmps9
    go_wp2
    go_ret
    exact ⟨rfl, Below.refl _ _⟩
  have hlB : decide ((1048576 : Int) < (len : Int)) = false := by simp; omega
  have hgd : Try.prog.eqGuardType Try.prog.depth 30 = false := by kernel_rfl
  have HBY := Lib.hid hb
  clear hb
  go_enter Try.func9, Try.ntmps9
  go_wp2_with fail
  refine (drawLeaseOf s len cap w HBY.out).mono ?_
  rintro e w1 ⟨g, c, L, key, rfl, hl12, ho, hb1⟩
  have O1 := Lib.hid ho
  have hmx : Hid (L.length ≤ maxLen) := by show _ ≤ maxLen; unfold maxLen; omega
  clear ho
  obtain ⟨x, ok, hX⟩ : ∃ x ok, ofR L key = (x, ok) := ⟨_, _, rfl⟩
  have HX := Lib.hid hX
  have hX2 := ofR_ok L key
  rw [hX] at hX2
  simp only at hX2
  cases ok
  · clear hX hX2
    go_wp2_with fail
    refine (lof_any _ _ _ L key w1 O1.out.ls rfl hmx.out).mono ?_
    rintro e w2 ⟨rfl, hb2⟩
    have hB2 : Below w.heap.size w w2 := hb1.trans (hb2.mono hb1.size)
    have O2 := Lib.hid (O1.out.keepB hb2 (Nat.le_refl _))
    rw [HX.out]
    obtain ⟨W2, hW2⟩ : ∃ W, W = w2.alloc (.cells #[.int .i64 x.e, .int .i64 x.o, .int .i64 x.u] 30) := ⟨_, rfl⟩
    have hbW2 : Below w2.heap.size w2 W2 := by rw [hW2]; exact alB _ _
    have hBW2 : Below w.heap.size w W2 := hB2.trans (hbW2.mono hB2.size)
    have XW2 : Hid (W2.heap[w2.heap.size]? = some (.cells #[.int .i64 x.e, .int .i64 x.o, .int .i64 x.u] 30 (0, 0))) := by show _ = _; rw [hW2]; exact heap_alloc_new _ _
    have HXW2 := Lib.hid hW2
    have hlW2 : w2.heap.size < W2.heap.size := by rw [hW2]; simp
    clear hW2
    have OW2 := Lib.hid (O2.out.keepB hbW2 (Nat.le_refl _))
    go_wp2_with fail
    rw [← HXW2.out]
    refine (slof_any _ _ _ L key W2 OW2.out.ls rfl hmx.out).mono ?_
    rintro e w3 ⟨rfl, hb3⟩
    rw [HX.out]
    have hB3 : Below w.heap.size w w3 := hBW2.trans (hb3.mono hBW2.size)
    have O3 := Lib.hid (OW2.out.keepB hb3 (Nat.le_refl _))
    have hx3 := (hb3.block w2.heap.size hlW2).trans XW2.out
    have hl3 : w2.heap.size < w3.heap.size := by have := hb3.size; omega
    have x0 : ∀ o, (w3.alloc o).cell? ⟨w2.heap.size, 0, none⟩ = some (.int .i64 x.e) := fun o => ((alB w3 o).cell (p := ⟨w2.heap.size, 0, none⟩) hl3).trans (by rw [cell_of_cells hx3]; rfl)
    have x1 : ∀ o, (w3.alloc o).cell? ⟨w2.heap.size, 1, none⟩ = some (.int .i64 x.o) := fun o => ((alB w3 o).cell (p := ⟨w2.heap.size, 1, none⟩) hl3).trans (by rw [cell_of_cells hx3]; rfl)
    have x2 : ∀ o, (w3.alloc o).cell? ⟨w2.heap.size, 2, none⟩ = some (.int .i64 x.u) := fun o => ((alB w3 o).cell (p := ⟨w2.heap.size, 2, none⟩) hl3).trans (by rw [cell_of_cells hx3]; rfl)
    have HX3 := Lib.hid hx3
    clear hx3
    have HA3 : Hid (∀ o, Below w.heap.size w (w3.alloc o)) := fun o => hB3.trans ((alB w3 o).mono hB3.size)
    go_wp2
    go_ret
    exact ⟨rfl, HA3.out _⟩
  rw [eq_comm, Bool.and_eq_true] at hX2
  obtain ⟨hv, hpt⟩ := hX2
  have hx : x = ofL L key := by rw [ofR_yes hv hpt] at hX; injection hX with hX; exact hX.symm
  have HV := Lib.hid hv
  have HPT := Lib.hid hpt
  have HXO := Lib.hid hx
  clear hX hx hv hpt
  go_wp2_with fail
  refine (lof_any _ _ _ L key w1 O1.out.ls rfl hmx.out).mono ?_
  rintro e w2 ⟨rfl, hb2⟩
  have hB2 : Below w.heap.size w w2 := hb1.trans (hb2.mono hb1.size)
  have O2 := Lib.hid (O1.out.keepB hb2 (Nat.le_refl _))
  rw [HX.out]
  obtain ⟨W2, hW2⟩ : ∃ W, W = w2.alloc (.cells #[.int .i64 x.e, .int .i64 x.o, .int .i64 x.u] 30) := ⟨_, rfl⟩
  have hbW2 : Below w2.heap.size w2 W2 := by rw [hW2]; exact alB _ _
  have hBW2 : Below w.heap.size w W2 := hB2.trans (hbW2.mono hB2.size)
  have XW2 : Hid (W2.heap[w2.heap.size]? = some (.cells #[.int .i64 x.e, .int .i64 x.o, .int .i64 x.u] 30 (0, 0))) := by show _ = _; rw [hW2]; exact heap_alloc_new _ _
  have HXW2 := Lib.hid hW2
  have hlW2 : w2.heap.size < W2.heap.size := by rw [hW2]; simp
  clear hW2
  have OW2 := Lib.hid (O2.out.keepB hbW2 (Nat.le_refl _))
  go_wp2_with fail
  rw [← HXW2.out]
  refine (slof_any _ _ _ L key W2 OW2.out.ls rfl hmx.out).mono ?_
  rintro e w3 ⟨rfl, hb3⟩
  rw [HX.out]
  have hB3 : Below w.heap.size w w3 := hBW2.trans (hb3.mono hBW2.size)
  have O3 := Lib.hid (OW2.out.keepB hb3 (Nat.le_refl _))
  have hx3 := (hb3.block w2.heap.size hlW2).trans XW2.out
  have hl3 : w2.heap.size < w3.heap.size := by have := hb3.size; omega
  have x0 : ∀ o, (w3.alloc o).cell? ⟨w2.heap.size, 0, none⟩ = some (.int .i64 x.e) := fun o => ((alB w3 o).cell (p := ⟨w2.heap.size, 0, none⟩) hl3).trans (by rw [cell_of_cells hx3]; rfl)
  have x1 : ∀ o, (w3.alloc o).cell? ⟨w2.heap.size, 1, none⟩ = some (.int .i64 x.o) := fun o => ((alB w3 o).cell (p := ⟨w2.heap.size, 1, none⟩) hl3).trans (by rw [cell_of_cells hx3]; rfl)
  have x2 : ∀ o, (w3.alloc o).cell? ⟨w2.heap.size, 2, none⟩ = some (.int .i64 x.u) := fun o => ((alB w3 o).cell (p := ⟨w2.heap.size, 2, none⟩) hl3).trans (by rw [cell_of_cells hx3]; rfl)
  have HX3 := Lib.hid hx3
  clear hx3
  have HA3 : Hid (∀ o, Below w.heap.size w (w3.alloc o)) := fun o => hB3.trans ((alB w3 o).mono hB3.size)
  obtain ⟨W3, hW3⟩ : ∃ W, W = w3.alloc (.cells #[.int .i64 x.e, .int .i64 x.o, .int .i64 x.u] 30) := ⟨_, rfl⟩
  have hbW3 : Below w3.heap.size w3 W3 := by rw [hW3]; exact alB _ _
  have hBW3 : Below w.heap.size w W3 := hB3.trans (hbW3.mono hB3.size)
  have XW3 : Hid (W3.heap[w3.heap.size]? = some (.cells #[.int .i64 x.e, .int .i64 x.o, .int .i64 x.u] 30 (0, 0))) := by show _ = _; rw [hW3]; exact heap_alloc_new _ _
  have HXW3 := Lib.hid hW3
  have hlW3 : w3.heap.size < W3.heap.size := by rw [hW3]; simp
  clear hW3
  have OW3 := Lib.hid (O3.out.keepB hbW3 (Nat.le_refl _))
  have hXW := (hbW3.block w2.heap.size hl3).trans HX3.out
  have hlx : w2.heap.size < W3.heap.size := by have := hbW3.size; omega
  have HXW := Lib.hid hXW
  clear hXW
  have hkey := (ptB_iff _).1 HPT.out
  have hal := at_lt (L := L) (by have := lv_len HV.out; omega) key
  have hxe : 0 ≤ x.e ∧ x.e < 64 := by rw [HXO.out]; exact lv_e HV.out hal
  go_wp2
  rw [← HXW3.out]
  clear x0 x1 x2
  go_loopw [9] (fun q wr => ∃ z : Int, q = .int .i64 z ∧ key ≤ z ∧ z ≤ 64 ∧ Below W3.heap.size W3 wr) (fun q _ => (64 - intOf q).toNat)
  case atStart => exact ⟨key, rfl, by omega, by omega, Below.refl _ _⟩
  case round =>
    obtain ⟨q, rfl, hq0, hq1, hbel⟩ := hrel
    have x0 : ∀ wr0, wr0 = wr → wr.cell? ⟨w2.heap.size, 0, none⟩ = some (.int .i64 x.e) := fun _ _ => (hbel.cell (p := ⟨w2.heap.size, 0, none⟩) hlx).trans (by rw [cell_of_cells HXW.out]; rfl)
    have x0 := x0 wr rfl
    by_cases hle : q ≤ x.e
    · have HQ : Hid (ofR L q = (x, true)) := by show _ = _; rw [ofR_yes HV.out ((ptB_iff _).2 ⟨by omega, by omega⟩), HXO.out, of_between HV.out hq0 (by rw [← HXO.out]; exact hle)]
      go_wp2_with fail
      refine (lof_any _ _ _ L q wr (OW3.out.keepB hbel (Nat.le_refl _)).ls rfl hmx.out).mono ?_
      rintro e w5 ⟨rfl, hb5⟩
      rw [HQ.out]
      have hB5 : Below W3.heap.size W3 w5 := hbel.trans (hb5.mono hbel.size)
      have HB6 : Hid (∀ o, Below W3.heap.size W3 (w5.alloc o)) := fun o => hB5.trans ((alB w5 o).mono hB5.size)
      have y0 : ∀ o, (w5.alloc o).cell? ⟨w2.heap.size, 0, none⟩ = some (.int .i64 x.e) := fun o => ((alB w5 o).cell (p := ⟨w2.heap.size, 0, none⟩) (show w2.heap.size < w5.heap.size by have := hB5.size; omega)).trans ((hB5.cell (p := ⟨w2.heap.size, 0, none⟩) hlx).trans (by rw [cell_of_cells HXW.out]; rfl))
      have y1 : ∀ o, (w5.alloc o).cell? ⟨w2.heap.size, 1, none⟩ = some (.int .i64 x.o) := fun o => ((alB w5 o).cell (p := ⟨w2.heap.size, 1, none⟩) (show w2.heap.size < w5.heap.size by have := hB5.size; omega)).trans ((hB5.cell (p := ⟨w2.heap.size, 1, none⟩) hlx).trans (by rw [cell_of_cells HXW.out]; rfl))
      have y2 : ∀ o, (w5.alloc o).cell? ⟨w2.heap.size, 2, none⟩ = some (.int .i64 x.u) := fun o => ((alB w5 o).cell (p := ⟨w2.heap.size, 2, none⟩) (show w2.heap.size < w5.heap.size by have := hB5.size; omega)).trans ((hB5.cell (p := ⟨w2.heap.size, 2, none⟩) hlx).trans (by rw [cell_of_cells HXW.out]; rfl))
      clear x0
      go_wp2
      go_roundw
      case rel => exact ⟨q + 1, by go_num, by omega, by omega, HB6.out _⟩
      case measure => simp [intOf]; omega
    · have HQ : Hid (ofR L x.e = (x, true)) := by show _ = _; rw [ofR_yes HV.out ((ptB_iff _).2 hxe), HXO.out, of_end HV.out]
      go_wp2_with fail
      refine (lof_any _ _ _ L x.e wr (OW3.out.keepB hbel (Nat.le_refl _)).ls rfl hmx.out).mono ?_
      rintro e w5 ⟨rfl, hb5⟩
      rw [HQ.out]
      have hB5 : Below W3.heap.size W3 w5 := hbel.trans (hb5.mono hbel.size)
      have HB6 : Hid (∀ o, Below W3.heap.size W3 (w5.alloc o)) := fun o => hB5.trans ((alB w5 o).mono hB5.size)
      have y0 : ∀ o, (w5.alloc o).cell? ⟨w2.heap.size, 0, none⟩ = some (.int .i64 x.e) := fun o => ((alB w5 o).cell (p := ⟨w2.heap.size, 0, none⟩) (show w2.heap.size < w5.heap.size by have := hB5.size; omega)).trans ((hB5.cell (p := ⟨w2.heap.size, 0, none⟩) hlx).trans (by rw [cell_of_cells HXW.out]; rfl))
      have y1 : ∀ o, (w5.alloc o).cell? ⟨w2.heap.size, 1, none⟩ = some (.int .i64 x.o) := fun o => ((alB w5 o).cell (p := ⟨w2.heap.size, 1, none⟩) (show w2.heap.size < w5.heap.size by have := hB5.size; omega)).trans ((hB5.cell (p := ⟨w2.heap.size, 1, none⟩) hlx).trans (by rw [cell_of_cells HXW.out]; rfl))
      have y2 : ∀ o, (w5.alloc o).cell? ⟨w2.heap.size, 2, none⟩ = some (.int .i64 x.u) := fun o => ((alB w5 o).cell (p := ⟨w2.heap.size, 2, none⟩) (show w2.heap.size < w5.heap.size by have := hB5.size; omega)).trans ((hB5.cell (p := ⟨w2.heap.size, 2, none⟩) hlx).trans (by rw [cell_of_cells HXW.out]; rfl))
      clear x0
      go_wp2
      go_ret
      exact ⟨rfl, hBW3.trans ((HB6.out _).mono hBW3.size)⟩
end Go.Proofs.Ytoaamamconcieaa
