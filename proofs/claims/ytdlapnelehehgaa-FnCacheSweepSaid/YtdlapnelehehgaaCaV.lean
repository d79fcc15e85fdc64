/- What the model reads in caches: valid ones, used entries, the oldest one. -/
import Derived.Test.YtdlapnelehehgaaCaAt
import Derived.Test.YtdlapnelehehgaaCls
import Derived.WalkKit
import Derived.BigQuiet
import Derived.Deep.QuietTactic
import Derived.Laws.StructEq
import Derived.Laws.ByValue
import Derived.Deep.RegionHeld3
import Derived.Deep.DrawnRows
namespace Go.Proofs.Ytdlapnelehehgaa
open Go.RowKit
set_option linter.unusedVariables false
attribute [local go_sem ↓] Go.wp_at_zero Go.wp_at_succ

theorem alB (w : World) (o : Obj) : Below w.heap.size w (w.alloc o) := (Below.refl _ _).alloc (Nat.le_refl _) _
theorem flat_cons (x : Ls) (L : List Ls) : flat (x :: L) = lsC x ++ flat L := rfl
theorem flat_take (L : List Ls) (i : Nat) : flat (L.take i) = (flat L).take (i * 3) := by
  have e : flat L = flat (L.take i) ++ flat (L.drop i) := by rw [← flat_app, List.take_append_drop]
  rcases Nat.lt_or_ge i L.length with h | h
  · rw [e, List.take_left' (by rw [flat_len, List.length_take]; omega)]
  · rw [List.take_of_length_le h, List.take_of_length_le (by rw [flat_len]; omega)]
theorem flat_drop (L : List Ls) (i : Nat) : flat (L.drop i) = (flat L).drop (i * 3) := by
  have e : flat L = flat (L.take i) ++ flat (L.drop i) := by rw [← flat_app, List.take_append_drop]
  rcases Nat.lt_or_ge i L.length with h | h
  · rw [e, List.drop_left' (by rw [flat_len, List.length_take]; omega)]
  · rw [List.drop_eq_nil_of_le h, List.drop_eq_nil_of_le (by rw [flat_len]; omega)]; rfl
theorem ownL_empty {W : World} {base N : Nat} (h : W.heap[N]? = some (.cells #[] 37 (0, 0))) (hb : base ≤ N) : OwnS W base N 0 [] :=
  own_mk h hb (Nat.le_refl _) (by unfold maxLen; omega) rfl (fun j u hu => by simp [flat] at hu)
theorem srcL_take {W : World} {b k : Nat} {L : List Ls} (h : ∀ (j : Nat) (u : Value), (flat L)[j]? = some u → W.cell? ((⟨b, 0, none⟩ : Addr).add j) = some u) : ∀ (j : Nat) (u : Value), (flat (L.take k))[j]? = some u → W.cell? ((⟨b, 0, none⟩ : Addr).add j) = some u := by
  intro j u hu
  rw [flat_take] at hu
  rcases Nat.lt_or_ge j (k * 3) with h' | h'
  · rw [List.getElem?_take_of_lt h'] at hu; exact h j u hu
  · rw [List.getElem?_eq_none (by simp; omega)] at hu; cases hu
theorem srcL_drop {W : World} {b k : Nat} {L : List Ls} (h : ∀ (j : Nat) (u : Value), (flat L)[j]? = some u → W.cell? ((⟨b, 0, none⟩ : Addr).add j) = some u) : ∀ (j : Nat) (u : Value), (flat (L.drop k))[j]? = some u → W.cell? ((⟨b, k * 3, none⟩ : Addr).add j) = some u := by
  intro j u hu
  rw [flat_drop, List.getElem?_drop] at hu
  have := h _ u hu
  rwa [add_plain, Nat.zero_add, ← add_plain b (k * 3) j] at this

/-- entries in a row of the call's own, or none at all -/
def OwnL (w : World) (base : Nat) (a : Option Addr) (cap : Nat) (L : List Ls) : Prop := L = [] ∨ ∃ g, a = some ⟨g, 0, none⟩ ∧ OwnS w base g cap L
theorem OwnL.ls {w : World} {base cap : Nat} {a : Option Addr} {L : List Ls} (h : OwnL w base a cap L) : LsAt w a L := by
  rcases h with h | ⟨g, rfl, h⟩
  · exact .inl h
  · exact h.ls
theorem OwnL.keepB {w w' : World} {base cap B : Nat} {a : Option Addr} {L : List Ls} (h : OwnL w base a cap L) (hb : Below B w w') (hB : w.heap.size ≤ B) : OwnL w' base a cap L := by
  rcases h with h | ⟨g, rfl, h⟩
  · exact .inl h
  · exact .inr ⟨g, rfl, h.keepB hb hB⟩
theorem OwnL.less {w : World} {base base' cap : Nat} {a : Option Addr} {L : List Ls} (h : OwnL w base a cap L) (hb : base' ≤ base) : OwnL w base' a cap L := by
  rcases h with h | ⟨g, rfl, h⟩
  · exact .inl h
  · exact .inr ⟨g, rfl, h.less hb⟩
/-- a row of the model's, and a bool -/
def AnsS (R : List Ls × Bool) (w : World) (e : Ending) (w' : World) : Prop :=
  ∃ g c, e = .returned (.tuple #[.slice (some ⟨g, 0, none⟩) R.1.length c, .bool R.2]) ∧ OwnS w' w.heap.size g c R.1 ∧ Below w.heap.size w w'
/-- .. of the program's -/
def AnsL (R : List Ls × Bool) (w : World) (e : Ending) (w' : World) : Prop :=
  ∃ a c, e = .returned (.tuple #[.slice a R.1.length c, .bool R.2]) ∧ OwnL w' w.heap.size a c R.1 ∧ Below w.heap.size w w'
/-- a row of the program's alone -/
def RowL (L : List Ls) (w : World) (e : Ending) (w' : World) : Prop :=
  ∃ a c, e = .returned (.slice a L.length c) ∧ OwnL w' w.heap.size a c L ∧ Below w.heap.size w w'

set_option maxHeartbeats 400000 in
theorem stime_any (n : Int) (w : World) :
    Calls Try.prog 42 #[.int .i64 n] w fun e w' => e = .returned (.bool (tmB n)) ∧ w = w' := by
  go_enter Try.func42, Try.ntmps42
  go_wp2_with fail
  refine (in_any _ _ _ _).mono ?_
  rintro e w' ⟨rfl, rfl⟩
  go_wp2
  go_ret
  exact ⟨ret_bool (by rw [Bool.eq_iff_iff]; simp [tmB]), rfl⟩
theorem sval_any (n : Int) (w : World) :
    Calls Try.prog 41 #[.int .i64 n, .int .i64 0, .int .i64 99] w fun e w' => e = .returned (.bool (vlB n)) ∧ w = w' := in_any n 0 99 w

set_option maxHeartbeats 1000000 in
theorem fresh_any (x : Ls) (now : Int) (w : World) (hx : -1000000 ≤ x.u ∧ x.u ≤ 1000000) :
    Calls Try.prog 47 #[.agg #[.int .i64 x.e, .int .i64 x.o, .int .i64 x.u], .int .i64 now] w fun e w' => e = .returned (.bool (frB x now)) ∧ Below w.heap.size w w' := by
  have HB := Lib.hid (alB w)
  obtain ⟨e, o, u⟩ := x
  simp only at hx ⊢
  by_cases h1 : u ≤ now
  · have He : Hid (frB ⟨e, o, u⟩ now = decide (now ≤ u + 10)) := by show _ = _; rw [Bool.eq_iff_iff]; simp [frB, h1]
    cases h2 : decide (now ≤ u + 10)
    · go_enter Try.func47, Try.ntmps47
      go_wp2
      go_ret
      exact ⟨ret_bool (by rw [He.out, h2]), HB.out _⟩
    · go_enter Try.func47, Try.ntmps47
      go_wp2
      go_ret
      exact ⟨ret_bool (by rw [He.out, h2]), HB.out _⟩
  · have He : Hid (frB ⟨e, o, u⟩ now = false) := by show _ = _; simp [frB, h1]
    go_enter Try.func47, Try.ntmps47
    go_wp2
    go_ret
    exact ⟨ret_bool He.out.symm, HB.out _⟩
theorem fresh_as (v : Bool) (x : Ls) (now : Int) (w : World) (hx : -1000000 ≤ x.u ∧ x.u ≤ 1000000) (hv : frB x now = v) :
    Calls Try.prog 47 #[.agg #[.int .i64 x.e, .int .i64 x.o, .int .i64 x.u], .int .i64 now] w fun e w' => e = .returned (.bool v) ∧ Below w.heap.size w w' := by subst hv; exact fresh_any x now w hx

set_option maxHeartbeats 1000000 in
theorem slvs_any (a : Option Addr) (len cap : Nat) (L : List Ls) (w : World) (h : LsAt w a L) (hz : L.length = len) (hm : len ≤ maxLen) :
    Calls Try.prog 29 #[.slice a len cap] w fun e w' => e = .returned (.bool (lvB L)) ∧ Same w w' := by
  have HI := Lib.hid h
  have HZ := Lib.hid hz
  unfold maxLen at hm
  clear h hz
  go_enter Try.func29, Try.ntmps29
  go_wp2
  go_loopw [3] (fun i wr => ∃ k : Nat, k ≤ len ∧ i = .int .i64 k ∧ okTo L k = true ∧ Same w wr) (fun i _ => len - (intOf i).toNat)
  case atStart => exact ⟨0, by omega, rfl, rfl, Same.refl _⟩
  case round =>
    obtain ⟨k, hk, rfl, hall, hsame⟩ := hrel
    have HA := Lib.hid hall
    clear hall
    by_cases hlt : k < len
    · obtain ⟨b, off, rfl, hb0, hcells⟩ := (HI.out.same hsame).at_ (i := k) (by rw [HZ.out]; exact hlt)
      obtain ⟨hc0, hc1, hc2⟩ := hcells k (by rw [HZ.out]; exact hlt)
      have HN := Lib.hid hcells
      clear hcells
      have hkL : Hid (k < L.length) := by show k < L.length; rw [HZ.out]; exact hlt
      cases h1 : ptB (gl L k).e
      · have HL : Hid (lvB L = false) := lvB_no_ls hkL.out (by simp [lzB, h1])
        go_wp2
        go_quiet (first | (go_at_call 40; exact Calls.quiet_of_same (calls_flip (point_any _ _))) | (go_at_call 41; exact Calls.quiet_of_same (calls_flip (sval_any _ _))) | (go_at_call 42; exact Calls.quiet_of_same (calls_flip (stime_any _ _))))
        go_wp2
        go_ret
        exact ⟨ret_bool HL.out.symm, hsame.drewN _⟩
      cases h2 : vlB (gl L k).o
      · have HL : Hid (lvB L = false) := lvB_no_ls hkL.out (by simp [lzB, h1, h2])
        go_wp2
        go_quiet (first | (go_at_call 40; exact Calls.quiet_of_same (calls_flip (point_any _ _))) | (go_at_call 41; exact Calls.quiet_of_same (calls_flip (sval_any _ _))) | (go_at_call 42; exact Calls.quiet_of_same (calls_flip (stime_any _ _))))
        go_wp2
        go_ret
        exact ⟨ret_bool HL.out.symm, hsame.drewN _⟩
      cases h3 : tmB (gl L k).u
      · have HL : Hid (lvB L = false) := lvB_no_ls hkL.out (by simp [lzB, h1, h2, h3])
        go_wp2
        go_quiet (first | (go_at_call 40; exact Calls.quiet_of_same (calls_flip (point_any _ _))) | (go_at_call 41; exact Calls.quiet_of_same (calls_flip (sval_any _ _))) | (go_at_call 42; exact Calls.quiet_of_same (calls_flip (stime_any _ _))))
        go_wp2
        go_ret
        exact ⟨ret_bool HL.out.symm, hsame.drewN _⟩
      have HV : Hid (lzB (gl L k) = true) := by show lzB _ = true; simp [lzB, h1, h2, h3]
      by_cases hk0 : k = 0
      · have hk00 : decide (0 < (k : Int)) = false := by simp; omega
        have hk01 : decide (0 < k) = false := by simp; omega
        have HK := Lib.hid hk0
        clear hk0
        go_wp2
        go_quiet (first | (go_at_call 40; exact Calls.quiet_of_same (calls_flip (point_any _ _))) | (go_at_call 41; exact Calls.quiet_of_same (calls_flip (sval_any _ _))) | (go_at_call 42; exact Calls.quiet_of_same (calls_flip (stime_any _ _))))
        clear hk00 hk01
        go_wp2
        go_roundw
        case rel => exact ⟨k + 1, by omega, by go_num, by have hn := HV.out; have hk := HK.out; subst hk; exact okTo_z hn, hsame.drewN _⟩
        case measure => simp [intOf]; omega
      · have hk1 : ((k : Int) - 1).toNat = k - 1 := by omega
        obtain ⟨hd0, hd1, hd2⟩ := HN.out (k - 1) (by rw [HZ.out]; omega)
        have hkp : 0 < k := by omega
        have hki : (1 : Int) ≤ (k : Int) := by omega
        by_cases hle : (gl L k).e ≤ (gl L (k - 1)).e
        · have HL : Hid (lvB L = false) := lvB_no_lt (j := k - 1) (by have := hkL.out; omega) (by rw [show k - 1 + 1 = k by omega]; exact hle)
          go_wp2
          go_quiet (first | (go_at_call 40; exact Calls.quiet_of_same (calls_flip (point_any _ _))) | (go_at_call 41; exact Calls.quiet_of_same (calls_flip (sval_any _ _))) | (go_at_call 42; exact Calls.quiet_of_same (calls_flip (stime_any _ _))))
          go_wp2
          go_ret
          exact ⟨ret_bool HL.out.symm, hsame.drewN _⟩
        · have hle' : (gl L (k - 1)).e < (gl L k).e := by omega
          have HL := Lib.hid hle'
          go_wp2
          go_quiet (first | (go_at_call 40; exact Calls.quiet_of_same (calls_flip (point_any _ _))) | (go_at_call 41; exact Calls.quiet_of_same (calls_flip (sval_any _ _))) | (go_at_call 42; exact Calls.quiet_of_same (calls_flip (stime_any _ _))))
          go_wp2
          go_roundw
          case rel =>
            refine ⟨k + 1, by omega, by go_num, ?_, hsame.drewN _⟩
            have h1 := HA.out
            have h2 := HV.out
            have h3 := HL.out
            obtain ⟨j, rfl⟩ : ∃ j, k = j + 1 := ⟨k - 1, by omega⟩
            exact okTo_s h1 h2 h3
          case measure => simp [intOf]; omega
    · have hkl : k = len := by omega
      have HK := Lib.hid hkl
      have He : Hid (lvB L = decide (L.length ≤ 6)) := lvB_all (by rw [HZ.out, ← HK.out]; exact HA.out)
      clear hkl
      go_wp2
      all_goals
        go_ret
        exact ⟨ret_bool (by rw [He.out, HZ.out, Bool.eq_iff_iff]; simp <;> omega), hsame⟩
theorem slvs_as (v : Bool) (a : Option Addr) (len cap : Nat) (L : List Ls) (w : World) (h : LsAt w a L) (hz : L.length = len) (hm : len ≤ maxLen) (hv : lvB L = v) :
    Calls Try.prog 29 #[.slice a len cap] w fun e w' => e = .returned (.bool v) ∧ Same w w' := by subst hv; exact slvs_any a len cap L w h hz hm

set_option maxHeartbeats 1000000 in
theorem old_any (a : Option Addr) (len cap : Nat) (L : List Ls) (w : World) (h : LsAt w a L) (hz : L.length = len) (hm : len ≤ maxLen) (h0 : 1 ≤ len) :
    Calls Try.prog 43 #[.slice a len cap] w fun e w' => e = .returned (.int .i64 (oldL L : Nat)) ∧ Same w w' := by
  have HI := Lib.hid h
  have HZ := Lib.hid hz
  unfold maxLen at hm
  clear h hz
  go_enter Try.func43, Try.ntmps43
  go_wp2
  go_loopw [3, 4] (fun o i wr => ∃ k : Nat, k ≤ len ∧ i = .int .i64 k ∧ o = .int .i64 (oldTo L k : Nat) ∧ Same w wr) (fun _ i _ => len - (intOf i).toNat)
  case atStart => exact ⟨0, by omega, rfl, rfl, Same.refl _⟩
  case round =>
    obtain ⟨k, hk, rfl, rfl, hsame⟩ := hrel
    by_cases hlt : k < len
    · obtain ⟨b, off, rfl, hb0, hcells⟩ := (HI.out.same hsame).at_ (i := k) (by rw [HZ.out]; exact hlt)
      have hol : oldTo L k < len := by
        rcases Nat.eq_zero_or_pos k with h' | h'
        · subst h'; simp only [oldTo]; omega
        · have := oldTo_lt L k h'; omega
      obtain ⟨hc0, hc1, hc2⟩ := hcells k (by rw [HZ.out]; exact hlt)
      obtain ⟨hd0, hd1, hd2⟩ := hcells (oldTo L k) (by rw [HZ.out]; exact hol)
      clear hcells
      have HO : Hid (oldTo L (k + 1) = if (gl L k).u < (gl L (oldTo L k)).u then k else oldTo L k) := rfl
      obtain ⟨j, hj⟩ : ∃ j, j = oldTo L k := ⟨_, rfl⟩
      rw [← hj] at hol hd0 hd1 hd2 HO ⊢
      have i0 : (0 : Int) ≤ (j : Int) := by omega
      have i1 : (j : Int) < (len : Int) := by omega
      clear hj
      by_cases hc : (gl L k).u < (gl L j).u
      · have HC := Lib.hid hc
        go_wp2
        go_quiet (fail)
        go_wp2
        go_roundw
        case rel => exact ⟨k + 1, by omega, by go_num, by rw [HO.out, if_pos HC.out], hsame.drewN _⟩
        case measure => simp [intOf]; omega
      · have HC := Lib.hid hc
        go_wp2
        go_quiet (fail)
        go_wp2
        go_roundw
        case rel => exact ⟨k + 1, by omega, by go_num, by rw [HO.out, if_neg (by have := HC.out; omega)], hsame.drewN _⟩
        case measure => simp [intOf]; omega
    · have hkl : k = L.length := by rw [HZ.out]; omega
      have HK := Lib.hid hkl
      clear hkl
      go_wp2
      go_ret
      exact ⟨by rw [oldL, ← HK.out]; rfl, hsame⟩
end Go.Proofs.Ytdlapnelehehgaa
