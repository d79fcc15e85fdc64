/- Sets, writing and RegisterPart: the program's and the model's. -/
import Derived.Test.YtcjlohikfjafiaaRgV2
import Derived.Test.YtcjlohikfjafiaaRgS
import Derived.Test.YtcjlohikfjafiaaRgC
import Derived.Lib.SliceRun
import Derived.Deep.DrawnRows
namespace Go.Proofs.Ytcjlohikfjafiaa
open Go.RowKit
set_option linter.unusedVariables false

theorem ints_at {w : World} {a : Option Addr} {zs : List Int} (h : IntsAt w a zs) {i : Nat} (hi : i < zs.length) :
    ∃ b off, a = some ⟨b, off, none⟩ ∧ b < w.heap.size ∧ ∀ j, j < zs.length → w.cell? ⟨b, off + j, none⟩ = some (.int .i64 (gt zs j)) := by
  rcases h with h | h
  · subst h; simp at hi
  · exact h

set_option maxHeartbeats 1000000 in
theorem iset_any (a : Option Addr) (len cap : Nat) (zs : List Int) (many : Int) (w : World) (h : IntsAt w a zs) (hz : zs.length = len) (hm : len ≤ maxLen) :
    Calls Try.prog 30 #[.slice a len cap, .int .i64 many] w fun e w' => e = .returned (.bool (setB zs many)) ∧ Same w w' := by
  have HI := Lib.hid h
  have HZ := Lib.hid hz
  unfold maxLen at hm
  clear h hz
  go_enter Try.func30, Try.ntmps30
  go_wp2
  go_loopw [9] (fun i wr => ∃ k : Nat, k ≤ len ∧ i = .int .i64 k ∧ setTo zs many k = true ∧ Same w wr) (fun i _ => len - (intOf i).toNat)
  case atStart => exact ⟨0, by omega, rfl, rfl, Same.refl _⟩
  case round =>
    obtain ⟨k, hk, rfl, hall, hs⟩ := hrel
    have HA := Lib.hid hall
    clear hall
    by_cases hlt : k < len
    · have hkL : Hid (k < zs.length) := by show k < zs.length; rw [HZ.out]; exact hlt
      obtain ⟨b, off, rfl, hb0, hcells⟩ := ints_at (HI.out.same hs) hkL.out
      have hc0 := hcells k hkL.out
      have HC := Lib.hid hcells
      clear hcells
      by_cases h0 : gt zs k < 0
      · have HL : Hid (setB zs many = false) := setB_no_in hkL.out (by omega)
        go_wp2
        go_ret
        exact ⟨ret_bool HL.out.symm, hs⟩
      by_cases h1 : many ≤ gt zs k
      · have HL : Hid (setB zs many = false) := setB_no_in hkL.out (by omega)
        go_wp2
        go_ret
        exact ⟨ret_bool HL.out.symm, hs⟩
      have hge : 0 ≤ gt zs k := by omega
      have hlm : gt zs k < many := by omega
      have HGE := Lib.hid hge
      have HLM := Lib.hid hlm
      by_cases hk0 : k = 0
      · have hk00 : decide (0 < (k : Int)) = false := by simp; omega
        have hk01 : decide (0 < k) = false := by simp; omega
        have HN : Hid (setTo zs many (k + 1) = true) := by show _ = _; subst hk0; exact setTo_z hge hlm
        clear hk0
        go_wp2
        go_roundw
        case rel => exact ⟨k + 1, by omega, by go_num, HN.out, hs⟩
        case measure => simp [intOf]; omega
      · have hkp : (0 : Int) < (k : Int) := by omega
        have hk1 : ((k : Int) - 1).toNat = k - 1 := by omega
        have hki : (1 : Int) ≤ (k : Int) := by omega
        have hd0 := HC.out (k - 1) (by have := hkL.out; omega)
        by_cases hle : gt zs k ≤ gt zs (k - 1)
        · have HL : Hid (setB zs many = false) := setB_no_lt (j := k - 1) (by have := hkL.out; omega) (by rw [show k - 1 + 1 = k by omega]; exact hle)
          go_wp2
          go_ret
          exact ⟨ret_bool HL.out.symm, hs⟩
        · have HN : Hid (setTo zs many (k + 1) = true) := by
            show _ = _
            have h1 := HA.out
            obtain ⟨j, rfl⟩ : ∃ j, k = j + 1 := ⟨k - 1, by omega⟩
            exact setTo_s h1 hge hlm (by rw [show j + 1 - 1 = j by omega] at hle; omega)
          have hlt' : gt zs (k - 1) < gt zs k := by omega
          clear hle
          go_wp2
          go_roundw
          case rel => exact ⟨k + 1, by omega, by go_num, HN.out, hs⟩
          case measure => simp [intOf]; omega
    · have hkk : Hid (k = zs.length) := by show k = zs.length; rw [HZ.out]; omega
      have HL : Hid (setB zs many = true) := by show setTo zs many zs.length = true; rw [← hkk.out]; exact HA.out
      go_wp2
      go_ret
      exact ⟨ret_bool HL.out.symm, hs⟩

set_option maxHeartbeats 1000000 in
theorem sset_any (a : Option Addr) (len cap : Nat) (zs : List Int) (many : Nat) (w : World) (h : IntsAt w a zs) (hz : zs.length = len) (hm : len ≤ maxLen) (hmm : many ≤ maxLen) :
    Calls Try.prog 33 #[.int .i64 many, .slice a len cap] w fun e w' => e = .returned (.bool (setB zs many)) ∧ Same w w' := by
  have HI := Lib.hid h
  have HZ := Lib.hid hz
  unfold maxLen at hm hmm
  clear h hz
  have hwr : IntKind.i64.wrap ((many : Int) - 1) = (many : Int) - 1 := by rw [IntKind.wrap_i64]; omega
  go_enter Try.func33, Try.ntmps33
  go_wp2
  go_loopw [5] (fun i wr => ∃ k : Nat, k ≤ len ∧ i = .int .i64 k ∧ setTo zs many k = true ∧ Same w wr) (fun i _ => len - (intOf i).toNat)
  case atStart => exact ⟨0, by omega, rfl, rfl, Same.refl _⟩
  case round =>
    obtain ⟨k, hk, rfl, hall, hs⟩ := hrel
    have HA := Lib.hid hall
    clear hall
    by_cases hlt : k < len
    · have hkL : Hid (k < zs.length) := by show k < zs.length; rw [HZ.out]; exact hlt
      obtain ⟨b, off, rfl, hb0, hcells⟩ := ints_at (HI.out.same hs) hkL.out
      have hc0 := hcells k hkL.out
      have HC := Lib.hid hcells
      clear hcells
      have g0 : (0 : Int) ≤ (k : Int) := by omega
      have g1 : (k : Int) < (len : Int) := by omega
      by_cases h0 : 0 ≤ gt zs k ∧ gt zs k ≤ (many : Int) - 1
      case neg =>
        have hd : decide (0 ≤ gt zs k ∧ gt zs k ≤ (many : Int) - 1) = false := by simp; omega
        have HL : Hid (setB zs many = false) := setB_no_in hkL.out (by omega)
        clear h0
        go_wp2
        go_quiet (first | (go_at_call 38; exact Calls.quiet_of_same (calls_flip (in_any _ _ _ _))))
        go_wp2
        go_ret
        exact ⟨ret_bool HL.out.symm, hs.drewN _⟩
      have hd : decide (0 ≤ gt zs k ∧ gt zs k ≤ (many : Int) - 1) = true := by simp; omega
      obtain ⟨hge, hle⟩ := h0
      have hlm : gt zs k < many := by omega
      have HGE := Lib.hid hge
      have HLM := Lib.hid hlm
      clear hge hle hlm
      by_cases hk0 : k = 0
      · have hk00 : decide (0 < (k : Int)) = false := by simp; omega
        have hk01 : decide (0 < k) = false := by simp; omega
        have HN : Hid (setTo zs many (k + 1) = true) := by show _ = _; have h1 := HGE.out; have h2 := HLM.out; subst hk0; exact setTo_z h1 h2
        clear hk0
        go_wp2
        go_quiet (first | (go_at_call 38; exact Calls.quiet_of_same (calls_flip (in_any _ _ _ _))))
        clear hk00 hk01
        go_wp2
        go_roundw
        case rel => exact ⟨k + 1, by omega, by go_num, HN.out, hs.drewN _⟩
        case measure => simp [intOf]; omega
      · have hkp : (0 : Int) < (k : Int) := by omega
        have hkp2 : 0 < k := by omega
        have hk1 : ((k : Int) - 1).toNat = k - 1 := by omega
        have hki : (1 : Int) ≤ (k : Int) := by omega
        have hki2 : (k : Int) - 1 < (len : Int) := by omega
        have hd0 := HC.out (k - 1) (by have := hkL.out; omega)
        by_cases hle : gt zs k ≤ gt zs (k - 1)
        · have HL : Hid (setB zs many = false) := setB_no_lt (j := k - 1) (by have := hkL.out; omega) (by rw [show k - 1 + 1 = k by omega]; exact hle)
          go_wp2
          go_quiet (first | (go_at_call 38; exact Calls.quiet_of_same (calls_flip (in_any _ _ _ _))))
          go_wp2
          go_ret
          exact ⟨ret_bool HL.out.symm, hs.drewN _⟩
        · have HN : Hid (setTo zs many (k + 1) = true) := by
            show _ = _
            have h1 := HA.out
            obtain ⟨j, rfl⟩ : ∃ j, k = j + 1 := ⟨k - 1, by omega⟩
            exact setTo_s h1 HGE.out HLM.out (by rw [show j + 1 - 1 = j by omega] at hle; omega)
          have hlt' : gt zs (k - 1) < gt zs k := by omega
          clear hle
          go_wp2
          go_quiet (first | (go_at_call 38; exact Calls.quiet_of_same (calls_flip (in_any _ _ _ _))))
          go_wp2
          go_roundw
          case rel => exact ⟨k + 1, by omega, by go_num, HN.out, hs.drewN _⟩
          case measure => simp [intOf]; omega
    · have hkk : Hid (k = zs.length) := by show k = zs.length; rw [HZ.out]; omega
      have HL : Hid (setB zs many = true) := by show setTo zs many zs.length = true; rw [← hkk.out]; exact HA.out
      go_wp2
      go_ret
      exact ⟨ret_bool HL.out.symm, hs⟩

set_option maxHeartbeats 1000000 in
theorem cloneL_any (a : Option Addr) (len cap : Nat) (L : List Ls) (w : World) (h : LsAt w a L) (hz : L.length = len) (h0 : 0 < len) (hm : len ≤ 1000000) :
    Calls Try.prog 43 #[.slice a len cap] w fun e w' => ∃ g c, e = .returned (.slice (some ⟨g, 0, none⟩) len c) ∧ OwnS w' w.heap.size g c L ∧ Below w.heap.size w w' := by
  obtain ⟨b, off, rfl, hb0, hcells⟩ := h.at_ (i := 0) (by omega)
  have HZ := Lib.hid hz
  have HS : Hid (∀ o : Obj, ∀ (j : Nat) (u : Value), (flat L)[j]? = some u → (w.alloc o).cell? ((⟨b, off, none⟩ : Addr).add j) = some u) := fun o => by
    have hk := (LsAt.keepB (.inr ⟨b, off, rfl, hb0, hcells⟩ : LsAt w (some ⟨b, off, none⟩) L) (alB w o) (Nat.le_refl _))
    rcases hk with hk | ⟨b', off', ha, _, hc⟩
    · subst hk; simp at hz; omega
    · injection ha with ha; injection ha with ha ho; subst ha ho
      exact src_ls hc
  have hq := fun w => Lib.run_eql_slice_nil (P := Try.prog) w 23 26 (some ⟨b, off, none⟩) len cap 0 0 Try.underlying23
  simp only [Option.isNone_some] at hq
  clear h hz hcells
  go_enter Try.func43, Try.ntmps43
  go_wp2_with (at_builtin; refine wl_appL _ (by rfl) _ _ (by rfl) w.heap.size w.heap.size 0 0 [] L (by rfl) (own_none w _ rfl) rfl ⟨b, off, none⟩ len cap (by rfl) HZ.out (HS.out _) len (by omega) (by omega) (by simp) ?_; intro g' c' w' hown hgr hat; have HO := Lib.hid hown; have hB : Below w.heap.size w w' := (alB w _).grown hgr (by simp) (fun k hk => by injection hk with hk; omega); clear hown hgr hat)
  go_ret
  refine ⟨g', c', rfl, ?_, hB⟩
  have := HO.out
  rwa [List.nil_append] at this

end Go.Proofs.Ytcjlohikfjafiaa
