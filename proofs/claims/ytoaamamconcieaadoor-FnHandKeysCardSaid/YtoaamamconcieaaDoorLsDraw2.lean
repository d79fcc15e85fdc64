/- Drawing the arguments of the laws of leases; comparing leases in the laws. -/
import Derived.Test.YtoaamamconcieaaDoorLsDraw
import Derived.Test.YtoaamamconcieaaDoorLsS
import Derived.Laws.StructEq
namespace Go.Proofs.YtoaamamconcieaaDoor
open Go.RowKit
set_option linter.unusedVariables false

theorem OwnS.grownQ {w w' : World} {base g cap q : Nat} {L : List Ls} (h : OwnS w base g cap L) (hg : w.grownBy w' (some q)) (hne : q < base) : OwnS w' base g cap L :=
  h.kept (hg.block g h.blk.2.1 (fun e => by injection e with e; have := h.blk.1; omega))

theorem results_tmp4 {fn : Func} {t u v x : Tmp} (h : fn.results = #[.tmp t, .tmp u, .tmp v, .tmp x]) (tmps : Array Value) (P : Program) (w : World) :
    (results fn tmps).run P w = .ok (.tuple #[tmps.getD t undef, tmps.getD u undef, tmps.getD v undef, tmps.getD x undef]) w := by
  simp [results, h]
theorem results_tmp5 {fn : Func} {t u v x y : Tmp} (h : fn.results = #[.tmp t, .tmp u, .tmp v, .tmp x, .tmp y]) (tmps : Array Value) (P : Program) (w : World) :
    (results fn tmps).run P w = .ok (.tuple #[tmps.getD t undef, tmps.getD u undef, tmps.getD v undef, tmps.getD x undef, tmps.getD y undef]) w := by
  simp [results, h]
/-- leases and a number -/
def DrewL1 (w : World) (e : Ending) (w' : World) : Prop :=
  ∃ (g cap : Nat) (L : List Ls) (x : Int), e = .returned (.tuple #[.slice (some ⟨g, 0, none⟩) L.length cap, .int .i64 x]) ∧ L.length ≤ 12 ∧ OwnS w' w.heap.size g cap L ∧ Below w.heap.size w w'
def DrewL3 (w : World) (e : Ending) (w' : World) : Prop :=
  ∃ (g cap : Nat) (L : List Ls) (x y z : Int), e = .returned (.tuple #[.slice (some ⟨g, 0, none⟩) L.length cap, .int .i64 x, .int .i64 y, .int .i64 z]) ∧ L.length ≤ 12 ∧ OwnS w' w.heap.size g cap L ∧ Below w.heap.size w w'
def DrewL4 (w : World) (e : Ending) (w' : World) : Prop :=
  ∃ (g cap : Nat) (L : List Ls) (x y z u : Int), e = .returned (.tuple #[.slice (some ⟨g, 0, none⟩) L.length cap, .int .i64 x, .int .i64 y, .int .i64 z, .int .i64 u]) ∧ L.length ≤ 12 ∧ OwnS w' w.heap.size g cap L ∧ Below w.heap.size w w'





/-! ### comparing -/
set_option maxHeartbeats 1000000 in
theorem sameLs_same (a1 a2 : Option Addr) (len cap1 cap2 : Nat) (L : List Ls) (w : World) (h1 : LsAt w a1 L) (h2 : LsAt w a2 L) (hz : L.length = len) (hm : len ≤ 1048576) :
    Calls Tryd.prog 18 #[.slice a1 len cap1, .slice a2 len cap2] w fun e w' => e = .returned (.bool true) ∧ Same w w' := by
  have H1 := Lib.hid h1
  have H2 := Lib.hid h2
  have HZ := Lib.hid hz
  clear h1 h2 hz
  have hne : ((len : Int) != (len : Int)) = false := by simp
  have hgd : Tryd.prog.eqGuardType Tryd.prog.depth 35 = false := by kernel_rfl
  go_enter Tryd.func18, Tryd.ntmps18
  go_wp2
  go_loopw [5] (fun i wr => ∃ k : Nat, k ≤ len ∧ i = .int .i64 k ∧ Same w wr) (fun i _ => len - (intOf i).toNat)
  case atStart => exact ⟨0, by omega, rfl, Same.refl _⟩
  case round =>
    obtain ⟨k, hk, rfl, hs⟩ := hrel
    obtain ⟨wo, rfl⟩ : ∃ x, x = wr := ⟨_, rfl⟩
    by_cases hlt : k < len
    · have hkr : Hid (k < L.length) := by show k < L.length; rw [HZ.out]; exact hlt
      obtain ⟨b, off, rfl, hb0, hcells⟩ := (H1.out.same hs).at_ (i := k) hkr.out
      obtain ⟨hc0, hc1, hc2⟩ := hcells k hkr.out
      obtain ⟨b', off', rfl, hb0', hcells'⟩ := (H2.out.same hs).at_ (i := k) hkr.out
      obtain ⟨hd0, hd1, hd2⟩ := hcells' k hkr.out
      clear hcells hcells'
      have i0 : (0 : Int) ≤ (k : Int) := by omega
      have i1 : (k : Int) < (len : Int) := by omega
      go_wp2
      go_quiet (fail)
      go_wp2
      go_roundw
      case rel => exact ⟨k + 1, by omega, by go_num, hs.drewN _⟩
      case measure => simp [intOf]; omega
    · go_wp2
      go_ret
      exact ⟨rfl, hs⟩
end Go.Proofs.YtoaamamconcieaaDoor
