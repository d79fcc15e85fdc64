/- Drawing the arguments of the laws of leases; comparing leases in the laws. -/
import Derived.Test.YtoaamamconcieaaLsDraw
import Derived.Test.YtoaamamconcieaaLsS
import Derived.Laws.StructEq
namespace Go.Proofs.Ytoaamamconcieaa
open Go.RowKit
set_option linter.unusedVariables false

theorem OwnS.grownQ {w w' : World} {base g cap q : Nat} {L : List Ls} (h : OwnS w base g cap L) (hg : w.grownBy w' (some q)) (hne : q < base) : OwnS w' base g cap L :=
  h.kept (hg.block g h.blk.2.1 (fun e => by injection e with e; have := h.blk.1; omega))

theorem results_tmp4 {fn : Func} {t u v x : Tmp} (h : fn.results = #[.tmp t, .tmp u, .tmp v, .tmp x]) (tmps : Array Value) (P : Program) (w : World) :
    (results fn tmps).run P w = .ok (.tuple #[tmps.getD t undef, tmps.getD u undef, tmps.getD v undef, tmps.getD x undef]) w := by
  simp [results, h]
theorem results_tmp5 {fn : Func} {t u v x y : Tmp} (h : fn.results = #[.tmp t, .tmp u, .tmp v, .tmp x, .tmp y]) (tmps : Array Value) (P : Program) (w : World) :
    (results fn tmps).run P w = .ok (.tuple #[tmps.getD t undef, tmps.getD u undef, tmps.getD v undef, tmps.getD x undef, tmps.getD y undef]) w := by
  simp [results, h]
/-- leases and a number -/
def DrewL1 (w : World) (e : Ending) (w' : World) : Prop :=
  ∃ (g cap : Nat) (L : List Ls) (x : Int), e = .returned (.tuple #[.slice (some ⟨g, 0, none⟩) L.length cap, .int .i64 x]) ∧ L.length ≤ 12 ∧ OwnS w' w.heap.size g cap L ∧ Below w.heap.size w w'
def DrewL3 (w : World) (e : Ending) (w' : World) : Prop :=
  ∃ (g cap : Nat) (L : List Ls) (x y z : Int), e = .returned (.tuple #[.slice (some ⟨g, 0, none⟩) L.length cap, .int .i64 x, .int .i64 y, .int .i64 z]) ∧ L.length ≤ 12 ∧ OwnS w' w.heap.size g cap L ∧ Below w.heap.size w w'
def DrewL4 (w : World) (e : Ending) (w' : World) : Prop :=
  ∃ (g cap : Nat) (L : List Ls) (x y z u : Int), e = .returned (.tuple #[.slice (some ⟨g, 0, none⟩) L.length cap, .int .i64 x, .int .i64 y, .int .i64 z, .int .i64 u]) ∧ L.length ≤ 12 ∧ OwnS w' w.heap.size g cap L ∧ Below w.heap.size w w'

set_option maxHeartbeats 1000000 in
theorem drawLeaseOf (s : Option Addr) (len cap : Nat) (w : World) (h : BytesAt w s len cap) :
    Calls Try.prog 26 #[.slice s len cap] w (DrewL1 w) := by
  go_enter Try.func26, Try.ntmps26
  go_wp2_with fail
  refine (open_any s len cap w h).mono ?_
  rintro e w0 ⟨rfl, hr0, hb0, hz0⟩
  have HZ := Lib.hid hz0
  clear hz0
  go_wp2_with fail
  refine (leases_any w.heap.size 900000 w0 (hr0.less (by omega))).mono ?_
  rintro e w1 ⟨g, c, L, rfl, hl, ho, hr1, hg1⟩
  have HO := Lib.hid ho
  have HL := Lib.hid hl
  clear ho hl
  go_wp2_with fail
  refine (point_r w.heap.size 899998 w1 hr1).mono ?_
  rintro e w2 ⟨x, hx0, hx1, rfl, hr2, hk2⟩
  have hB : Below w.heap.size w w2 := below_of_grown hb0 (Nat.le_refl _) (by have := HZ.out; omega) (grown_trans hg1 hk2.grown)
  have HO2 := Lib.hid ((HO.out.grownQ hk2.grown (by have := HZ.out; omega)).less hb0.size)
  go_wp2
  go_ret2
  exact ⟨g, c, L, x, rfl, HL.out, HO2.out, hB⟩




end Go.Proofs.Ytoaamamconcieaa
