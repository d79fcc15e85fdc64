/- Drawing caches. -/
import Derived.Test.YtdlapnelehehgabCaS2
namespace Go.Proofs.Ytdlapnelehehgab
open Go.RowKit
set_option linter.unusedVariables false







theorem results_tmp4 {fn : Func} {t u v x : Tmp} (h : fn.results = #[.tmp t, .tmp u, .tmp v, .tmp x]) (tmps : Array Value) (P : Program) (w : World) :
    (results fn tmps).run P w = .ok (.tuple #[tmps.getD t undef, tmps.getD u undef, tmps.getD v undef, tmps.getD x undef]) w := by
  simp [results, h]
/-- a cache and nothing, one, two or three numbers -/
def DrewC0 (w : World) (e : Ending) (w' : World) : Prop :=
  ∃ (g cap : Nat) (L : List Ls), e = .returned (.slice (some ⟨g, 0, none⟩) L.length cap) ∧ L.length ≤ 7 ∧ OwnS w' w.heap.size g cap L ∧ Below w.heap.size w w'
def DrewC1 (lo hi : Int) (w : World) (e : Ending) (w' : World) : Prop :=
  ∃ (g cap : Nat) (L : List Ls) (x : Int), e = .returned (.tuple #[.slice (some ⟨g, 0, none⟩) L.length cap, .int .i64 x]) ∧ L.length ≤ 7 ∧ (lo ≤ x ∧ x ≤ hi) ∧ OwnS w' w.heap.size g cap L ∧ Below w.heap.size w w'
def DrewC2 (w : World) (e : Ending) (w' : World) : Prop :=
  ∃ (g cap : Nat) (L : List Ls) (x y : Int), e = .returned (.tuple #[.slice (some ⟨g, 0, none⟩) L.length cap, .int .i64 x, .int .i64 y]) ∧ L.length ≤ 7 ∧ (0 ≤ x ∧ x ≤ 8) ∧ (18 ≤ y ∧ y ≤ 1018) ∧ OwnS w' w.heap.size g cap L ∧ Below w.heap.size w w'
def DrewC3 (w : World) (e : Ending) (w' : World) : Prop :=
  ∃ (g cap : Nat) (L : List Ls) (x y z : Int), e = .returned (.tuple #[.slice (some ⟨g, 0, none⟩) L.length cap, .int .i64 x, .int .i64 y, .int .i64 z]) ∧ L.length ≤ 7 ∧ (0 ≤ x ∧ x ≤ 69) ∧ (-1 ≤ y ∧ y ≤ 100) ∧ (25 ≤ z ∧ z ≤ 54) ∧ OwnS w' w.heap.size g cap L ∧ Below w.heap.size w w'
theorem quo19 {p : Int} (h0 : 0 ≤ p) (h1 : p < 20) : ∃ z : Int, (z = 0 ∨ z = 1) ∧ p.tdiv 19 = z := by
  rw [Int.tdiv_eq_ediv_of_nonneg h0]
  exact ⟨p / 19, by omega, rfl⟩





end Go.Proofs.Ytdlapnelehehgab
