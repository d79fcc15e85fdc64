/- Scans that came in as arguments. -/
import Derived.Test.YtenhaccdiamagaaScMath
import Derived.ProofKit
import Derived.Deep.Slices
import Derived.Deep.Strs
import Derived.Lib.SmallJoins
namespace Go.Proofs.Ytenhaccdiamagaa
open Go.ChangeShapes Go.WideShapes Go.ChangeAt Go.RowKit Go.Deep
set_option linter.unusedVariables false

theorem scell_lt {w : World} {p : Addr} {v : Value} (h : w.cell? p = some v) : p.block < w.heap.size := by
  rcases Nat.lt_or_ge p.block w.heap.size with hlt | hge
  · exact hlt
  · exfalso
    have hn : w.heap[p.block]? = none := Array.getElem?_eq_none hge
    simp [World.cell?, hn] at h
theorem sadd_none (b o j : Nat) : (⟨b, o, none⟩ : Addr).add j = ⟨b, o + j, none⟩ := by unfold Addr.add; split <;> simp_all

section
variable {H : Type} {enc : TypeId × Value → H} {W : World}
/-- a slice of numbers inside what came in -/
theorem open_intsS {fuel : Nat} {v : Value} {x : DataW H × List MemPlace} (h : DataW.trod enc Try.prog W 0 (fun _ => true) true fuel 24 [v] = some x) :
    ∃ (zs : List Int) (a : Option Addr) (cap : Nat), v = .slice a zs.length cap ∧ zs.length ≤ cap ∧ cap ≤ maxLen ∧ IntsAt W a zs := by
  rcases open_ints Try.underlying24 Try.underlying3 (by kernel_rfl) h with ⟨hcs, _⟩ | ⟨y, l, c, zs, hcs, _, hl, hm, hz, _, hcell, hwz⟩
  · obtain rfl : v = .slice none 0 0 := by simpa using hcs
    exact ⟨[], none, 0, rfl, Nat.le_refl _, by unfold maxLen; omega, .inl rfl⟩
  · obtain rfl : v = .slice (some y) l c := by simpa using hcs
    have hzl : zs.length = c := by simpa using hz
    refine ⟨zs.take l, some y, c, by rw [List.length_take, Nat.min_eq_left (by omega)], by rw [List.length_take]; omega, hm, ?_⟩
    by_cases h0 : l = 0
    · subst h0; exact .inl (by simp)
    · obtain ⟨b, off, spot⟩ := y
      have hc := hcell 0 (by omega)
      have hspot : spot = none := by simpa [Addr.add] using World.cell?_spot hc
      subst hspot
      refine .inr ⟨b, off, rfl, by have := scell_lt hc; simpa [Addr.add] using this, fun i hi => ?_⟩
      have hi' : i < l := by simp at hi; omega
      have hci := hcell i (by omega)
      rw [sadd_none] at hci
      have e : gt (zs.take l) i = zs.getD i 0 := by simp [gt, hi']
      rw [e]; exact hci

theorem open_sc {r : Reach} {b0 : Nat} {v : Value} {d : DataW H} {p : List MemPlace} (hv : Value.okWide Try.prog W r b0 49 v) (h : DataW.Trod enc Try.prog W 0 (fun _ => true) true 49 v d p) :
    ∃ (s : Sc) (a : Option Addr) (cap : Nat), v = .agg #[.int .i64 s.x, .slice a s.t.length cap] ∧ s.t.length ≤ cap ∧ cap ≤ maxLen ∧ IntsAt W a s.t := by
  obtain ⟨v0, v1, y0, y1, n, rfl, _, _, t0, t1⟩ := Go.Joins.open_agg2 Try.underlying49 (by kernel_rfl) (by kernel_rfl) hv h
  obtain ⟨n1, e1, _⟩ := DataW.trod_int Try.underlying3 t0
  obtain ⟨zs, a, cap, rfl, h1, h2, h3⟩ := open_intsS t1
  obtain rfl : v0 = .int .i64 n1 := by simpa using e1
  exact ⟨⟨n1, zs⟩, a, cap, rfl, h1, h2, h3⟩

end
end Go.Proofs.Ytenhaccdiamagaa
