/- Transfers: the program's library calls (slices.Equal, slices.Grow, slices.Concat; parts of a slice). -/
import Derived.Test.YtoiecicfmnpnoaaTfP2
import Derived.Lib.AppendZerosOnto
namespace Go.Proofs.Ytoiecicfmnpnoaa
open Go.RowKit
set_option linter.unusedVariables false

attribute [local go_sem ↓] Go.wp_at_zero Go.wp_at_succ

/-- where a part of a slice begins -/
def slA (a : Option Addr) (cap l : Nat) : Option Addr := if cap = l then a else a.map (·.add l)
theorem slA_size (w : World) : (Go.sizeOf 3).run Try.prog w = .ok 1 w := by
  obtain ⟨i0, hi0, hz0, hz1, hz2⟩ := info_parts Try.infoI
  simp [Go.sizeOf, typeInfo, hi0, hz1]
theorem run_slcLH (w : World) (a : Option Addr) (len cap l h : Nat) (h1 : l ≤ h) (h2 : h ≤ cap) :
    (Instr.slice 23 (.slice a len cap) (some (.int .i64 l)) (some (.int .i64 h)) none).run Try.prog w = .ok (.slice (slA a cap l) (h - l) (cap - l)) w := by
  have e : Try.prog.underlying 23 = some (.slice (Try.prog.elem 23)) := Try.underlying23
  rw [run_slice_lh _ _ _ _ _ e _ _ _ _ (by omega) (by omega) (by omega)]
  have hs : (sizeOf (Try.prog.elem 23)).run Try.prog w = .ok 1 w := slA_size w
  rw [hs]
  simp [Result.andThen, sliced, slA]
theorem run_slcH (w : World) (a : Option Addr) (len cap h : Nat) (h2 : h ≤ cap) :
    (Instr.slice 23 (.slice a len cap) none (some (.int .i64 h)) none).run Try.prog w = .ok (.slice (slA a cap 0) h cap) w := by
  have e : Try.prog.underlying 23 = some (.slice (Try.prog.elem 23)) := Try.underlying23
  rw [run_slice_h _ _ _ _ _ e _ _ (by omega) (by omega)]
  have hs : (sizeOf (Try.prog.elem 23)).run Try.prog w = .ok 1 w := slA_size w
  rw [hs]
  simp [Result.andThen, sliced, slA]
theorem run_slcL (w : World) (a : Option Addr) (len cap l : Nat) (h1 : l ≤ len) :
    (Instr.slice 23 (.slice a len cap) (some (.int .i64 l)) none none).run Try.prog w = .ok (.slice (slA a cap l) (len - l) (cap - l)) w := by
  have e : Try.prog.underlying 23 = some (.slice (Try.prog.elem 23)) := Try.underlying23
  rw [run_slice_l _ _ _ _ _ e _ _ (by omega) (by omega)]
  have hs : (sizeOf (Try.prog.elem 23)).run Try.prog w = .ok 1 w := slA_size w
  rw [hs]
  simp [Result.andThen, sliced, slA]
/-- a part reads as the part of the list -/
theorem ints_slc {w : World} {a : Option Addr} {zs : List Int} {cap l h : Nat} (hi : IntsAt w a zs) (h1 : l ≤ h) (h2 : h ≤ zs.length) (h3 : zs.length ≤ cap) : IntsAt w (slA a cap l) (cutL zs l h) := by
  have hlen : (cutL zs (l : Int) (h : Int)).length = h - l := by rw [cutL_len (by omega) (by omega) (by omega)]; omega
  rcases Nat.lt_or_ge l h with e | e
  · rcases hi with h0 | ⟨b, off, ha, hlt, hc⟩
    · rw [h0] at h2; simp at h2; omega
    · subst ha
      have hs : slA (some ⟨b, off, none⟩) cap l = some ⟨b, off + l, none⟩ := by rw [slA, if_neg (by omega), Option.map_some, add_plain]
      rw [hs]
      exact ints_cut (.inr ⟨b, off, rfl, hlt, hc⟩) e h2
  · left
    exact List.length_eq_zero_iff.1 (by omega)
theorem cutL_len' {zs : List Int} {l h : Nat} (h1 : l ≤ h) (h2 : h ≤ zs.length) : (cutL zs (l : Int) (h : Int)).length = h - l := by rw [cutL_len (by omega) (by omega) (by omega)]; omega


/-- a row with room and nothing in it -/
def NewRoom (w : World) (e : Ending) (w' : World) : Prop :=
  ∃ g cap, e = .returned (.slice (some ⟨g, 0, none⟩) 0 cap) ∧ w'.ownsRow w.heap.size 3 1 (.slice (some ⟨g, 0, none⟩) 0 cap) 0 [] ∧ Below w.heap.size w w'
theorem run_slc0 (w : World) (g n cap : Nat) : (Instr.slice 23 (.slice (some ⟨g, 0, none⟩) n cap) none (some (.int .i64 0)) none).run Try.prog w = .ok (.slice (some ⟨g, 0, none⟩) 0 cap) w := by
  have h := run_slcH w (some ⟨g, 0, none⟩) n cap 0 (Nat.zero_le _)
  rw [show slA (some ⟨g, 0, none⟩) cap 0 = some ⟨g, 0, none⟩ by unfold slA; split <;> rfl] at h
  exact h



end Go.Proofs.Ytoiecicfmnpnoaa
