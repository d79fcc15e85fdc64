/- A method called through an interface value that holds a pointer: of the pointer, or of what it points to (a slice's own type, one cell). -/
import Derived.Test.YtdlapnelehehgaaMA
namespace Go.Proofs.Ytdlapnelehehgaa
set_option linter.unusedVariables false

section
variable {P : Program} {T E : TypeId} {name : String} {f : FuncId}
theorem info_method {p : Bool} (h : (P.info? T).map (fun i => (i.methods.find? (·.name == name)).map fun m => (m.path, m.func)) = some (some (#[], some (f, p)))) :
    ∃ i m, P.info? T = some i ∧ i.methods.find? (·.name == name) = some m ∧ m.path = #[] ∧ m.func = some (f, p) := by
  obtain ⟨i, hi, h1⟩ := Option.map_eq_some_iff.1 h
  obtain ⟨m, hm, h2⟩ := Option.map_eq_some_iff.1 h1
  injection h2 with h3 h4
  exact ⟨i, m, hi, hm, h3, h4⟩
theorem run_wrapchk (ts : Array TypeId) (t : TypeId) (a : Addr) (x y : String) (w : World) : (Builtin.ssaWrapNilChk_ ts t #[.pointer (some a), strVal x, strVal y]).run P w = .ok (.pointer (some a)) w := rfl
/-- a method of the pointer -/
theorem run_method_ptr (h : (P.info? T).map (fun i => (i.methods.find? (·.name == name)).map fun m => (m.path, m.func)) = some (some (#[], some (f, true)))) (hu : P.underlying T = some (.pointer E)) (n : Nat) (a : Addr) (w : World) :
    (method (n + 1) T (.pointer (some a)) name).run P w = .ok (f, .pointer (some a)) w := by
  obtain ⟨i, m, hi, hm, hp, hf⟩ := info_method h
  simp [method, typeInfo, hi, hm, hp, hf, follow, receiverAt, underlying, hu, Place.get]
/-- a method of what lies behind it -/
theorem run_method_val (h : (P.info? T).map (fun i => (i.methods.find? (·.name == name)).map fun m => (m.path, m.func)) = some (some (#[], some (f, false)))) (hu : P.underlying T = some (.pointer E)) (hE : ∀ w : World, (isAgg E).run P w = .ok false w) (n : Nat) (a : Addr) (w : World) (v : Value) (hc : w.cell? a = some v) :
    (method (n + 1) T (.pointer (some a)) name).run P w = .ok (f, v) w := by
  obtain ⟨i, m, hi, hm, hp, hf⟩ := info_method h
  simp [method, typeInfo, hi, hm, hp, hf, follow, receiverAt, underlying, hu, Place.get, run_wrapchk, loadVar, hE, asAddr, hc]
theorem run_nil_ahead {p : Bool} (h : (P.info? T).map (fun i => (i.methods.find? (·.name == name)).map fun m => (m.path, m.func)) = some (some (#[], some (f, p)))) (hu : P.underlying T = some (.pointer E)) (n : Nat) (a : Addr) (w : World) :
    (nilAhead (n + 1) T (.pointer (some a)) name).run P w = .ok (some false) w := by
  obtain ⟨i, m, hi, hm, hp, hf⟩ := info_method h
  cases p <;> simp [nilAhead, typeInfo, hi, hm, hp, hf, followBlind, underlying, hu]
end
end Go.Proofs.Ytdlapnelehehgaa
