/- The two errors of leases: what the row's list gives; errors.Is. -/
import Derived.Test.YtoaamamconcieaaDoorLsAt
import Derived.Test.YtoaamamconcieaaDoorRows
import Derived.WalkKit
import Derived.LaidEql
import Derived.Stop.Asserts
import Derived.RowKitTokens
import Derived.Stop.LaidTwo
import Derived.Stop.LaidErr
namespace Go.Proofs.YtoaamamconcieaaDoor
open Go.RowKit Go.Extern.Stop Go.Stop Go.Extern
set_option linter.unusedVariables false

abbrev errP : TypeId := 89
abbrev errT : TypeId := 115
abbrev nInvalid : String := "loop.example/ringoverlay/impl.errLeaseInvalid"
abbrev nRefused : String := "loop.example/ringoverlay/impl.errLeaseRefused"
abbrev textInvalid : ByteArray := { data := #[108, 101, 97, 115, 101, 115, 32, 97, 114, 101, 32, 105, 110, 118, 97, 108, 105, 100, 32, 111, 114, 32, 97, 110, 111, 116, 104, 101, 114, 32, 97, 114, 103, 117, 109, 101, 110, 116, 32, 105, 115, 32, 111, 117, 116, 32, 111, 102, 32, 114, 97, 110, 103, 101] }
abbrev textRefused : ByteArray := { data := #[111, 112, 101, 114, 97, 116, 105, 111, 110, 32, 111, 110, 32, 97, 32, 108, 101, 97, 115, 101, 32, 105, 115, 32, 114, 101, 102, 117, 115, 101, 100] }

theorem errG0 : Tryd.prog.globalNamed nInvalid = some 0 := by kernel_rfl
theorem errG1 : Tryd.prog.globalNamed nRefused = some 1 := by kernel_rfl
theorem errT0 : (Tryd.prog.globals[0]?).map (·.type) = some 47 := by kernel_rfl
theorem errT1 : (Tryd.prog.globals[1]?).map (·.type) = some 47 := by kernel_rfl
theorem errCells : Tryd.prog.cellsOf 115 = 1 := by kernel_rfl
theorem strCells : Tryd.prog.cellsOf 9 = 1 := by kernel_rfl
theorem errStar : "*" ++ "errors.errorString" = "*errors.errorString" := by decide
theorem errRow (u : TypeId) (h : Tryd.prog.typeName? 3 u = some "*errors.errorString") : u = 89 :=
  typeName_ptr_named (nm := "errors.errorString") (by rw [errStar]; kernel_rfl) (by kernel_rfl) (by decide) u (by rw [errStar]; exact h)

/-- the two variables hold two errors, each in a block of its own -/
structure Errs (w : World) (e0 e1 : Addr) : Prop where
  c0 : w.cell? ⟨0, 0, none⟩ = some (.iface 89 (.pointer (some e0)))
  c1 : w.cell? ⟨1, 0, none⟩ = some (.iface 89 (.pointer (some e1)))
  ne : e0 ≠ e1
  b0 : ∃ cs t, w.heap[e0.block]? = some (.cells cs t (0, 0))
  b1 : ∃ cs t, w.heap[e1.block]? = some (.cells cs t (0, 0))
theorem Errs.lt0 {w : World} {e0 e1 : Addr} (h : Errs w e0 e1) : 0 < w.heap.size := block_lt_of_cell h.c0
theorem Errs.lt1 {w : World} {e0 e1 : Addr} (h : Errs w e0 e1) : 1 < w.heap.size := block_lt_of_cell h.c1
theorem Errs.keep {w w' : World} {e0 e1 : Addr} (h : Errs w e0 e1) (hb : Below w.heap.size w w') : Errs w' e0 e1 := by
  obtain ⟨cs0, t0, h0⟩ := h.b0
  obtain ⟨cs1, t1, h1⟩ := h.b1
  exact ⟨(hb.cell (p := ⟨_, 0, none⟩) h.lt0).trans h.c0, (hb.cell (p := ⟨_, 0, none⟩) h.lt1).trans h.c1, h.ne, ⟨cs0, t0, (hb.block _ (heap_lt h0)).trans h0⟩, ⟨cs1, t1, (hb.block _ (heap_lt h1)).trans h1⟩⟩

theorem errs_of_laid {W : World} (h : laidMetH Tryd.prog [("loop.example/ringoverlay/impl.errLeaseInvalid", Rows.laid_loop_example_ringoverlay_impl_errLeaseInvalid), ("loop.example/ringoverlay/impl.errLeaseRefused", Rows.laid_loop_example_ringoverlay_impl_errLeaseRefused)] W) :
    ∃ e0 e1 : Addr, W.var? Tryd.prog nInvalid = some #[.iface errP (.pointer (some e0))] ∧ W.var? Tryd.prog nRefused = some #[.iface errP (.pointer (some e1))] ∧ Errs W e0 e1 := by
  obtain ⟨a0, a1, s0, s1, c0, c1, t0, t1, hv0, hv1, hc0, hs0, hz0, hc1, hs1, hz1, hne, hb0, hb1⟩ := laid_sentinels2 h errG0 errT0 errG1 errT1 Tryd.underlying47 errRow Tryd.underlying89 Tryd.underlying115 rfl rfl Tryd.underlying9 errCells strCells
  refine ⟨a0, a1, hv0, hv1, ?_, ?_, hne, ⟨_, _, hb0⟩, ⟨_, _, hb1⟩⟩
  · simpa using World.var?_cell errG0 hv0 0
  · simpa using World.var?_cell errG1 hv1 0
theorem errs_read {H : Type} (enc : TypeId × Value → H) {X : World} {e0 e1 : Addr} (h0 : X.var? Tryd.prog nInvalid = some #[.iface errP (.pointer (some e0))]) (h1 : X.var? Tryd.prog nRefused = some #[.iface errP (.pointer (some e1))]) (sp : Nat → Bool) :
    DataW.TrodVars enc Tryd.prog X sp [nInvalid, nRefused] [tok enc (.iface errP (.pointer (some e0))), tok enc (.iface errP (.pointer (some e1)))] [.cell 0 0, .cell 1 0] :=
  vars_read2 enc errG0 errT0 Tryd.underlying47 h0 trivial errG1 errT1 Tryd.underlying47 h1 trivial sp
theorem errs_var {n : String} {g : Nat} {w w' : World} {cs : Array Value} (hg : Tryd.prog.globalNamed n = some g) (hlt : g < w.heap.size) (hb : Below w.heap.size w w') (h : w.var? Tryd.prog n = some cs) : w'.var? Tryd.prog n = some cs := by
  have e := hb.block g hlt
  rw [← h]
  simp only [World.var?, hg, Option.bind_some, e]
theorem errs_keep0 {w w' : World} {e0 e1 : Addr} (h : Errs w e0 e1) (hb : Below w.heap.size w w') (hv : w.var? Tryd.prog nInvalid = some #[.iface errP (.pointer (some e0))]) : w'.var? Tryd.prog nInvalid = some #[.iface errP (.pointer (some e0))] := errs_var errG0 h.lt0 hb hv
theorem errs_keep1 {w w' : World} {e0 e1 : Addr} (h : Errs w e0 e1) (hb : Below w.heap.size w w') (hv : w.var? Tryd.prog nRefused = some #[.iface errP (.pointer (some e1))]) : w'.var? Tryd.prog nRefused = some #[.iface errP (.pointer (some e1))] := errs_var errG1 h.lt1 hb hv

/-! ### errors.Is -/
theorem Tryd.isTypeOf (v : Value) (w : World) : (Extern.ReflectliteType.typeOf #[.iface 89 v]).run Tryd.prog w = .ok (.iface 78 (.agg #[.pointer (some ⟨2, 89, none⟩)])) w := by kernel_rfl
def isCmpE : Array Value → Sem Value := Extern.ReflectliteType.method fun t => do Extern.Rtype.noPackHeld "Comparable" t; pure (.bool (← typeInfo t).comparable)
theorem Tryd.isComparable (w : World) : (isCmpE #[.agg #[.pointer (some ⟨2, 89, none⟩)]]).run Tryd.prog w = .ok (.bool true) w := by kernel_rfl
theorem Tryd.isMethodComparable (v : Value) (w : World) : (Go.method 227 78 v "Comparable").run Tryd.prog w = .ok (75, v) w := by kernel_rfl
theorem Tryd.isComp : (Tryd.prog.info? 89).map (·.comparable) = some true := by kernel_rfl
theorem Tryd.isSize : (Tryd.prog.info? 115).map (·.size) = some 1 := by kernel_rfl
theorem Tryd.noIsE (v : Value) (xT : TypeId) (w : World) : (Instr.typeAssert (.iface 89 v) xT 80 true).run Tryd.prog w = .ok (.tuple #[.nilIface, .bool false]) w := run_typeAssert_lacksB Tryd.underlying80 (by kernel_rfl) (by kernel_rfl) v xT w
theorem Tryd.noUnwrapE (v : Value) (xT : TypeId) (w : World) : (Instr.typeAssert (.iface 89 v) xT 83 true).run Tryd.prog w = .ok (.tuple #[.nilIface, .bool false]) w := run_typeAssert_lacksB Tryd.underlying83 (by kernel_rfl) (by kernel_rfl) v xT w
theorem Tryd.noUnwrapsE (v : Value) (xT : TypeId) (w : World) : (Instr.typeAssert (.iface 89 v) xT 85 true).run Tryd.prog w = .ok (.tuple #[.nilIface, .bool false]) w := run_typeAssert_lacksB Tryd.underlying85 (by kernel_rfl) (by kernel_rfl) v xT w

theorem is_same (a : Addr) (w : World) :
    Calls Tryd.prog 44 #[.iface 89 (.pointer (some a)), .iface 89 (.pointer (some a))] w fun e w' => e = .returned (.bool true) ∧ w' = w := by
  obtain ⟨i, hi, hcmp⟩ := Option.map_eq_some_iff.1 Tryd.isComp
  obtain ⟨j, hj, hjs⟩ := Option.map_eq_some_iff.1 Tryd.isSize
  have h8 := @run_callFunc_extern Tryd.prog 52 _ Extern.ReflectliteType.typeOf Tryd.func52 (by kernel_rfl) (by kernel_rfl) (by kernel_rfl) (by kernel_rfl)
  have h32 := @run_callFunc_extern Tryd.prog 75 _ isCmpE Tryd.func75 (by kernel_rfl) (by kernel_rfl) (by kernel_rfl) (by kernel_rfl)
  have tT := Tryd.isTypeOf
  have cT := Tryd.isComparable
  have mR := Tryd.isMethodComparable
  have heq := run_eql_iface_ptr_same (P := Tryd.prog) w a Tryd.underlying47 Tryd.underlying89 hi hcmp hj
  go_enter Tryd.func44, Tryd.ntmps44
  go_wp2
  refine wp_loop_rounds 1 ?_
  rw [rounds_succ]
  go_wp2
  go_ret
  exact ⟨rfl, rfl⟩

theorem is_nil (b : Addr) (w : World) :
    Calls Tryd.prog 44 #[.nilIface, .iface 89 (.pointer (some b))] w fun e w' => e = .returned (.bool false) ∧ w' = w := by
  have hn := run_eql_iface_nil_left (P := Tryd.prog) w 89 (.pointer (some b)) Tryd.underlying47
  go_enter Tryd.func44, Tryd.ntmps44
  go_wp2
  go_ret
  exact ⟨rfl, rfl⟩

theorem is_other (a b : Addr) (ca cb : Array Value) (ta tb : TypeId) (w : World) (hne : a ≠ b) (ha : w.heap[a.block]? = some (.cells ca ta (0, 0))) (hb : w.heap[b.block]? = some (.cells cb tb (0, 0))) :
    Calls Tryd.prog 44 #[.iface 89 (.pointer (some a)), .iface 89 (.pointer (some b))] w fun e w' => e = .returned (.bool false) ∧ w' = w := by
  obtain ⟨i, hi, hcmp⟩ := Option.map_eq_some_iff.1 Tryd.isComp
  obtain ⟨j, hj, hjs⟩ := Option.map_eq_some_iff.1 Tryd.isSize
  have h8 := @run_callFunc_extern Tryd.prog 52 _ Extern.ReflectliteType.typeOf Tryd.func52 (by kernel_rfl) (by kernel_rfl) (by kernel_rfl) (by kernel_rfl)
  have h32 := @run_callFunc_extern Tryd.prog 75 _ isCmpE Tryd.func75 (by kernel_rfl) (by kernel_rfl) (by kernel_rfl) (by kernel_rfl)
  have tT := Tryd.isTypeOf
  have cT := Tryd.isComparable
  have mR := Tryd.isMethodComparable
  have nE := Tryd.noIsE
  have uE := Tryd.noUnwrapE
  have vE := Tryd.noUnwrapsE
  have heq := run_eql_iface_ptr_other (P := Tryd.prog) w Tryd.underlying47 Tryd.underlying89 hi hcmp hj (by rw [hjs]; decide) hne ha hb
  go_enter Tryd.func44, Tryd.ntmps44
  go_wp2
  refine wp_loop_rounds 1 ?_
  rw [rounds_succ]
  go_wp2
  go_ret
  exact ⟨rfl, rfl⟩
end Go.Proofs.YtoaamamconcieaaDoor
