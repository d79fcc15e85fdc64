/- takeStep: a step of a ring by its network. -/
import Derived.Test.YtcbbdhmloniolaaNwNodes
import Derived.Test.YtcbbdhmloniolaaMG
import Derived.Laws.EntriesVeiled
namespace Go.Proofs.Ytcbbdhmloniolaa
open Go.RowKit
set_option linter.unusedVariables false

/-- the table of steps -/
def tbl : Array Value := #[.func (.func 82) #[] #[], .func (.func 83) #[] #[], .func (.func 84) #[] #[], .func (.func 85) #[] #[], .func (.func 86) #[] #[], .func (.func 87) #[] #[], .func (.func 73) #[] #[]]
set_option maxHeartbeats 400000 in
theorem table_any (w : World) : Calls Try.prog 61 #[] w fun e w' => e = .returned (.agg tbl) ∧ Below w.heap.size w w' := by
  go_enter Try.func61, Try.ntmps61
  go_wp2
  refine bodyPost_ret (results_cell_row rfl _ _ w.heap.size _ tbl (0, 0) _ rfl (heap_alloc_new w _) Try.underlying72 rfl (by kernel_rfl)) rfl ?_
  exact ⟨rfl, (Below.refl _ _).alloc (Nat.le_refl _) _⟩
theorem valid_as (v : Bool) (n : Int) (w : World) (hv : ptB n = v) : Calls Try.prog 43 #[.int .i64 n] w fun e w' => e = .returned (.bool v) ∧ w = w' := by subst hv; exact valid_any n w
/-- what a step of a network does, at the peers of two positions -/
def ActOk (f : Nat) (r : List Nd) (x y : Int) (r' : List Nd) (b : Bool) : Prop :=
  ∀ (n L : Nat) (K : Nat → Option Pr) (p q : Pr) (w : World), NW w n L r.length K r → K x.toNat = some p → K y.toNat = some q →
    Calls Try.prog f #[.pointer (some ⟨n, 0, none⟩), .pointer (some ⟨p.blk, 0, none⟩), .pointer (some ⟨q.blk, 0, none⟩)] w fun e w' => e = .returned (.bool b) ∧ ∃ L' cap' K', NW w' n L' cap' K' r' ∧ Below n w w'

set_option maxHeartbeats 1000000 in
theorem take_no (c : Int) (a : Option Addr) (len cap : Nat) (r : List Nd) (x y : Int) (w : World) (h : RingAt w a r) (hz : r.length = len) (hm : len ≤ maxLen) (hb : arg3 r x y = false) :
    Calls Try.prog 39 #[.slice a len cap, .int .i64 c, .int .i64 x, .int .i64 y] w (NewRB [] false w) := by
  have HI := Lib.hid h
  have HZ := Lib.hid hz
  have HM := Lib.hid hm
  clear h hz hm
  rcases bool_cases (safeB r) with hs | hs
  · have HS := Lib.hid hs
    clear hs hb
    go_enter Try.func39, Try.ntmps39
    go_wp2_with fail
    refine (rsafe_any false a len cap r w HI.out HZ.out HM.out HS.out).mono ?_
    rintro e w1 ⟨rfl, hb1⟩
    go_wp2
    go_ret2
    exact (newRB_nil w1 _).mono hb1
  have HS := Lib.hid hs
  rcases bool_cases (ptB x) with hx | hx
  · have HX := Lib.hid hx
    clear hs hb hx
    go_enter Try.func39, Try.ntmps39
    go_wp2_with fail
    refine (rsafe_any true a len cap r w HI.out HZ.out HM.out HS.out).mono ?_
    rintro e w1 ⟨rfl, hb1⟩
    go_wp2_with fail
    refine (valid_as false x w1 HX.out).mono ?_
    rintro e w2 ⟨rfl, rfl⟩
    go_wp2
    go_ret2
    exact (newRB_nil w1 _).mono hb1
  have HX := Lib.hid hx
  have HY : Hid (ptB y = false) := by show ptB y = false; unfold arg3 at hb; rw [hs, hx] at hb; simpa using hb
  clear hs hb hx
  go_enter Try.func39, Try.ntmps39
  go_wp2_with fail
  refine (rsafe_any true a len cap r w HI.out HZ.out HM.out HS.out).mono ?_
  rintro e w1 ⟨rfl, hb1⟩
  go_wp2_with fail
  refine (valid_as true x w1 HX.out).mono ?_
  rintro e w2 ⟨rfl, rfl⟩
  go_wp2_with fail
  refine (valid_as false y w1 HY.out).mono ?_
  rintro e w2 ⟨rfl, rfl⟩
  go_wp2
  go_ret2
  exact (newRB_nil w1 _).mono hb1

theorem take_act {f : Nat} {r r' : List Nd} {x y : Int} {b : Bool} {n L : Nat} {K : Nat → Option Pr} {q : Pr} {g : Nat} {w : World} (h : ActOk f r x y r' b) (hn : NW w n L r.length K r) (hp : ∃ p', K x.toNat = some p' ∧ p'.blk = g) (hq : K y.toNat = some q) :
    Calls Try.prog f #[.pointer (some ⟨n, 0, none⟩), .pointer (some ⟨g, 0, none⟩), .pointer (some ⟨q.blk, 0, none⟩)] w fun e w' => e = .returned (.bool b) ∧ ∃ L' cap' K', NW w' n L' cap' K' r' ∧ Below n w w' := by
  obtain ⟨p', h1, rfl⟩ := hp
  exact h n L K p' q w hn h1 hq

theorem ix_join (w : World) : (Instr.index 72 (.agg tbl) (.int .i64 0)).run Try.prog w = .ok (.func (.func 82) #[] #[]) w := by kernel_rfl
theorem ix_fail (w : World) : (Instr.index 72 (.agg tbl) (.int .i64 1)).run Try.prog w = .ok (.func (.func 83) #[] #[]) w := by kernel_rfl
theorem ix_drop (w : World) : (Instr.index 72 (.agg tbl) (.int .i64 2)).run Try.prog w = .ok (.func (.func 84) #[] #[]) w := by kernel_rfl
theorem ix_adopt (w : World) : (Instr.index 72 (.agg tbl) (.int .i64 3)).run Try.prog w = .ok (.func (.func 85) #[] #[]) w := by kernel_rfl
theorem ix_closer (w : World) : (Instr.index 72 (.agg tbl) (.int .i64 4)).run Try.prog w = .ok (.func (.func 86) #[] #[]) w := by kernel_rfl
theorem ix_notify (w : World) : (Instr.index 72 (.agg tbl) (.int .i64 5)).run Try.prog w = .ok (.func (.func 87) #[] #[]) w := by kernel_rfl
theorem ix_stabilize (w : World) : (Instr.index 72 (.agg tbl) (.int .i64 6)).run Try.prog w = .ok (.func (.func 73) #[] #[]) w := by kernel_rfl

set_option maxHeartbeats 2000000 in
theorem take_join (a : Option Addr) (len cap : Nat) (r : List Nd) (x y : Int) (r' : List Nd) (b : Bool) (w : World) (h : RingAt w a r) (hz : r.length = len) (hm : len ≤ maxLen) (hb : arg3 r x y = true) (hact : ActOk 82 r x y r' b) (hv' : rvB r' = true) :
    Calls Try.prog 39 #[.slice a len cap, .int .i64 0, .int .i64 x, .int .i64 y] w (NewRB r' b w) := by
  have HI := Lib.hid h
  have HZ := Lib.hid hz
  have HM := Lib.hid hm
  have HA := Lib.hid hact
  have HV' := Lib.hid hv'
  have hb' : (safeB r = true ∧ ptB x = true) ∧ ptB y = true := by unfold arg3 at hb; simpa using hb
  have HS := Lib.hid hb'.1.1
  have HX := Lib.hid hb'.1.2
  have HY := Lib.hid hb'.2
  have HX2 := Lib.hid ((ptB_iff x).1 hb'.1.2)
  have HY2 := Lib.hid ((ptB_iff y).1 hb'.2)
  have hix := ix_join
  clear h hz hm hact hv' hb hb'
  go_enter Try.func39, Try.ntmps39
  go_wp2_with fail
  refine (rsafe_any true a len cap r w HI.out HZ.out HM.out HS.out).mono ?_
  rintro e w1 ⟨rfl, hb1⟩
  go_wp2_with fail
  refine (valid_as true x w1 HX.out).mono ?_
  rintro e w2 ⟨rfl, rfl⟩
  go_wp2_with fail
  refine (valid_as true y w1 HY.out).mono ?_
  rintro e w2 ⟨rfl, rfl⟩
  go_wp2_with fail
  refine (linkN_any a len cap r w1 (HI.out.keepB hb1 (Nat.le_refl _)) HZ.out (safe_rv HS.out)).mono ?_
  rintro e w2 ⟨K2, rfl, hn2, hb2⟩
  have HN2 := Lib.hid hn2
  have hB2 : Below w.heap.size w w2 := hb1.trans (hb2.mono hb1.size)
  have hs12 : w.heap.size ≤ w1.heap.size := hb1.size
  clear hn2
  generalize w1.heap.size = n at *
  generalize hL : n + 1 = L at *
  clear hL
  go_wp2_with fail
  go_region_held3 (fun _ => True) (trivial)
    (first
      | (go_at_call 61; refine (table_any _).mono ?_; rintro e w3 ⟨rfl, hb3⟩; have HN3 : Hid (NW w3 n L r.length K2 r) := (HN2.out.keep (w' := w2.drew) (fun _ _ => rfl)).keepB hb3)
      | (go_at_call_of 62 (Value.int IntKind.i64 x); refine (peerAt_nw _ _ _ _ r x _ HX2.out.1 HX2.out.2 HN3.out).mono ?_; rintro e w4 ⟨p4, K4, rfl, hp4, hn4, hle4, hb4, _⟩; have HN4 := Lib.hid hn4; have HP4 := Lib.hid hp4; clear hn4 hp4)
      | (go_at_call_of 62 (Value.int IntKind.i64 y); refine (peerAt_nw _ _ _ _ r y _ HY2.out.1 HY2.out.2 HN4.out).mono ?_; rintro e w5 ⟨p5, K5, rfl, hp5, hn5, hle5, hb5, _⟩; have HN5 := Lib.hid hn5; have HP5 := Lib.hid hp5; have HP5' := Lib.hid (hle5 _ _ HP4.out); clear hn5 hp5)
      | (go_at_call 82; refine (take_act HA.out HN5.out HP5'.out HP5.out).mono ?_; rintro e w6 ⟨rfl, L6, c6, K6, hn6, hb6⟩; have HN6 := Lib.hid hn6; clear hn6))
  all_goals
    have hB6 : Below w.heap.size w w6 := ((((hB2.trans ((Below.refl _ w2).drew.trans (hb3.mono hB2.size))).trans (hb4.mono hs12)).trans (hb5.mono hs12)).trans (hb6.mono hs12))
    go_wp2_with (go_at_call 53; refine (nodes_nw n L6 c6 K6 r' w6 HN6.out HV'.out).mono ?_; rintro e w7 ⟨N, cp, F, rfl, ho7, hc1, hc2, hb7⟩; have HO7 := Lib.hid ho7; clear ho7)
    go_ret2
    exact ⟨N, cp, F, rfl, HO7.out.wide hB6.size (Nat.le_refl _), hc1, hc2, hB6.trans (hb7.mono hB6.size)⟩

set_option maxHeartbeats 2000000 in
theorem take_fail (a : Option Addr) (len cap : Nat) (r : List Nd) (x y : Int) (r' : List Nd) (b : Bool) (w : World) (h : RingAt w a r) (hz : r.length = len) (hm : len ≤ maxLen) (hb : arg3 r x y = true) (hact : ActOk 83 r x y r' b) (hv' : rvB r' = true) :
    Calls Try.prog 39 #[.slice a len cap, .int .i64 1, .int .i64 x, .int .i64 y] w (NewRB r' b w) := by
  have HI := Lib.hid h
  have HZ := Lib.hid hz
  have HM := Lib.hid hm
  have HA := Lib.hid hact
  have HV' := Lib.hid hv'
  have hb' : (safeB r = true ∧ ptB x = true) ∧ ptB y = true := by unfold arg3 at hb; simpa using hb
  have HS := Lib.hid hb'.1.1
  have HX := Lib.hid hb'.1.2
  have HY := Lib.hid hb'.2
  have HX2 := Lib.hid ((ptB_iff x).1 hb'.1.2)
  have HY2 := Lib.hid ((ptB_iff y).1 hb'.2)
  have hix := ix_fail
  clear h hz hm hact hv' hb hb'
  go_enter Try.func39, Try.ntmps39
  go_wp2_with fail
  refine (rsafe_any true a len cap r w HI.out HZ.out HM.out HS.out).mono ?_
  rintro e w1 ⟨rfl, hb1⟩
  go_wp2_with fail
  refine (valid_as true x w1 HX.out).mono ?_
  rintro e w2 ⟨rfl, rfl⟩
  go_wp2_with fail
  refine (valid_as true y w1 HY.out).mono ?_
  rintro e w2 ⟨rfl, rfl⟩
  go_wp2_with fail
  refine (linkN_any a len cap r w1 (HI.out.keepB hb1 (Nat.le_refl _)) HZ.out (safe_rv HS.out)).mono ?_
  rintro e w2 ⟨K2, rfl, hn2, hb2⟩
  have HN2 := Lib.hid hn2
  have hB2 : Below w.heap.size w w2 := hb1.trans (hb2.mono hb1.size)
  have hs12 : w.heap.size ≤ w1.heap.size := hb1.size
  clear hn2
  generalize w1.heap.size = n at *
  generalize hL : n + 1 = L at *
  clear hL
  go_wp2_with fail
  go_region_held3 (fun _ => True) (trivial)
    (first
      | (go_at_call 61; refine (table_any _).mono ?_; rintro e w3 ⟨rfl, hb3⟩; have HN3 : Hid (NW w3 n L r.length K2 r) := (HN2.out.keep (w' := w2.drew) (fun _ _ => rfl)).keepB hb3)
      | (go_at_call_of 62 (Value.int IntKind.i64 x); refine (peerAt_nw _ _ _ _ r x _ HX2.out.1 HX2.out.2 HN3.out).mono ?_; rintro e w4 ⟨p4, K4, rfl, hp4, hn4, hle4, hb4, _⟩; have HN4 := Lib.hid hn4; have HP4 := Lib.hid hp4; clear hn4 hp4)
      | (go_at_call_of 62 (Value.int IntKind.i64 y); refine (peerAt_nw _ _ _ _ r y _ HY2.out.1 HY2.out.2 HN4.out).mono ?_; rintro e w5 ⟨p5, K5, rfl, hp5, hn5, hle5, hb5, _⟩; have HN5 := Lib.hid hn5; have HP5 := Lib.hid hp5; have HP5' := Lib.hid (hle5 _ _ HP4.out); clear hn5 hp5)
      | (go_at_call 83; refine (take_act HA.out HN5.out HP5'.out HP5.out).mono ?_; rintro e w6 ⟨rfl, L6, c6, K6, hn6, hb6⟩; have HN6 := Lib.hid hn6; clear hn6))
  all_goals
    have hB6 : Below w.heap.size w w6 := ((((hB2.trans ((Below.refl _ w2).drew.trans (hb3.mono hB2.size))).trans (hb4.mono hs12)).trans (hb5.mono hs12)).trans (hb6.mono hs12))
    go_wp2_with (go_at_call 53; refine (nodes_nw n L6 c6 K6 r' w6 HN6.out HV'.out).mono ?_; rintro e w7 ⟨N, cp, F, rfl, ho7, hc1, hc2, hb7⟩; have HO7 := Lib.hid ho7; clear ho7)
    go_ret2
    exact ⟨N, cp, F, rfl, HO7.out.wide hB6.size (Nat.le_refl _), hc1, hc2, hB6.trans (hb7.mono hB6.size)⟩

set_option maxHeartbeats 2000000 in
theorem take_drop (a : Option Addr) (len cap : Nat) (r : List Nd) (x y : Int) (r' : List Nd) (b : Bool) (w : World) (h : RingAt w a r) (hz : r.length = len) (hm : len ≤ maxLen) (hb : arg3 r x y = true) (hact : ActOk 84 r x y r' b) (hv' : rvB r' = true) :
    Calls Try.prog 39 #[.slice a len cap, .int .i64 2, .int .i64 x, .int .i64 y] w (NewRB r' b w) := by
  have HI := Lib.hid h
  have HZ := Lib.hid hz
  have HM := Lib.hid hm
  have HA := Lib.hid hact
  have HV' := Lib.hid hv'
  have hb' : (safeB r = true ∧ ptB x = true) ∧ ptB y = true := by unfold arg3 at hb; simpa using hb
  have HS := Lib.hid hb'.1.1
  have HX := Lib.hid hb'.1.2
  have HY := Lib.hid hb'.2
  have HX2 := Lib.hid ((ptB_iff x).1 hb'.1.2)
  have HY2 := Lib.hid ((ptB_iff y).1 hb'.2)
  have hix := ix_drop
  clear h hz hm hact hv' hb hb'
  go_enter Try.func39, Try.ntmps39
  go_wp2_with fail
  refine (rsafe_any true a len cap r w HI.out HZ.out HM.out HS.out).mono ?_
  rintro e w1 ⟨rfl, hb1⟩
  go_wp2_with fail
  refine (valid_as true x w1 HX.out).mono ?_
  rintro e w2 ⟨rfl, rfl⟩
  go_wp2_with fail
  refine (valid_as true y w1 HY.out).mono ?_
  rintro e w2 ⟨rfl, rfl⟩
  go_wp2_with fail
  refine (linkN_any a len cap r w1 (HI.out.keepB hb1 (Nat.le_refl _)) HZ.out (safe_rv HS.out)).mono ?_
  rintro e w2 ⟨K2, rfl, hn2, hb2⟩
  have HN2 := Lib.hid hn2
  have hB2 : Below w.heap.size w w2 := hb1.trans (hb2.mono hb1.size)
  have hs12 : w.heap.size ≤ w1.heap.size := hb1.size
  clear hn2
  generalize w1.heap.size = n at *
  generalize hL : n + 1 = L at *
  clear hL
  go_wp2_with fail
  go_region_held3 (fun _ => True) (trivial)
    (first
      | (go_at_call 61; refine (table_any _).mono ?_; rintro e w3 ⟨rfl, hb3⟩; have HN3 : Hid (NW w3 n L r.length K2 r) := (HN2.out.keep (w' := w2.drew) (fun _ _ => rfl)).keepB hb3)
      | (go_at_call_of 62 (Value.int IntKind.i64 x); refine (peerAt_nw _ _ _ _ r x _ HX2.out.1 HX2.out.2 HN3.out).mono ?_; rintro e w4 ⟨p4, K4, rfl, hp4, hn4, hle4, hb4, _⟩; have HN4 := Lib.hid hn4; have HP4 := Lib.hid hp4; clear hn4 hp4)
      | (go_at_call_of 62 (Value.int IntKind.i64 y); refine (peerAt_nw _ _ _ _ r y _ HY2.out.1 HY2.out.2 HN4.out).mono ?_; rintro e w5 ⟨p5, K5, rfl, hp5, hn5, hle5, hb5, _⟩; have HN5 := Lib.hid hn5; have HP5 := Lib.hid hp5; have HP5' := Lib.hid (hle5 _ _ HP4.out); clear hn5 hp5)
      | (go_at_call 84; refine (take_act HA.out HN5.out HP5'.out HP5.out).mono ?_; rintro e w6 ⟨rfl, L6, c6, K6, hn6, hb6⟩; have HN6 := Lib.hid hn6; clear hn6))
  all_goals
    have hB6 : Below w.heap.size w w6 := ((((hB2.trans ((Below.refl _ w2).drew.trans (hb3.mono hB2.size))).trans (hb4.mono hs12)).trans (hb5.mono hs12)).trans (hb6.mono hs12))
    go_wp2_with (go_at_call 53; refine (nodes_nw n L6 c6 K6 r' w6 HN6.out HV'.out).mono ?_; rintro e w7 ⟨N, cp, F, rfl, ho7, hc1, hc2, hb7⟩; have HO7 := Lib.hid ho7; clear ho7)
    go_ret2
    exact ⟨N, cp, F, rfl, HO7.out.wide hB6.size (Nat.le_refl _), hc1, hc2, hB6.trans (hb7.mono hB6.size)⟩

set_option maxHeartbeats 2000000 in
theorem take_adopt (a : Option Addr) (len cap : Nat) (r : List Nd) (x y : Int) (r' : List Nd) (b : Bool) (w : World) (h : RingAt w a r) (hz : r.length = len) (hm : len ≤ maxLen) (hb : arg3 r x y = true) (hact : ActOk 85 r x y r' b) (hv' : rvB r' = true) :
    Calls Try.prog 39 #[.slice a len cap, .int .i64 3, .int .i64 x, .int .i64 y] w (NewRB r' b w) := by
  have HI := Lib.hid h
  have HZ := Lib.hid hz
  have HM := Lib.hid hm
  have HA := Lib.hid hact
  have HV' := Lib.hid hv'
  have hb' : (safeB r = true ∧ ptB x = true) ∧ ptB y = true := by unfold arg3 at hb; simpa using hb
  have HS := Lib.hid hb'.1.1
  have HX := Lib.hid hb'.1.2
  have HY := Lib.hid hb'.2
  have HX2 := Lib.hid ((ptB_iff x).1 hb'.1.2)
  have HY2 := Lib.hid ((ptB_iff y).1 hb'.2)
  have hix := ix_adopt
  clear h hz hm hact hv' hb hb'
  go_enter Try.func39, Try.ntmps39
  go_wp2_with fail
  refine (rsafe_any true a len cap r w HI.out HZ.out HM.out HS.out).mono ?_
  rintro e w1 ⟨rfl, hb1⟩
  go_wp2_with fail
  refine (valid_as true x w1 HX.out).mono ?_
  rintro e w2 ⟨rfl, rfl⟩
  go_wp2_with fail
  refine (valid_as true y w1 HY.out).mono ?_
  rintro e w2 ⟨rfl, rfl⟩
  go_wp2_with fail
  refine (linkN_any a len cap r w1 (HI.out.keepB hb1 (Nat.le_refl _)) HZ.out (safe_rv HS.out)).mono ?_
  rintro e w2 ⟨K2, rfl, hn2, hb2⟩
  have HN2 := Lib.hid hn2
  have hB2 : Below w.heap.size w w2 := hb1.trans (hb2.mono hb1.size)
  have hs12 : w.heap.size ≤ w1.heap.size := hb1.size
  clear hn2
  generalize w1.heap.size = n at *
  generalize hL : n + 1 = L at *
  clear hL
  go_wp2_with fail
  go_region_held3 (fun _ => True) (trivial)
    (first
      | (go_at_call 61; refine (table_any _).mono ?_; rintro e w3 ⟨rfl, hb3⟩; have HN3 : Hid (NW w3 n L r.length K2 r) := (HN2.out.keep (w' := w2.drew) (fun _ _ => rfl)).keepB hb3)
      | (go_at_call_of 62 (Value.int IntKind.i64 x); refine (peerAt_nw _ _ _ _ r x _ HX2.out.1 HX2.out.2 HN3.out).mono ?_; rintro e w4 ⟨p4, K4, rfl, hp4, hn4, hle4, hb4, _⟩; have HN4 := Lib.hid hn4; have HP4 := Lib.hid hp4; clear hn4 hp4)
      | (go_at_call_of 62 (Value.int IntKind.i64 y); refine (peerAt_nw _ _ _ _ r y _ HY2.out.1 HY2.out.2 HN4.out).mono ?_; rintro e w5 ⟨p5, K5, rfl, hp5, hn5, hle5, hb5, _⟩; have HN5 := Lib.hid hn5; have HP5 := Lib.hid hp5; have HP5' := Lib.hid (hle5 _ _ HP4.out); clear hn5 hp5)
      | (go_at_call 85; refine (take_act HA.out HN5.out HP5'.out HP5.out).mono ?_; rintro e w6 ⟨rfl, L6, c6, K6, hn6, hb6⟩; have HN6 := Lib.hid hn6; clear hn6))
  all_goals
    have hB6 : Below w.heap.size w w6 := ((((hB2.trans ((Below.refl _ w2).drew.trans (hb3.mono hB2.size))).trans (hb4.mono hs12)).trans (hb5.mono hs12)).trans (hb6.mono hs12))
    go_wp2_with (go_at_call 53; refine (nodes_nw n L6 c6 K6 r' w6 HN6.out HV'.out).mono ?_; rintro e w7 ⟨N, cp, F, rfl, ho7, hc1, hc2, hb7⟩; have HO7 := Lib.hid ho7; clear ho7)
    go_ret2
    exact ⟨N, cp, F, rfl, HO7.out.wide hB6.size (Nat.le_refl _), hc1, hc2, hB6.trans (hb7.mono hB6.size)⟩

set_option maxHeartbeats 2000000 in
theorem take_closer (a : Option Addr) (len cap : Nat) (r : List Nd) (x y : Int) (r' : List Nd) (b : Bool) (w : World) (h : RingAt w a r) (hz : r.length = len) (hm : len ≤ maxLen) (hb : arg3 r x y = true) (hact : ActOk 86 r x y r' b) (hv' : rvB r' = true) :
    Calls Try.prog 39 #[.slice a len cap, .int .i64 4, .int .i64 x, .int .i64 y] w (NewRB r' b w) := by
  have HI := Lib.hid h
  have HZ := Lib.hid hz
  have HM := Lib.hid hm
  have HA := Lib.hid hact
  have HV' := Lib.hid hv'
  have hb' : (safeB r = true ∧ ptB x = true) ∧ ptB y = true := by unfold arg3 at hb; simpa using hb
  have HS := Lib.hid hb'.1.1
  have HX := Lib.hid hb'.1.2
  have HY := Lib.hid hb'.2
  have HX2 := Lib.hid ((ptB_iff x).1 hb'.1.2)
  have HY2 := Lib.hid ((ptB_iff y).1 hb'.2)
  have hix := ix_closer
  clear h hz hm hact hv' hb hb'
  go_enter Try.func39, Try.ntmps39
  go_wp2_with fail
  refine (rsafe_any true a len cap r w HI.out HZ.out HM.out HS.out).mono ?_
  rintro e w1 ⟨rfl, hb1⟩
  go_wp2_with fail
  refine (valid_as true x w1 HX.out).mono ?_
  rintro e w2 ⟨rfl, rfl⟩
  go_wp2_with fail
  refine (valid_as true y w1 HY.out).mono ?_
  rintro e w2 ⟨rfl, rfl⟩
  go_wp2_with fail
  refine (linkN_any a len cap r w1 (HI.out.keepB hb1 (Nat.le_refl _)) HZ.out (safe_rv HS.out)).mono ?_
  rintro e w2 ⟨K2, rfl, hn2, hb2⟩
  have HN2 := Lib.hid hn2
  have hB2 : Below w.heap.size w w2 := hb1.trans (hb2.mono hb1.size)
  have hs12 : w.heap.size ≤ w1.heap.size := hb1.size
  clear hn2
  generalize w1.heap.size = n at *
  generalize hL : n + 1 = L at *
  clear hL
  go_wp2_with fail
  go_region_held3 (fun _ => True) (trivial)
    (first
      | (go_at_call 61; refine (table_any _).mono ?_; rintro e w3 ⟨rfl, hb3⟩; have HN3 : Hid (NW w3 n L r.length K2 r) := (HN2.out.keep (w' := w2.drew) (fun _ _ => rfl)).keepB hb3)
      | (go_at_call_of 62 (Value.int IntKind.i64 x); refine (peerAt_nw _ _ _ _ r x _ HX2.out.1 HX2.out.2 HN3.out).mono ?_; rintro e w4 ⟨p4, K4, rfl, hp4, hn4, hle4, hb4, _⟩; have HN4 := Lib.hid hn4; have HP4 := Lib.hid hp4; clear hn4 hp4)
      | (go_at_call_of 62 (Value.int IntKind.i64 y); refine (peerAt_nw _ _ _ _ r y _ HY2.out.1 HY2.out.2 HN4.out).mono ?_; rintro e w5 ⟨p5, K5, rfl, hp5, hn5, hle5, hb5, _⟩; have HN5 := Lib.hid hn5; have HP5 := Lib.hid hp5; have HP5' := Lib.hid (hle5 _ _ HP4.out); clear hn5 hp5)
      | (go_at_call 86; refine (take_act HA.out HN5.out HP5'.out HP5.out).mono ?_; rintro e w6 ⟨rfl, L6, c6, K6, hn6, hb6⟩; have HN6 := Lib.hid hn6; clear hn6))
  all_goals
    have hB6 : Below w.heap.size w w6 := ((((hB2.trans ((Below.refl _ w2).drew.trans (hb3.mono hB2.size))).trans (hb4.mono hs12)).trans (hb5.mono hs12)).trans (hb6.mono hs12))
    go_wp2_with (go_at_call 53; refine (nodes_nw n L6 c6 K6 r' w6 HN6.out HV'.out).mono ?_; rintro e w7 ⟨N, cp, F, rfl, ho7, hc1, hc2, hb7⟩; have HO7 := Lib.hid ho7; clear ho7)
    go_ret2
    exact ⟨N, cp, F, rfl, HO7.out.wide hB6.size (Nat.le_refl _), hc1, hc2, hB6.trans (hb7.mono hB6.size)⟩

set_option maxHeartbeats 2000000 in
theorem take_notify (a : Option Addr) (len cap : Nat) (r : List Nd) (x y : Int) (r' : List Nd) (b : Bool) (w : World) (h : RingAt w a r) (hz : r.length = len) (hm : len ≤ maxLen) (hb : arg3 r x y = true) (hact : ActOk 87 r x y r' b) (hv' : rvB r' = true) :
    Calls Try.prog 39 #[.slice a len cap, .int .i64 5, .int .i64 x, .int .i64 y] w (NewRB r' b w) := by
  have HI := Lib.hid h
  have HZ := Lib.hid hz
  have HM := Lib.hid hm
  have HA := Lib.hid hact
  have HV' := Lib.hid hv'
  have hb' : (safeB r = true ∧ ptB x = true) ∧ ptB y = true := by unfold arg3 at hb; simpa using hb
  have HS := Lib.hid hb'.1.1
  have HX := Lib.hid hb'.1.2
  have HY := Lib.hid hb'.2
  have HX2 := Lib.hid ((ptB_iff x).1 hb'.1.2)
  have HY2 := Lib.hid ((ptB_iff y).1 hb'.2)
  have hix := ix_notify
  clear h hz hm hact hv' hb hb'
  go_enter Try.func39, Try.ntmps39
  go_wp2_with fail
  refine (rsafe_any true a len cap r w HI.out HZ.out HM.out HS.out).mono ?_
  rintro e w1 ⟨rfl, hb1⟩
  go_wp2_with fail
  refine (valid_as true x w1 HX.out).mono ?_
  rintro e w2 ⟨rfl, rfl⟩
  go_wp2_with fail
  refine (valid_as true y w1 HY.out).mono ?_
  rintro e w2 ⟨rfl, rfl⟩
  go_wp2_with fail
  refine (linkN_any a len cap r w1 (HI.out.keepB hb1 (Nat.le_refl _)) HZ.out (safe_rv HS.out)).mono ?_
  rintro e w2 ⟨K2, rfl, hn2, hb2⟩
  have HN2 := Lib.hid hn2
  have hB2 : Below w.heap.size w w2 := hb1.trans (hb2.mono hb1.size)
  have hs12 : w.heap.size ≤ w1.heap.size := hb1.size
  clear hn2
  generalize w1.heap.size = n at *
  generalize hL : n + 1 = L at *
  clear hL
  go_wp2_with fail
  go_region_held3 (fun _ => True) (trivial)
    (first
      | (go_at_call 61; refine (table_any _).mono ?_; rintro e w3 ⟨rfl, hb3⟩; have HN3 : Hid (NW w3 n L r.length K2 r) := (HN2.out.keep (w' := w2.drew) (fun _ _ => rfl)).keepB hb3)
      | (go_at_call_of 62 (Value.int IntKind.i64 x); refine (peerAt_nw _ _ _ _ r x _ HX2.out.1 HX2.out.2 HN3.out).mono ?_; rintro e w4 ⟨p4, K4, rfl, hp4, hn4, hle4, hb4, _⟩; have HN4 := Lib.hid hn4; have HP4 := Lib.hid hp4; clear hn4 hp4)
      | (go_at_call_of 62 (Value.int IntKind.i64 y); refine (peerAt_nw _ _ _ _ r y _ HY2.out.1 HY2.out.2 HN4.out).mono ?_; rintro e w5 ⟨p5, K5, rfl, hp5, hn5, hle5, hb5, _⟩; have HN5 := Lib.hid hn5; have HP5 := Lib.hid hp5; have HP5' := Lib.hid (hle5 _ _ HP4.out); clear hn5 hp5)
      | (go_at_call 87; refine (take_act HA.out HN5.out HP5'.out HP5.out).mono ?_; rintro e w6 ⟨rfl, L6, c6, K6, hn6, hb6⟩; have HN6 := Lib.hid hn6; clear hn6))
  all_goals
    have hB6 : Below w.heap.size w w6 := ((((hB2.trans ((Below.refl _ w2).drew.trans (hb3.mono hB2.size))).trans (hb4.mono hs12)).trans (hb5.mono hs12)).trans (hb6.mono hs12))
    go_wp2_with (go_at_call 53; refine (nodes_nw n L6 c6 K6 r' w6 HN6.out HV'.out).mono ?_; rintro e w7 ⟨N, cp, F, rfl, ho7, hc1, hc2, hb7⟩; have HO7 := Lib.hid ho7; clear ho7)
    go_ret2
    exact ⟨N, cp, F, rfl, HO7.out.wide hB6.size (Nat.le_refl _), hc1, hc2, hB6.trans (hb7.mono hB6.size)⟩

set_option maxHeartbeats 2000000 in
theorem take_stabilize (a : Option Addr) (len cap : Nat) (r : List Nd) (x y : Int) (r' : List Nd) (b : Bool) (w : World) (h : RingAt w a r) (hz : r.length = len) (hm : len ≤ maxLen) (hb : arg3 r x y = true) (hact : ActOk 73 r x y r' b) (hv' : rvB r' = true) :
    Calls Try.prog 39 #[.slice a len cap, .int .i64 6, .int .i64 x, .int .i64 y] w (NewRB r' b w) := by
  have HI := Lib.hid h
  have HZ := Lib.hid hz
  have HM := Lib.hid hm
  have HA := Lib.hid hact
  have HV' := Lib.hid hv'
  have hb' : (safeB r = true ∧ ptB x = true) ∧ ptB y = true := by unfold arg3 at hb; simpa using hb
  have HS := Lib.hid hb'.1.1
  have HX := Lib.hid hb'.1.2
  have HY := Lib.hid hb'.2
  have HX2 := Lib.hid ((ptB_iff x).1 hb'.1.2)
  have HY2 := Lib.hid ((ptB_iff y).1 hb'.2)
  have hix := ix_stabilize
  clear h hz hm hact hv' hb hb'
  go_enter Try.func39, Try.ntmps39
  go_wp2_with fail
  refine (rsafe_any true a len cap r w HI.out HZ.out HM.out HS.out).mono ?_
  rintro e w1 ⟨rfl, hb1⟩
  go_wp2_with fail
  refine (valid_as true x w1 HX.out).mono ?_
  rintro e w2 ⟨rfl, rfl⟩
  go_wp2_with fail
  refine (valid_as true y w1 HY.out).mono ?_
  rintro e w2 ⟨rfl, rfl⟩
  go_wp2_with fail
  refine (linkN_any a len cap r w1 (HI.out.keepB hb1 (Nat.le_refl _)) HZ.out (safe_rv HS.out)).mono ?_
  rintro e w2 ⟨K2, rfl, hn2, hb2⟩
  have HN2 := Lib.hid hn2
  have hB2 : Below w.heap.size w w2 := hb1.trans (hb2.mono hb1.size)
  have hs12 : w.heap.size ≤ w1.heap.size := hb1.size
  clear hn2
  generalize w1.heap.size = n at *
  generalize hL : n + 1 = L at *
  clear hL
  go_wp2_with fail
  go_region_held3 (fun _ => True) (trivial)
    (first
      | (go_at_call 61; refine (table_any _).mono ?_; rintro e w3 ⟨rfl, hb3⟩; have HN3 : Hid (NW w3 n L r.length K2 r) := (HN2.out.keep (w' := w2.drew) (fun _ _ => rfl)).keepB hb3)
      | (go_at_call_of 62 (Value.int IntKind.i64 x); refine (peerAt_nw _ _ _ _ r x _ HX2.out.1 HX2.out.2 HN3.out).mono ?_; rintro e w4 ⟨p4, K4, rfl, hp4, hn4, hle4, hb4, _⟩; have HN4 := Lib.hid hn4; have HP4 := Lib.hid hp4; clear hn4 hp4)
      | (go_at_call_of 62 (Value.int IntKind.i64 y); refine (peerAt_nw _ _ _ _ r y _ HY2.out.1 HY2.out.2 HN4.out).mono ?_; rintro e w5 ⟨p5, K5, rfl, hp5, hn5, hle5, hb5, _⟩; have HN5 := Lib.hid hn5; have HP5 := Lib.hid hp5; have HP5' := Lib.hid (hle5 _ _ HP4.out); clear hn5 hp5)
      | (go_at_call 73; refine (take_act HA.out HN5.out HP5'.out HP5.out).mono ?_; rintro e w6 ⟨rfl, L6, c6, K6, hn6, hb6⟩; have HN6 := Lib.hid hn6; clear hn6))
  all_goals
    have hB6 : Below w.heap.size w w6 := ((((hB2.trans ((Below.refl _ w2).drew.trans (hb3.mono hB2.size))).trans (hb4.mono hs12)).trans (hb5.mono hs12)).trans (hb6.mono hs12))
    go_wp2_with (go_at_call 53; refine (nodes_nw n L6 c6 K6 r' w6 HN6.out HV'.out).mono ?_; rintro e w7 ⟨N, cp, F, rfl, ho7, hc1, hc2, hb7⟩; have HO7 := Lib.hid ho7; clear ho7)
    go_ret2
    exact ⟨N, cp, F, rfl, HO7.out.wide hB6.size (Nat.le_refl _), hc1, hc2, hB6.trans (hb7.mono hB6.size)⟩

end Go.Proofs.Ytcbbdhmloniolaa
