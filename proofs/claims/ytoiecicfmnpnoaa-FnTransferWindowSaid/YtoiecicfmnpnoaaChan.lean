/- Channels in one goroutine inside the walk: regions that hold a send or a receive which need not wait. -/
import Derived.Test.YtoiecicfmnpnoaaRowsI
import Derived.Conc.LoneCalls
import Derived.StillTail
import Derived.StillTactics
import Derived.OrdersHeld
namespace Go.Proofs.Ytoiecicfmnpnoaa
open Go.RowKit Go.Conc
set_option linter.unusedVariables false

/-- a piece of code in a frame of this kind -/
def WpN (P : Program) (b : Frame) (c : Code) (Q : Exit → Act → World → Prop) (a : Act) (w : World) : Prop :=
  ∀ (k : List Item) (cs : List Frame), ∃ e a' w', Q e a' w' ∧ Arrives P (lone (b.at a (.code c :: k)) cs w) b k cs e a' w'
/-- the rest of a region in a frame of this kind -/
def MidN (P : Program) (b : Frame) (ops : Array Oper) (Q : Exit → Act → World → Prop) (l : List Nat) (a : Act) (w : World) : Prop :=
  ∀ (k : List Item) (cs : List Frame), ∃ e a' w', Q e a' w' ∧ Arrives P (lone (b.at a (.inRegion ops l :: k)) cs w) b k cs e a' w'

section
variable {P : Program} {b : Frame} {Q : Exit → Act → World → Prop} {a : Act} {w : World} {ops : Array Oper}

theorem wpn_of {c : Code} (h : c.wp P Q a w) : WpN P b c Q a w := fun k cs => h b k cs
theorem wpn_seq {x y : Code} (h : WpN P b x (Exit.then (WpN P b y Q) Q) a w) : WpN P b (.seq x y) Q a w := by
  intro k cs
  obtain ⟨e, a₁, w₁, hq, harr⟩ := h (.code y :: k) cs
  by_cases he : e = .normal
  · subst he
    obtain ⟨e₂, a₂, w₂, hq₂, harr₂⟩ := hq k cs
    exact ⟨e₂, a₂, w₂, hq₂, .of_steps (.head step_seq harr) harr₂⟩
  · have hq' : Q e a₁ w₁ := by cases e <;> first | exact absurd rfl he | exact hq
    exact ⟨e, a₁, w₁, hq', .of_steps (.one step_seq) (.pass (x := .code y) rfl (fun _ _ => .inl he) harr)⟩
theorem wpn_cond {c : Operand} {x y : Code} {t : Bool} (hc : a.eval c = .bool t) (h : WpN P b (if t then x else y) Q a w) : WpN P b (.cond c x y) Q a w := by
  intro k cs
  obtain ⟨e, a', w', q, r⟩ := h k cs
  exact ⟨e, a', w', q, .of_steps (.one (step_cond hc)) r⟩
theorem wpn_region {id : Nat} (h : MidN P b ops Q (List.range ops.size) a w) : WpN P b (.region id ops false) Q a w := by
  intro k cs
  obtain ⟨e, a', w', q, r⟩ := h k cs
  exact ⟨e, a', w', q, .of_steps (.one step_region) r⟩
theorem wpn_draw {id : Nat} (h : ∀ t, MidN P b ops Q (Region.schedule (P.follows .mixedOrders) ops t) a { w with drawn := w.drawn + 1 }) : WpN P b (.region id ops true) Q a w := by
  intro k cs
  obtain ⟨e, a', w', q, r⟩ := h (w.tape w.drawn (.order b.fn id)) k cs
  exact ⟨e, a', w', q, .of_steps (.one step_region_draw) r⟩
theorem calls_of_wpn {f : FuncId} {fn : Func} {c : Code} {args : Array Value} {R : Ending → World → Prop} (hf : P.funcs[f]? = some fn) (hb : fn.body = some c)
    (h : WpN P (base f) c (fun e a w => (e = .normal ∨ e = .ret) ∧ a.defers = [] ∧ ∃ v, (results fn a.tmps).run P w = .ok v w ∧ R (.returned v) w) { tmps := args ++ Array.replicate (fn.ntmps - args.size) undef, defers := [] } w) :
    Calls P f args w R := by
  intro cs
  have henter := enter_at (P := P) args hf hb
  obtain ⟨e, a', w', ⟨he, hd, v, hr, hR⟩, harr⟩ := h [] cs
  rw [← henter] at harr
  rcases he with rfl | rfl
  · exact ⟨.returned v, w', _, hR, Steps.trans harr (.one step_end), rfl, rfl, hd, rfl, fn, hf, hr⟩
  · obtain ⟨todo, hs⟩ := harr
    exact ⟨.returned v, w', _, hR, hs, rfl, rfl, hd, rfl, fn, hf, hr⟩

theorem mid_ops {l : List Nat} (h : wpOps P ops Q l a w) : MidN P b ops Q l a w := fun k cs => wp_ops l a w h b k cs
theorem mid_list {l : List Oper} {k : Nat} (hl : ∀ j, l[j]? = ops[k + j]?) (h : wpList P ops Q l a w) : MidN P b ops Q (List.range' k l.length) a w := by
  refine mid_ops ?_
  rw [wpOps_eq_wpList l k hl]; exact h
/-- one operation that is not a communication -/
theorem mid_step {QF : Exit → Act → World → Prop} {K : Act → World → Prop} {i : Nat} {o : Oper} {rest : List Nat} (hp : ∀ c a w, ¬ QF (.panic c) a w) (hu : ∀ a w, ¬ QF .outgrown a w) (ho : ops[i]? = some o)
    (hK : ∀ a' w', K a' w' → MidN P b ops Q rest a' w') (h : wpOp P ops QF i K a w) : MidN P b ops Q (i :: rest) a w := by
  intro k cs
  have hfin : ∀ (a : Act) v, (b.at a (.inRegion ops (i :: rest) :: k)).finish v = b.at (a.put o.dst v) (.inRegion ops rest :: k) := by
    intro a v; rw [Frame.finish_at, ho]; rfl
  unfold wpOp at h
  simp only [ho] at h
  by_cases hw : Region.wanted o (yielded ops a.tmps) = true
  · rw [if_pos hw] at h
    have h := h.resolve_right (fun hh => by obtain ⟨_, a₀, w₀, hq⟩ := hh; exact hu _ _ hq)
    have hg := stepG_op (P := P) (b := b) (k := k) (cs := cs) (w := w) (rest := rest) ho hw
    unfold Oper.wp at h
    generalize hr : (execOp a.eval o).run P w = r at h
    match r, hr, h with
    | .ok (.value v) w', hr, h =>
      obtain ⟨e, a', w'', hq, harr⟩ := hK _ _ h k cs
      exact ⟨e, a', w'', hq, .of_steps (.one (step_lone_go (by rw [hg, ← hfin]; simp [stepG.apply, hr]))) harr⟩
    | .ok .skip w', hr, h =>
      obtain ⟨e, a', w'', hq, harr⟩ := hK _ _ h k cs
      exact ⟨e, a', w'', hq, .of_steps (.one (step_lone_go (by rw [hg, ← hfin]; simp [stepG.apply, hr]))) harr⟩
    | .ok (.enter f args) w', hr, h =>
      obtain ⟨e, w'', fr, hR, hsteps, _, hleave⟩ := (show Calls P f args w' _ from h) (b.at a (.inRegion ops (i :: rest) :: k) :: cs)
      have hin : step P (lone (b.at a (.inRegion ops (i :: rest) :: k)) cs w) = .next (lone (Frame.enter P f args .normal) (b.at a (.inRegion ops (i :: rest) :: k) :: cs) w') :=
        step_lone_go (by rw [hg]; simp [stepG.apply, hr, Frame.at])
      match e, hR, hsteps, hleave with
      | .returned v, hR, hsteps, hleave =>
        obtain ⟨e, a', w₃, hq, harr⟩ := hK _ _ hR k cs
        refine ⟨e, a', w₃, hq, .of_steps (.head hin (Steps.trans hsteps (.one ?_))) harr⟩
        rw [← hfin]; exact step_leave_returned hleave
      | .panicked c, hR, _, _ => exact absurd hR (hp _ _ _)
      | .outgrown, hR, _, _ => obtain ⟨a₀, w₀, hq⟩ := hR; exact absurd hq (hu _ _)
    | .ok (.row row args) w', hr, h =>
      obtain ⟨v, w'', hR, hsteps⟩ := (show Rows P row args w' _ from h) (b.at a (.inRegion ops (i :: rest) :: k)) cs
      have hin : step P (lone (b.at a (.inRegion ops (i :: rest) :: k)) cs w) = .next (lone (Frame.ofRow P row args .normal) (b.at a (.inRegion ops (i :: rest) :: k) :: cs) w') :=
        step_lone_go (by rw [hg]; simp [stepG.apply, hr, Frame.at])
      obtain ⟨e, a', w₃, hq, harr⟩ := hK _ _ hR k cs
      refine ⟨e, a', w₃, hq, .of_steps (.head hin ?_) harr⟩
      rw [← hfin]; exact hsteps
    | .ok (.defer d) w', hr, h =>
      obtain ⟨e, a', w'', hq, harr⟩ := hK _ _ h k cs
      refine ⟨e, a', w'', hq, .of_steps (.one (step_lone_go ?_)) harr⟩
      have e1 := hfin { a with defers := d :: a.defers } undef
      rw [hg]; simp only [stepG.apply, Sem.runT_eq, hr, GStep.bare_after]
      exact congrArg (fun fr => GStep.go { frame := fr, callers := cs, status := .running, dying := none } w') e1
    | .halt (.panic v) w', hr, h => exact absurd h (hp _ _ _)
  · rw [if_neg hw] at h
    obtain ⟨e, a', w', hq, harr⟩ := hK _ _ h k cs
    have hs := step_op_skip (P := P) (b := b) (a := a) (k := k) (cs := cs) (w := w) (ops := ops) (i := i) (rest := rest) (by simp [ho]; simpa using hw)
    simp only [ho, Option.bind_some] at hs
    exact ⟨e, a', w', hq, .of_steps (.one hs) harr⟩
/-- a send into a buffer with room -/
theorem mid_send {i : Nat} {o : Oper} {rest : List Nat} {c cap s r : Nat} {buf : Array Value} {v z : Value} {tm : Bool} {w₁ : World} (hk : b.kind ≠ .early) (ho : ops[i]? = some o) (hw : Region.wanted o (yielded ops a.tmps) = true)
    (hr : (execOp a.eval o).run P w = .ok (.comm #[scase c v z] true .send) w₁) (hc : w₁.heap[c]? = some (.chan cap buf false s r tm)) (hroom : buf.size < cap)
    (h : MidN P b ops Q rest (a.put o.dst undef) (w₁.setChan c cap (buf.push v) false (s + 1) r tm)) : MidN P b ops Q (i :: rest) a w := by
  intro k cs
  obtain ⟨e, a', w', hq, harr⟩ := h k cs
  refine ⟨e, a', w', hq, .of_steps (.one ?_) harr⟩
  have hs := step_lone_send_room (stepG_comm (k := k) (cs := cs) (rest := rest) (b := b) ho hw hk hr) hc hroom
  rw [Frame.finish_at, ho] at hs
  exact hs
/-- a receive with comma-ok from a buffer that holds something -/
theorem mid_recv {i : Nat} {o : Oper} {rest : List Nat} {c cap s r : Nat} {buf : Array Value} {z : Value} {tm cl : Bool} {w₁ : World} (hk : b.kind ≠ .early) (ho : ops[i]? = some o) (hw : Region.wanted o (yielded ops a.tmps) = true)
    (hr : (execOp a.eval o).run P w = .ok (.comm #[rcase c z] true (.recv true)) w₁) (hc : w₁.heap[c]? = some (.chan cap buf cl s r tm)) (hsome : 0 < buf.size)
    (h : MidN P b ops Q rest (a.put o.dst (.tuple #[buf.getD 0 undef, .bool true])) (w₁.setChan c cap (buf.extract 1 buf.size) cl s (r + 1) tm)) : MidN P b ops Q (i :: rest) a w := by
  intro k cs
  obtain ⟨e, a', w', hq, harr⟩ := h k cs
  refine ⟨e, a', w', hq, .of_steps (.one ?_) harr⟩
  have hs := step_lone_recv_buf true (stepG_comm (k := k) (cs := cs) (rest := rest) (b := b) ho hw hk hr) hc hsome
  rw [Frame.finish_at, ho] at hs
  exact hs
/-- a receive with comma-ok from a closed channel whose buffer is empty -/
theorem mid_shut {i : Nat} {o : Oper} {rest : List Nat} {c cap s r : Nat} {z : Value} {tm : Bool} {w₁ : World} (hk : b.kind ≠ .early) (ho : ops[i]? = some o) (hw : Region.wanted o (yielded ops a.tmps) = true)
    (hr : (execOp a.eval o).run P w = .ok (.comm #[rcase c z] true (.recv true)) w₁) (hc : w₁.heap[c]? = some (.chan cap #[] true s r tm))
    (h : MidN P b ops Q rest (a.put o.dst (.tuple #[z, .bool false])) w₁) : MidN P b ops Q (i :: rest) a w := by
  intro k cs
  obtain ⟨e, a', w', hq, harr⟩ := h k cs
  refine ⟨e, a', w', hq, .of_steps (.one ?_) harr⟩
  have hs := step_lone_recv_shut true (stepG_comm (k := k) (cs := cs) (rest := rest) (b := b) ho hw hk hr) hc
  rw [Frame.finish_at, ho] at hs
  exact hs

/-- behind the operations ahead of a communication -/
def Ahead (K : Act → World → Prop) : Exit → Act → World → Prop := fun e a w => e = .normal ∧ K a w
theorem ahead_panic {K : Act → World → Prop} : ∀ c a w, ¬ Ahead K (.panic c) a w := fun _ _ _ h => by cases h.1
theorem ahead_out {K : Act → World → Prop} : ∀ a w, ¬ Ahead K .outgrown a w := fun _ _ h => by cases h.1
/-- the operations ahead of a communication, in the text's order -/
theorem mid_pre {K : Act → World → Prop} {rest : List Nat} (hK : ∀ a' w', K a' w' → MidN P b ops Q rest a' w') :
    ∀ (l : List Oper) (k : Nat) (a : Act) (w : World), (∀ j, j < l.length → l[j]? = ops[k + j]?) → wpList P ops (Ahead K) l a w → MidN P b ops Q (List.range' k l.length ++ rest) a w
  | [], k, a, w, _, h => hK _ _ h.2
  | o :: l, k, a, w, hl, h => by
    have h0 : ops[k]? = some o := by simpa using (hl 0 (by simp)).symm
    have hw : wpOp P ops (Ahead K) k (wpList P ops (Ahead K) l) a w := by unfold wpOp; simp only [h0]; exact h
    simp only [List.length_cons, List.range'_succ, List.cons_append]
    exact mid_step ahead_panic ahead_out h0 (fun a' w' h' => mid_pre hK l (k + 1) a' w' (fun j hj => by have := hl (j + 1) (by simp; omega); simpa [Nat.add_assoc, Nat.add_comm 1 j] using this) h') hw

/-- whatever order is picked, the last operation, number n, comes last; S holds behind each one -/
def anyS (P : Program) (ops : Array Oper) (S : World → Prop) (K : Act → World → Prop) (n : Nat) : Nat → Array Bool → Act → World → Prop
  | 0, listed, a, w => Region.ready .any ops listed = [n] ∧ K a w
  | f + 1, listed, a, w => Region.ready .any ops listed ≠ [] ∧ ∀ i ∈ Region.ready .any ops listed, wpOp P ops (Ahead K) i (fun a' w' => S w' ∧ anyS P ops S K n f (listed.setIfInBounds i true) a' w') a w
theorem anyS_sound {S : World → Prop} {K : Act → World → Prop} {n : Nat} (hK : ∀ a' w', K a' w' → MidN P b ops Q [n] a' w') :
    ∀ (f t : Nat) (listed : Array Bool) (a : Act) (w : World), anyS P ops S K n f listed a w → MidN P b ops Q (Region.linearise.go .any ops (f + 1) t listed []) a w := by
  intro f
  induction f with
  | zero =>
    intro t listed a w h
    simp only [Region.linearise.go]
    change MidN P b ops Q (match (Region.ready .any ops listed)[t % (Region.ready .any ops listed).length]? with
      | some i => [i].reverse
      | none => [].reverse) a w
    rw [h.1]
    have : t % [n].length = 0 := by simp; omega
    rw [this]
    exact hK _ _ h.2
  | succ f ih =>
    intro t listed a w h
    rw [Region.linearise.go]
    change MidN P b ops Q (match (Region.ready .any ops listed)[t % (Region.ready .any ops listed).length]? with
      | some i => Region.linearise.go .any ops (f + 1) (t / (Region.ready .any ops listed).length) (listed.setIfInBounds i true) [i]
      | none => [].reverse) a w
    cases hi : (Region.ready .any ops listed)[t % (Region.ready .any ops listed).length]? with
    | none =>
      exfalso
      have hl : 0 < (Region.ready .any ops listed).length := List.length_pos_iff.2 h.1
      have := List.getElem?_eq_none_iff.1 hi
      have := Nat.mod_lt t hl
      omega
    | some i =>
      simp only []
      have hmem := List.mem_of_getElem? hi
      rw [linearise_go_acc, List.reverse_singleton, List.singleton_append]
      obtain ⟨_, o, ho, _⟩ := mem_ready.1 hmem
      exact mid_step ahead_panic ahead_out ho (fun a' w' h' => ih _ _ a' w' h'.2) (h.2 i hmem)
/-- what has come up is closed under what it waits for, and number n has not come up -/
def closedB (ops : Array Oper) (n : Nat) (listed : Array Bool) : Bool :=
  decide (listed.size = ops.size) && (List.range ops.size).all (fun j => !listed.getD j false || ((ops[j]?).map (·.after.all fun e => !Region.binds .any e || listed.getD e.on false)).getD true) && decide (n + 1 = ops.size) && !listed.getD n true
theorem closed_inv {n : Nat} {listed : Array Bool} (h : closedB ops n listed = true) : HeadInv .any ops n listed := by
  simp only [closedB, Bool.and_eq_true, decide_eq_true_eq, Bool.not_eq_true'] at h
  obtain ⟨⟨⟨h1, h2⟩, h3⟩, h4⟩ := h
  refine ⟨h1, fun j oj hj hl e he hb => ?_, fun t ht ht' => by rw [show t = n by omega]; exact h4⟩
  have hlt : j < ops.size := (Array.getElem?_eq_some_iff.1 hj).1
  have h5 := List.all_eq_true.1 h2 j (List.mem_range.2 hlt)
  rw [hl, hj] at h5
  simp only [Bool.not_true, Bool.false_or, Option.map_some, Option.getD_some] at h5
  have h6 := Array.all_eq_true_iff_forall_mem.1 h5 e he
  rw [hb] at h6
  simpa using h6
theorem anyS_first {S : World → Prop} {K : Act → World → Prop} {n i : Nat} {oi : Oper} {v : Value} (hi : ops[i]? = some oi) (hsel : ∀ (j : Nat) (o : Oper) cs b, ops[j]? = some o → o.op ≠ .select cs b)
    (hs : Region.sinkB .any ops n = true) (hn : n + 1 = ops.size) (hin : i < n) :
    ∀ (f : Nat) (listed : Array Bool) (a : Act) (w : World), HeadInv .any ops n listed →
      (∀ j oj, ops[j]? = some oj → j ≠ i → listed.getD j true = false → (∀ e ∈ oj.after, Region.binds .any e = true → e.on ≠ i) → oi.apart ops oj = true) →
      i ∈ Region.ready .any ops listed → YieldsIf P ops S oi v a → S w →
      anyS P ops S K n f (listed.setIfInBounds i true) (a.put oi.dst v) w → anyS P ops S K n (f + 1) listed a w := by
  have hc : Region.chainB .any ops n = true := by
    unfold Region.chainB
    rw [List.all_eq_true]
    intro t ht
    have := List.mem_range.1 ht
    simp only [Bool.or_eq_true, decide_eq_true_eq]
    exact .inl (by omega)
  intro f
  induction f with
  | zero =>
    intro listed a w inv _ hr hy hS H
    have hun := (mem_ready.1 hr).1
    refine ⟨fun h => (by rw [h] at hr; cases hr), fun j hj => ?_⟩
    by_cases hji : j = i
    · subst hji; exact hy.wpOp hi hS ⟨hS, H⟩
    · have h1 := ready_mono hj hji
      rw [H.1] at h1
      have hjn : j = n := by simpa using h1
      exact absurd hj (tail_waits hs hc (by omega) inv _ i rfl hin hun j (by omega))
  | succ f ih =>
    intro listed a w inv hfree hr hy hS H
    have hun := (mem_ready.1 hr).1
    refine ⟨fun h => (by rw [h] at hr; cases hr), fun j hj => ?_⟩
    by_cases hji : j = i
    · subst hji; exact hy.wpOp hi hS ⟨hS, H⟩
    · have hjn : j < n := by
        rcases Nat.lt_or_ge j n with h | h
        · exact h
        · exact absurd hj (tail_waits hs hc (by omega) inv _ i rfl hin hun j h)
      have h1 := H.2 j (ready_mono hj hji)
      obtain ⟨hjun, oj, hoj, hall⟩ := mem_ready.1 hj
      have hnot : ∀ e ∈ oj.after, Region.binds .any e = true → e.on ≠ i := fun e he hb heq => by
        have h2 := hall e he hb
        rw [heq, getD_both hun] at h2
        cases h2
      have h2 := wpOp_putIf (S := S) hoj (hfree j oj hoj hji hjun hnot) (fun cs b => hsel i oi cs b hi) (fun cs b => hsel j oj cs b hoj) (fun c a w h => absurd h (ahead_panic _ _ _)) hy h1
      have hfree' : ∀ k ok, ops[k]? = some ok → k ≠ i → (listed.setIfInBounds j true).getD k true = false →
          (∀ e ∈ ok.after, Region.binds .any e = true → e.on ≠ i) → oi.apart ops ok = true := fun k ok hk hki hunk hno => by
        refine hfree k ok hk hki ?_ hno
        by_cases hjk : j = k
        · subst hjk; exact hjun
        · rw [getD_set_ne true hjk] at hunk; exact hunk
      refine wpOp_mono (fun a' w' h3 => ⟨h3.2.1, ih (listed.setIfInBounds j true) a' w' (inv.set hj hjn) hfree' (ready_mono hr (Ne.symm hji)) h3.1 h3.2.1 ?_⟩) h2
      rw [Array.setIfInBounds_comm _ _ hji]
      exact h3.2.2
/-- take number i first -/
theorem anyS_take {S : World → Prop} {K : Act → World → Prop} {n : Nat} (i : Nat) {oi : Oper} (v : Value) {f : Nat} {listed : Array Bool} (hi : ops[i]? = some oi)
    (hB : (Region.noSelect ops && Region.free .any ops listed i && (Region.ready .any ops listed).contains i && Region.sinkB .any ops n && closedB ops n listed && decide (i < n)) = true)
    (hy : YieldsIf P ops S oi v a) (hS : S w) (h : anyS P ops S K n f (listed.setIfInBounds i true) (a.put oi.dst v) w) : anyS P ops S K n (f + 1) listed a w := by
  simp only [Bool.and_eq_true, decide_eq_true_eq] at hB
  obtain ⟨⟨⟨⟨⟨h1, h2⟩, h3⟩, h4⟩, h5⟩, h6⟩ := hB
  have h7 : n + 1 = ops.size := by
    simp only [closedB, Bool.and_eq_true, decide_eq_true_eq] at h5; exact h5.1.2
  exact anyS_first hi (Region.noSelect_spec h1) h4 h7 h6 f listed a w (closed_inv h5) (Region.free_spec hi h2) (by simpa using h3) hy hS h
/-- only number i may come up -/
theorem anyS_one {S : World → Prop} {K : Act → World → Prop} {n : Nat} (i : Nat) {f : Nat} {listed : Array Bool} (hr : decide (Region.ready .any ops listed = [i]) = true)
    (h : wpOp P ops (Ahead K) i (fun a' w' => S w' ∧ anyS P ops S K n f (listed.setIfInBounds i true) a' w') a w) : anyS P ops S K n (f + 1) listed a w := by
  have hr := of_decide_eq_true hr
  refine ⟨by rw [hr]; simp, fun j hj => ?_⟩
  rw [hr] at hj
  have : j = i := by simpa using hj
  subst this; exact h
theorem anyS_done {S : World → Prop} {K : Act → World → Prop} {n : Nat} {listed : Array Bool} (hr : decide (Region.ready .any ops listed = [n]) = true) (h : K a w) : anyS P ops S K n 0 listed a w := ⟨of_decide_eq_true hr, h⟩
/-- a region that draws its order and ends, in each, with a communication -/
theorem wpn_draw_last {id : Nat} (S : World → Prop) {K : Act → World → Prop} (n : Nat) (hm : P.follows .mixedOrders = true) (hn : decide (n + 1 = ops.size) = true)
    (hK : ∀ a' w', K a' w' → MidN P b ops Q [n] a' w') (h : anyS P ops S K n n (Array.replicate (n + 1) false) a w.drew) : WpN P b (.region id ops true) Q a w := by
  have hn := of_decide_eq_true hn
  refine wpn_draw fun t => ?_
  simp only [Region.schedule, hm, Bool.true_or, if_true]
  have := anyS_sound (b := b) hK _ t _ _ _ h
  rw [hn] at this
  exact this
end
end Go.Proofs.Ytoiecicfmnpnoaa
