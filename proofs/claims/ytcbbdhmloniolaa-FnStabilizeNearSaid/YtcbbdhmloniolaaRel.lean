/- Regions that draw their order, one of whose calls hands back a value of which only a part is known: for each operation a set of values, the same in every order. -/
import Derived.Test.YtcbbdhmloniolaaCls
namespace Go.Proofs.Ytcbbdhmloniolaa
set_option linter.unusedVariables false

section
variable {P : Program} {ops : Array Oper} {md : Region.Mode} {C : World → Prop} {F : Nat → Value → Prop}

/-- what an operation may lead to: a value of the set S, in a world of the class -/
def relOut (P : Program) (C : World → Prop) (S : Value → Prop) : Result Next → Prop
  | .ok (.value u) w' => C w' ∧ S u
  | .ok .skip w' => C w' ∧ S undef
  | .ok (.enter f args) w' => Calls P f args w' fun e w'' => ∃ v, e = .returned v ∧ S v ∧ C w''
  | _ => False
/-- operation o with set S, whatever the world of the class -/
def RelOp (P : Program) (ops : Array Oper) (C : World → Prop) (o : Oper) (S : Value → Prop) (a : Act) : Prop :=
  (Region.wanted o (yielded ops a.tmps) = true → ∀ w, C w → relOut P C S ((execOp a.eval o).run P w)) ∧ (Region.wanted o (yielded ops a.tmps) = false → S undef)
theorem RelOp.same {o : Oper} {S : Value → Prop} {a a' : Act} (h : RelOp P ops C o S a) (he : execOp a'.eval o = execOp a.eval o)
    (hw : Region.wanted o (yielded ops a'.tmps) = Region.wanted o (yielded ops a.tmps)) : RelOp P ops C o S a' := by
  unfold RelOp at *; rw [he, hw]; exact h
/-- whatever order is picked from here on -/
def relAny (P : Program) (md : Region.Mode) (ops : Array Oper) (C : World → Prop) (F : Nat → Value → Prop) (Q : Act → Prop) : Nat → Array Bool → Act → Prop
  | 0, l, a => Region.ready md ops l = [] ∧ Q a
  | n + 1, l, a => (Region.ready md ops l = [] → Q a) ∧
    ∀ i ∈ Region.ready md ops l, ∀ o, ops[i]? = some o → RelOp P ops C o (F i) a ∧ ∀ v, F i v → relAny P md ops C F Q n (l.setIfInBounds i true) (a.put o.dst v)

theorem wpOp_rel {i : Nat} {o : Oper} {a : Act} {S : Value → Prop} {K' : Act → World → Prop} {Q' : Exit → Act → World → Prop} {w : World} (ho : ops[i]? = some o) (hC : C w)
    (hr : RelOp P ops C o S a) (hk : ∀ v w', S v → C w' → K' (a.put o.dst v) w') : wpOp P ops Q' i K' a w := by
  unfold wpOp
  simp only [ho]
  cases hw : Region.wanted o (yielded ops a.tmps)
  · exact hk _ _ (hr.2 hw) hC
  · refine .inl ?_
    have h1 := hr.1 hw w hC
    unfold Oper.wp
    revert h1
    generalize (execOp a.eval o).run P w = x
    intro h1
    rcases x with ⟨n, w'⟩ | ⟨x, w'⟩
    · cases n <;> simp only [relOut] at h1 <;> simp only [Oper.upon]
      case value u => exact hk _ _ h1.2 h1.1
      case skip => exact hk _ _ h1.2 h1.1
      case enter f args => exact h1.mono fun e w'' ⟨v, he, hv, hc⟩ => by subst he; exact hk _ _ hv hc
    · simp only [relOut] at h1
theorem relAny_wp {Q : Act → Prop} {Q' : Exit → Act → World → Prop} (hQ : ∀ a w, C w → Q a → Q' .normal a w) (n : Nat) :
    ∀ (l : Array Bool) (a : Act) (w : World), C w → relAny P md ops C F Q n l a → wpAny P md ops Q' n l a w := by
  induction n with
  | zero => exact fun l a w hw h => ⟨h.1, hQ _ _ hw h.2⟩
  | succ n ih =>
    refine fun l a w hw h => ⟨fun h0 => hQ _ _ hw (h.1 h0), fun i hi => ?_⟩
    obtain ⟨_, o, ho, _⟩ := mem_ready.1 hi
    obtain ⟨h1, h2⟩ := h.2 i hi o ho
    exact wpOp_rel ho hw h1 fun v w' hv hc => ih _ _ _ hc (h2 v hv)
/-- an operation that may come up, and that all others wait for or are apart from, may be taken first -/
theorem relAny_take {Q : Act → Prop} {i : Nat} {oi : Oper} (hi : ops[i]? = some oi) (hsel : ∀ (j : Nat) (o : Oper) cs b, ops[j]? = some o → o.op ≠ .select cs b) (hne : ∃ v, F i v) (n : Nat) :
    ∀ (l : Array Bool) (a : Act), (∀ j oj, ops[j]? = some oj → j ≠ i → l.getD j true = false → (∀ e ∈ oj.after, Region.binds md e = true → e.on ≠ i) → oi.apart ops oj = true) →
      i ∈ Region.ready md ops l → RelOp P ops C oi (F i) a → (∀ v, F i v → relAny P md ops C F Q n (l.setIfInBounds i true) (a.put oi.dst v)) → relAny P md ops C F Q (n + 1) l a := by
  obtain ⟨v0, hv0⟩ := hne
  induction n with
  | zero =>
    intro l a _ hr hop H
    refine ⟨fun h => absurd hr (by rw [h]; exact List.not_mem_nil), fun j hj o ho => ?_⟩
    by_cases e : j = i
    · subst e
      rw [hi] at ho
      injection ho with ho
      subst ho
      exact ⟨hop, H⟩
    · exact absurd (ready_mono hj e) (by rw [(H v0 hv0).1]; exact List.not_mem_nil)
  | succ n ih =>
    intro l a hfree hr hop H
    refine ⟨fun h => absurd hr (by rw [h]; exact List.not_mem_nil), fun j hj o ho => ?_⟩
    by_cases e : j = i
    · subst e
      rw [hi] at ho
      injection ho with ho
      subst ho
      exact ⟨hop, H⟩
    · obtain ⟨hju, o', ho', hafter⟩ := mem_ready.1 hj
      rw [ho] at ho'
      injection ho' with ho'
      subst ho'
      have hiu := (mem_ready.1 hr).1
      have hwait : ∀ x ∈ o.after, Region.binds md x = true → x.on ≠ i := by
        intro x hx hb ex
        have h1 := hafter x hx hb
        rw [ex] at h1
        simp only [Array.getD_eq_getD_getElem?] at h1 hiu
        cases hz : l[i]? with
        | none => rw [hz] at hiu; simp at hiu
        | some y => rw [hz] at h1 hiu; simp at h1 hiu; rw [h1] at hiu; cases hiu
      obtain ⟨p1, p2, p3⟩ := Oper.apart_spec (hfree j o ho e hju hwait)
      have sj := fun cs b => hsel j o cs b ho
      have si := fun cs b => hsel i oi cs b hi
      have h0 := (H v0 hv0).2 j (ready_mono hj e) o ho
      refine ⟨h0.1.same (execOp_put o sj a oi.dst v0 p1).symm (wanted_put o a oi.dst v0 p1).symm, fun u hu => ?_⟩
      refine ih _ _ (fun k ok hk hki hku hno => hfree k ok hk hki ?_ hno) (ready_mono hr (Ne.symm e)) (hop.same (execOp_put oi si a o.dst u p3) (wanted_put oi a o.dst u p3)) (fun v hv => ?_)
      · by_cases ejk : j = k
        · subst ejk; exact hju
        · rw [← getD_set_ne true ejk]; exact hku
      · have h1 := ((H v hv).2 j (ready_mono hj e) o ho).2 u hu
        rw [Array.setIfInBounds_comm _ _ (Ne.symm e), Act.put_comm a v u p2] at h1
        exact h1

/-- the walk in the order of the text, a set of values for each operation -/
def relLex (P : Program) (ops : Array Oper) (C : World → Prop) (Q : Act → Prop) : List Oper → List (Value → Prop) → Act → Prop
  | [], _, a => Q a
  | _ :: _, [], _ => False
  | o :: rest, S :: L, a => (∃ v, S v) ∧ RelOp P ops C o S a ∧ ∀ v, S v → relLex P ops C Q rest L (a.put o.dst v)
theorem relAny_lex {Q : Act → Prop} (hs : Region.noSelect ops = true) (L0 : List (Value → Prop)) (l : List Oper) :
    ∀ (k : Nat) (listed : Array Bool) (L : List (Value → Prop)) (a : Act), (∀ j, l[j]? = ops[k + j]?) → (∀ j, L[j]? = L0[k + j]?) → Region.lexFrom md ops l.length k listed = true →
      relLex P ops C Q l L a → relAny P md ops C (fun i v => ∃ S, L0[i]? = some S ∧ S v) Q l.length listed a := by
  induction l with
  | nil => exact fun k listed L a _ _ hB h => ⟨by simpa [Region.lexFrom] using hB, by simpa [relLex] using h⟩
  | cons o l ih =>
    intro k listed L a hl hL hB h
    cases L with
    | nil => exact h.elim
    | cons S L =>
      obtain ⟨⟨v0, hv0⟩, hop, hrest⟩ := h
      have ho : ops[k]? = some o := by simpa using (hl 0).symm
      have hS : L0[k]? = some S := by simpa using (hL 0).symm
      have hset : (fun v => ∃ S, L0[k]? = some S ∧ S v) = S := by
        funext v; rw [hS]; exact propext ⟨fun ⟨S', e, h⟩ => by injection e with e; rw [e]; exact h, fun h => ⟨S, rfl, h⟩⟩
      simp only [List.length_cons, Region.lexFrom, Bool.and_eq_true] at hB
      refine relAny_take ho (Region.noSelect_spec hs) ⟨v0, S, hS, hv0⟩ l.length listed a (Region.free_spec ho hB.1.2) (by simpa using hB.1.1) (by rw [hset]; exact hop) (fun v hv => ?_)
      refine ih (k + 1) _ L _ (fun j => ?_) (fun j => ?_) hB.2 (hrest v (by rw [← hset]; exact hv))
      · have := hl (j + 1); rw [show k + 1 + j = k + (j + 1) by omega]; simpa using this
      · have := hL (j + 1); rw [show k + 1 + j = k + (j + 1) by omega]; simpa using this
/-- with whatever sets of values -/
def relEx (P : Program) (ops : Array Oper) (C : World → Prop) (Q : Act → Prop) (l : List Oper) (a : Act) : Prop := ∃ L, relLex P ops C Q l L a
/-- one walk serves every order -/
theorem wp_region_rel {id : Nat} {Q : Exit → Act → World → Prop} {a : Act} {w : World} {l : List Oper} (C : World → Prop) (hm : P.follows .mixedOrders = true) (hB : Region.lexB .any l.toArray = true)
    (hC : C { w with drawn := w.drawn + 1 }) (h : relEx P l.toArray C (fun a' => ∀ w', C w' → Q .normal a' w') l a) : (Code.region id l.toArray true).wp P Q a w := by
  obtain ⟨L, h⟩ := h
  unfold Region.lexB at hB
  obtain ⟨hs, hf⟩ := Bool.and_eq_true _ _ ▸ hB
  have hsz : l.toArray.size = l.length := by simp
  refine wp_region_any hm (relAny_wp (F := fun i v => ∃ S, L[i]? = some S ∧ S v) (Q := fun a' => ∀ w', C w' → Q .normal a' w') (fun a' w' hw' h => h w' hw') _ _ _ _ hC ?_)
  rw [hsz] at hf ⊢
  exact relAny_lex hs L l 0 _ L a (by simp) (by simp) hf h

theorem relEx_nil {Q : Act → Prop} {a : Act} (h : Q a) : relEx P ops C Q [] a := ⟨[], h⟩
theorem relEx_want {Q : Act → Prop} {a : Act} {o : Oper} {rest : List Oper} (hw : Region.wanted o (yielded ops a.tmps) = true)
    (h : ∀ K : Act → Prop, (∀ a, relEx P ops C Q rest a → K a) → o.quiet P a C K) : relEx P ops C Q (o :: rest) a := by
  obtain ⟨v, h1, L, h2⟩ := h (relEx P ops C Q rest) (fun _ h => h)
  refine ⟨(fun u => u = v) :: L, ⟨v, rfl⟩, ⟨fun _ w hC => ?_, fun h0 => (by rw [hw] at h0; cases h0)⟩, fun u hu => by rw [hu]; exact h2⟩
  have h3 := h1 w hC
  unfold Oper.quietAt at h3
  revert h3
  generalize (execOp a.eval o).run P w = x
  intro h3
  rcases x with ⟨n, w'⟩ | ⟨x, w'⟩
  · cases n <;> simp only [Oper.quietUpon] at h3 <;> simp only [relOut]
    case value u => obtain ⟨rfl, rfl⟩ := h3; exact ⟨hC, rfl⟩
    case skip => obtain ⟨rfl, rfl⟩ := h3; exact ⟨hC, rfl⟩
    case enter f args => obtain ⟨rfl, h4⟩ := h3; exact h4.mono fun e w'' ⟨he, hc⟩ => ⟨v, he, rfl, hc⟩
  · simp only [Oper.quietUpon] at h3
theorem relEx_skip {Q : Act → Prop} {a : Act} {o : Oper} {rest : List Oper} (hw : Region.wanted o (yielded ops a.tmps) = false) (h : relEx P ops C Q rest (a.put o.dst undef)) : relEx P ops C Q (o :: rest) a := by
  obtain ⟨L, h⟩ := h
  exact ⟨(fun u => u = undef) :: L, ⟨_, rfl⟩, ⟨fun h0 => (by rw [hw] at h0; cases h0), fun _ => rfl⟩, fun u hu => by rw [hu]; exact h⟩
/-- the call itself; behind it the values are given -/
theorem relEx_call {Q : Act → Prop} {a : Act} {o : Oper} {rest : List Oper} (S : Value → Prop) (L : List (Value → Prop)) (hne : ∃ v, S v) (f : FuncId) (args : Array Value)
    (hr : ∀ w, (execOp a.eval o).run P w = .ok (.enter f args) w) (hc : ∀ w, C w → Calls P f args w fun e w'' => ∃ v, e = .returned v ∧ S v ∧ C w'')
    (hw : Region.wanted o (yielded ops a.tmps) = true) (h : ∀ v, S v → relLex P ops C Q rest L (a.put o.dst v)) : relEx P ops C Q (o :: rest) a :=
  ⟨S :: L, hne, ⟨fun _ w hC => by rw [hr]; exact hc w hC, fun h0 => (by rw [hw] at h0; cases h0)⟩, h⟩
theorem relLex_nil {Q : Act → Prop} {a : Act} (h : Q a) : relLex P ops C Q [] [] a := h
theorem relLex_want {Q : Act → Prop} {a : Act} {o : Oper} {rest : List Oper} {L : List (Value → Prop)} (v : Value) (hw : Region.wanted o (yielded ops a.tmps) = true)
    (hr : ∀ w, C w → (execOp a.eval o).run P w = .ok (.value v) w) (h : relLex P ops C Q rest L (a.put o.dst v)) : relLex P ops C Q (o :: rest) ((fun u => u = v) :: L) a :=
  ⟨⟨v, rfl⟩, ⟨fun _ w hC => by rw [hr w hC]; exact ⟨hC, rfl⟩, fun h0 => (by rw [hw] at h0; cases h0)⟩, fun u hu => by rw [hu]; exact h⟩
/-- a call further on -/
theorem relLex_call {Q : Act → Prop} {a : Act} {o : Oper} {rest : List Oper} {S : Value → Prop} {L : List (Value → Prop)} (f : FuncId) (args : Array Value)
    (hr : ∀ w, (execOp a.eval o).run P w = .ok (.enter f args) w) (hc : ∀ w, C w → Calls P f args w fun e w'' => ∃ v, e = .returned v ∧ S v ∧ C w'')
    (hw : Region.wanted o (yielded ops a.tmps) = true) (hne : ∃ v, S v) (h : ∀ v, S v → relLex P ops C Q rest L (a.put o.dst v)) : relLex P ops C Q (o :: rest) (S :: L) a :=
  ⟨hne, ⟨fun _ w hC => by rw [hr]; exact hc w hC, fun h0 => (by rw [hw] at h0; cases h0)⟩, h⟩
theorem relLex_skip {Q : Act → Prop} {a : Act} {o : Oper} {rest : List Oper} {L : List (Value → Prop)} (hw : Region.wanted o (yielded ops a.tmps) = false)
    (h : relLex P ops C Q rest L (a.put o.dst undef)) : relLex P ops C Q (o :: rest) ((fun u => u = undef) :: L) a :=
  ⟨⟨_, rfl⟩, ⟨fun h0 => (by rw [hw] at h0; cases h0), fun _ => rfl⟩, fun u hu => by rw [hu]; exact h⟩
end
end Go.Proofs.Ytcbbdhmloniolaa
