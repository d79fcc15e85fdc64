/- Transfers, chunks and received items as lists. -/
import Derived.Test.YtoiecicfmnpnoaaRowsI
namespace Go.Proofs.Ytoiecicfmnpnoaa
set_option linter.unusedVariables false

/-- an item -/
def itB (z : Int) : Bool := decide (0 ≤ z) && decide (z ≤ 990)
theorem itB_iff (z : Int) : itB z = true ↔ 0 ≤ z ∧ z ≤ 990 := by simp [itB]
def itemsB (zs : List Int) : Bool := zs.all itB && decide (zs.length ≤ 20)
theorem items_len {zs : List Int} (h : itemsB zs = true) : zs.length ≤ 20 := by simp [itemsB] at h; exact h.2
theorem items_all {zs : List Int} (h : itemsB zs = true) : zs.all itB = true := by unfold itemsB at h; exact (Bool.and_eq_true _ _ ▸ h).1
theorem items_mk {zs : List Int} (h : zs.all itB = true) (hl : zs.length ≤ 20) : itemsB zs = true := by unfold itemsB; rw [h, decide_eq_true hl]; rfl
theorem items_nil : itemsB [] = true := rfl
/-- a transfer -/
structure Tf where
  items : List Int
  nxt : Int
  ack : Int
/-- a chunk -/
structure Ck where
  pos : Int
  items : List Int
def zTf : Tf := ⟨[], 0, 0⟩
def zCk : Ck := ⟨0, []⟩
def inB (n l h : Int) : Bool := decide (l ≤ n ∧ n ≤ h)
theorem inB_iff (n l h : Int) : inB n l h = true ↔ l ≤ n ∧ n ≤ h := by simp [inB]
def tfB (t : Tf) : Bool := itemsB t.items && inB t.nxt 0 t.items.length && inB t.ack 0 t.nxt
theorem tfB_iff (t : Tf) : tfB t = true ↔ itemsB t.items = true ∧ (0 ≤ t.nxt ∧ t.nxt ≤ t.items.length) ∧ 0 ≤ t.ack ∧ t.ack ≤ t.nxt := by
  simp only [tfB, Bool.and_eq_true, inB_iff, and_assoc]
def newT (zs : List Int) : Tf := if itemsB zs then ⟨zs, 0, 0⟩ else zTf
def endI (t : Tf) (v : Int) : Int := min (min t.items.length (t.nxt + 4)) (t.ack + v)
def askB (t : Tf) (v : Int) : Bool := tfB t && inB v 0 20
def sendB (t : Tf) (v : Int) : Bool := askB t v && decide (t.nxt < endI t v)
def sendT (t : Tf) (v : Int) : Tf := if askB t v then (if t.nxt < endI t v then ⟨t.items, endI t v, t.ack⟩ else t) else zTf
def cutL (zs : List Int) (a b : Int) : List Int := (zs.drop a.toNat).take (b.toNat - a.toNat)
def sendC (t : Tf) (v : Int) : Ck := if sendB t v then ⟨t.nxt, cutL t.items t.nxt (endI t v)⟩ else zCk
def ackB (t : Tf) (n : Int) : Bool := tfB t && inB n 0 t.nxt && decide (t.ack ≤ n)
def ackT (t : Tf) (n : Int) : Tf := if tfB t && inB n 0 t.nxt then ⟨t.items, t.nxt, max t.ack n⟩ else zTf
def resT (t : Tf) : Tf := if tfB t then ⟨t.items, t.ack, t.ack⟩ else zTf
def ckB (c : Ck) : Bool := itemsB c.items && inB c.items.length 1 4 && inB c.pos 0 (20 - c.items.length)
theorem ckB_iff (c : Ck) : ckB c = true ↔ itemsB c.items = true ∧ (1 ≤ c.items.length ∧ c.items.length ≤ 4) ∧ 0 ≤ c.pos ∧ c.pos ≤ 20 - c.items.length := by
  simp only [ckB, Bool.and_eq_true, inB_iff, and_assoc]
  constructor
  · rintro ⟨h1, h2, h3, h4, h5⟩; exact ⟨h1, by omega, by omega, h4, h5⟩
  · rintro ⟨h1, h2, h3, h4, h5⟩; exact ⟨h1, by omega, by omega, h4, h5⟩
/-- the first k items of a chunk fit those that were received -/
def fitTo (got : List Int) (c : Ck) (k : Nat) : Bool := (List.range k).all fun i => decide (c.pos.toNat + i < got.length → gt got (c.pos.toNat + i) = gt c.items i)
theorem fitTo_iff (got : List Int) (c : Ck) (k : Nat) : fitTo got c k = true ↔ ∀ i, i < k → c.pos.toNat + i < got.length → gt got (c.pos.toNat + i) = gt c.items i := by
  unfold fitTo; rw [List.all_eq_true]
  exact ⟨fun h i hi => of_decide_eq_true (h i (List.mem_range.2 hi)), fun h i hi => decide_eq_true (h i (List.mem_range.1 hi))⟩
theorem fit_next {got : List Int} {c : Ck} {k : Nat} (h : fitTo got c k = true) (h1 : c.pos.toNat + k < got.length → gt got (c.pos.toNat + k) = gt c.items k) : fitTo got c (k + 1) = true := by
  rw [fitTo_iff] at *
  intro i hi hl
  rcases Nat.lt_or_ge i k with e | e
  · exact h i e hl
  · obtain rfl : i = k := by omega
    exact h1 hl
theorem fit_no {got : List Int} {c : Ck} {k n : Nat} (hk : k < n) (h1 : c.pos.toNat + k < got.length) (h2 : ¬ gt got (c.pos.toNat + k) = gt c.items k) : fitTo got c n = false := by
  cases h : fitTo got c n
  · rfl
  · exact absurd ((fitTo_iff _ _ _).1 h k hk h1) h2
def okPut (got : List Int) (c : Ck) : Bool := itemsB got && ckB c
def putB (got : List Int) (c : Ck) : Bool := okPut got c && decide (c.pos ≤ got.length) && fitTo got c c.items.length
/-- the received items behind the first k items of a chunk -/
def putTo (got : List Int) (c : Ck) (k : Nat) : List Int := got ++ (c.items.take k).drop (got.length - c.pos.toNat)
def putL (got : List Int) (c : Ck) : List Int := if putB got c then putTo got c c.items.length else if okPut got c then got else []
theorem putTo_zero (got : List Int) (c : Ck) : putTo got c 0 = got := by simp [putTo]
theorem putTo_in {got : List Int} {c : Ck} {k : Nat} (h : c.pos.toNat + k < got.length) (hk : k < c.items.length) : putTo got c (k + 1) = putTo got c k := by
  unfold putTo
  rw [List.drop_eq_nil_of_le (by rw [List.length_take]; omega), List.drop_eq_nil_of_le (by rw [List.length_take]; omega)]
theorem putTo_out {got : List Int} {c : Ck} {k : Nat} (h0 : c.pos.toNat ≤ got.length) (h : got.length ≤ c.pos.toNat + k) (hk : k < c.items.length) : putTo got c (k + 1) = putTo got c k ++ [gt c.items k] := by
  unfold putTo
  rw [List.append_assoc]
  congr 1
  rw [List.take_add_one, List.drop_append_of_le_length (by rw [List.length_take]; omega), List.getElem?_eq_getElem hk, gt_get hk]
  rfl
theorem putTo_len {got : List Int} {c : Ck} {k : Nat} (h0 : c.pos.toNat ≤ got.length) (hk : k ≤ c.items.length) : (putTo got c k).length = max got.length (c.pos.toNat + k) := by
  unfold putTo
  rw [List.length_append, List.length_drop, List.length_take]; omega
theorem put_yes {got : List Int} {c : Ck} (h : putB got c = true) : itemsB got = true ∧ ckB c = true ∧ c.pos ≤ got.length ∧ fitTo got c c.items.length = true := by
  simp only [putB, okPut, Bool.and_eq_true, decide_eq_true_eq, and_assoc] at h; exact h
theorem put_len {got : List Int} {c : Ck} (h : putB got c = true) : (putL got c).length = max got.length (c.pos.toNat + c.items.length) := by
  obtain ⟨h1, h2, h3, h4⟩ := put_yes h
  have := (ckB_iff c).1 h2
  rw [putL, if_pos h, putTo_len (by omega) (Nat.le_refl _)]
theorem putL_le (got : List Int) (c : Ck) : (putL got c).length ≤ 20 := by
  by_cases h : putB got c = true
  · rw [put_len h]
    obtain ⟨h1, h2, h3, h4⟩ := put_yes h
    have := (ckB_iff c).1 h2
    have := items_len h1
    omega
  · rw [putL, if_neg h]
    split
    · rename_i h1
      simp only [okPut, Bool.and_eq_true] at h1
      exact items_len h1.1
    · simp
theorem gt_putTo {got : List Int} {c : Ck} {k i : Nat} (h0 : c.pos.toNat ≤ got.length) (hk : k ≤ c.items.length) (hi : i < max got.length (c.pos.toNat + k)) :
    gt (putTo got c k) i = if i < got.length then gt got i else gt c.items (i - c.pos.toNat) := by
  unfold putTo gt
  simp only [List.getD_eq_getElem?_getD]
  split
  · rename_i h; rw [List.getElem?_append_left h]
  · rename_i h
    rw [List.getElem?_append_right (by omega), List.getElem?_drop, List.getElem?_take_of_lt (by omega)]
    congr 2; omega
/-- the chunk lies at its place in the result -/
theorem put_chunk {got : List Int} {c : Ck} (h : putB got c = true) {i : Nat} (hi : i < c.items.length) : gt (putL got c) (c.pos.toNat + i) = gt c.items i := by
  obtain ⟨h1, h2, h3, h4⟩ := put_yes h
  have h5 := (ckB_iff c).1 h2
  rw [putL, if_pos h, gt_putTo (by omega) (Nat.le_refl _) (by omega)]
  split
  · rename_i hl; exact (fitTo_iff _ _ _).1 h4 i hi hl
  · congr 1; omega
theorem put_got {got : List Int} {c : Ck} (h : putB got c = true) {i : Nat} (hi : i < got.length) : gt (putL got c) i = gt got i := by
  obtain ⟨h1, h2, h3, h4⟩ := put_yes h
  have h5 := (ckB_iff c).1 h2
  rw [putL, if_pos h, gt_putTo (by omega) (Nat.le_refl _) (by omega), if_pos hi]
theorem list_ext_gt {a b : List Int} (hl : a.length = b.length) (h : ∀ i, i < a.length → gt a i = gt b i) : a = b := by
  apply List.ext_getElem hl
  intro i h1 h2
  rw [← gt_get h1, ← gt_get h2]; exact h i h1
theorem put_items {got : List Int} {c : Ck} (h : putB got c = true) : itemsB (putL got c) = true := by
  obtain ⟨h1, h2, h3, h4⟩ := put_yes h
  refine items_mk ?_ (putL_le _ _)
  have h5 := items_all h1
  have h6 := items_all ((ckB_iff c).1 h2).1
  rw [putL, if_pos h, putTo, List.all_append, h5, Bool.true_and, List.all_eq_true]
  intro x hx
  exact List.all_eq_true.1 h6 x (List.mem_of_mem_take (List.mem_of_mem_drop hx))
/-- putting the same chunk once more changes nothing -/
theorem put_twice {got : List Int} {c : Ck} (h : putB got c = true) : putB (putL got c) c = true ∧ putL (putL got c) c = putL got c := by
  obtain ⟨h1, h2, h3, h4⟩ := put_yes h
  have h5 := (ckB_iff c).1 h2
  have hl := put_len h
  have hb : putB (putL got c) c = true := by
    simp only [putB, okPut, Bool.and_eq_true, decide_eq_true_eq, put_items h, h2, true_and]
    refine ⟨by omega, (fitTo_iff _ _ _).2 fun i hi hl2 => put_chunk h hi⟩
  refine ⟨hb, ?_⟩
  conv => lhs; rw [putL, if_pos hb]
  have : putTo (putL got c) c c.items.length = putL got c ++ [] := by
    unfold putTo
    rw [List.drop_eq_nil_of_le (by rw [List.length_take]; omega)]
  rw [this, List.append_nil]
/-- what a valid transfer sends -/
theorem cutL_len {zs : List Int} {a b : Int} (ha : 0 ≤ a) (hab : a ≤ b) (hb : b ≤ zs.length) : (cutL zs a b).length = (b - a).toNat := by
  unfold cutL; rw [List.length_take, List.length_drop]; omega
theorem gt_cutL {zs : List Int} {a b : Int} {i : Nat} (hi : i < b.toNat - a.toNat) : gt (cutL zs a b) i = gt zs (a.toNat + i) := by
  unfold cutL gt
  simp only [List.getD_eq_getElem?_getD]
  rw [List.getElem?_take_of_lt hi, List.getElem?_drop]
theorem cut_items {zs : List Int} (h : itemsB zs = true) (a b : Int) : itemsB (cutL zs a b) = true := by
  refine items_mk ?_ (by unfold cutL; rw [List.length_take, List.length_drop]; have := items_len h; omega)
  rw [List.all_eq_true]
  intro x hx
  unfold cutL at hx
  exact List.all_eq_true.1 (items_all h) x (List.mem_of_mem_drop (List.mem_of_mem_take hx))
theorem send_yes {t : Tf} {v : Int} (h : sendB t v = true) : tfB t = true ∧ (0 ≤ v ∧ v ≤ 20) ∧ t.nxt < endI t v := by
  simp only [sendB, askB, Bool.and_eq_true, inB_iff, decide_eq_true_eq, and_assoc] at h
  exact ⟨h.1, ⟨h.2.1, h.2.2.1⟩, h.2.2.2⟩
theorem end_le (t : Tf) (v : Int) : endI t v ≤ t.items.length ∧ endI t v ≤ t.nxt + 4 ∧ endI t v ≤ t.ack + v := by unfold endI; omega
theorem sendT_yes {t : Tf} {v : Int} (h : sendB t v = true) : sendT t v = ⟨t.items, endI t v, t.ack⟩ := by
  unfold sendB at h
  obtain ⟨h1, h2⟩ := Bool.and_eq_true _ _ ▸ h
  rw [sendT, if_pos h1, if_pos (of_decide_eq_true h2)]
theorem sendT_valid {t : Tf} {v : Int} (h : sendB t v = true) : tfB (sendT t v) = true := by
  rw [sendT_yes h, tfB_iff]
  obtain ⟨h1, h2, h3⟩ := send_yes h
  obtain ⟨i1, i2, i3⟩ := (tfB_iff t).1 h1
  have := end_le t v
  exact ⟨i1, ⟨by show 0 ≤ endI t v; omega, this.1⟩, i3.1, by show t.ack ≤ endI t v; omega⟩
theorem sendC_ok {t : Tf} {v : Int} (h : sendB t v = true) : ckB (sendC t v) = true := by
  obtain ⟨h1, h2, h3⟩ := send_yes h
  obtain ⟨i1, i2, i3⟩ := (tfB_iff t).1 h1
  have he := end_le t v
  have hl := items_len i1
  have hc : (cutL t.items t.nxt (endI t v)).length = (endI t v - t.nxt).toNat := cutL_len (by omega) (by omega) he.1
  rw [sendC, if_pos h, ckB_iff]
  refine ⟨cut_items i1 _ _, ?_, ?_⟩
  · show 1 ≤ (cutL _ _ _).length ∧ (cutL _ _ _).length ≤ 4
    rw [hc]; omega
  · show 0 ≤ t.nxt ∧ t.nxt ≤ 20 - ((cutL _ _ _).length : Int)
    rw [hc]; omega
/-- a transfer that was sent from a prefix of the received items goes on -/
theorem put_next {t : Tf} {v : Int} {g : Nat} (h : sendB t v = true) (hg : t.nxt ≤ g) (hgl : g ≤ t.items.length) :
    putB (t.items.take g) (sendC t v) = true ∧ putL (t.items.take g) (sendC t v) = t.items.take (max g (endI t v).toNat) := by
  obtain ⟨h1, h2, h3⟩ := send_yes h
  obtain ⟨i1, i2, i3⟩ := (tfB_iff t).1 h1
  have he := end_le t v
  have hck := sendC_ok h
  have hc : (cutL t.items t.nxt (endI t v)).length = (endI t v - t.nxt).toNat := cutL_len (by omega) (by omega) he.1
  have hC : sendC t v = ⟨t.nxt, cutL t.items t.nxt (endI t v)⟩ := by rw [sendC, if_pos h]
  have hgt : ∀ i, i < g → gt (t.items.take g) i = gt t.items i := fun i hi => by
    unfold gt; simp only [List.getD_eq_getElem?_getD]; rw [List.getElem?_take_of_lt hi]
  have hlen : (t.items.take g).length = g := by rw [List.length_take]; omega
  have hb : putB (t.items.take g) (sendC t v) = true := by
    have hi : itemsB (t.items.take g) = true := by
      refine items_mk ?_ (by have := items_len i1; omega)
      rw [List.all_eq_true]; intro x hx
      exact List.all_eq_true.1 (items_all i1) x (List.mem_of_mem_take hx)
    simp only [putB, okPut, Bool.and_eq_true, decide_eq_true_eq, hi, hck, true_and]
    rw [hC]
    refine ⟨by show t.nxt ≤ _; rw [hlen]; exact hg, (fitTo_iff _ _ _).2 fun i hi hl => ?_⟩
    rw [hlen] at hl
    have hi' : i < (cutL t.items t.nxt (endI t v)).length := hi
    show gt (t.items.take g) (t.nxt.toNat + i) = gt (cutL t.items t.nxt (endI t v)) i
    rw [hgt _ hl, gt_cutL (by omega)]
  refine ⟨hb, ?_⟩
  have hl := put_len hb
  rw [hlen, hC] at hl
  have hl' : (putL (t.items.take g) (sendC t v)).length = max g (t.nxt.toNat + (cutL t.items t.nxt (endI t v)).length) := by rw [hC]; exact hl
  refine list_ext_gt (by rw [hl', List.length_take, hc]; omega) fun i hi => ?_
  rw [hl', hc] at hi
  have hr : gt (t.items.take (max g (endI t v).toNat)) i = gt t.items i := by
    unfold gt; simp only [List.getD_eq_getElem?_getD]; rw [List.getElem?_take_of_lt (by omega)]
  rw [hr]
  rcases Nat.lt_or_ge i g with e | e
  · rw [put_got hb (by rw [hlen]; exact e), hgt _ e]
  · have h6 := put_chunk hb (i := i - t.nxt.toNat) (by rw [hC]; show _ < (cutL _ _ _).length; rw [hc]; omega)
    rw [hC] at h6
    have e1 : (⟨t.nxt, cutL t.items t.nxt (endI t v)⟩ : Ck).pos.toNat + (i - t.nxt.toNat) = i := by show t.nxt.toNat + _ = _; omega
    rw [e1] at h6
    rw [hC, h6]
    show gt (cutL t.items t.nxt (endI t v)) (i - t.nxt.toNat) = _
    rw [gt_cutL (by omega), show t.nxt.toNat + (i - t.nxt.toNat) = i by omega]
end Go.Proofs.Ytoiecicfmnpnoaa
