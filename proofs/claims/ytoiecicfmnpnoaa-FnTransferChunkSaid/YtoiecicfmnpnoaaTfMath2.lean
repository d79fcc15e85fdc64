/- Whole transfers, with and without failures. -/
import Derived.Test.YtoiecicfmnpnoaaTfMath
namespace Go.Proofs.Ytoiecicfmnpnoaa
set_option linter.unusedVariables false

theorem take_le_len {zs : List Int} {g : Nat} (h : g ≤ zs.length) : (zs.take g).length = g := by rw [List.length_take]; omega
theorem tf_mk {zs : List Int} {n a : Int} (hi : itemsB zs = true) (h1 : a ≤ n) (h2 : n ≤ zs.length) (h0 : 0 ≤ a) : tfB ⟨zs, n, a⟩ = true := by
  rw [tfB_iff]; exact ⟨hi, ⟨by show 0 ≤ n; omega, h2⟩, h0, h1⟩
theorem send_iff {zs : List Int} {n a v : Int} (ht : tfB ⟨zs, n, a⟩ = true) (hv : 0 ≤ v ∧ v ≤ 20) : sendB ⟨zs, n, a⟩ v = decide (n < min (min (zs.length : Int) (n + 4)) (a + v)) := by
  unfold sendB askB
  rw [ht, (inB_iff v 0 20).2 hv]; rfl
/-- nothing is sent: the transfer is unchanged -/
theorem send_none {t : Tf} {v : Int} (ht : tfB t = true) (hv : 0 ≤ v ∧ v ≤ 20) (h : sendB t v = false) : sendT t v = t ∧ sendC t v = zCk := by
  have ha : askB t v = true := by unfold askB; rw [ht, (inB_iff v 0 20).2 hv]; rfl
  unfold sendB at h
  rw [ha, Bool.true_and, decide_eq_false_iff_not] at h
  refine ⟨by rw [sendT, if_pos ha, if_neg h], ?_⟩
  rw [sendC, if_neg]
  unfold sendB; rw [ha, Bool.true_and, decide_eq_true_eq]; exact h
theorem res_mk {t : Tf} (h : tfB t = true) : resT t = ⟨t.items, t.ack, t.ack⟩ ∧ tfB (resT t) = true := by
  have e : resT t = ⟨t.items, t.ack, t.ack⟩ := by rw [resT, if_pos h]
  obtain ⟨h1, h2, h3⟩ := (tfB_iff t).1 h
  exact ⟨e, by rw [e]; exact tf_mk h1 (Int.le_refl _) (by omega) h3.1⟩
theorem ack_mk {t : Tf} {n : Int} (h : tfB t = true) (hn : 0 ≤ n ∧ n ≤ t.nxt) : ackT t n = ⟨t.items, t.nxt, max t.ack n⟩ ∧ tfB (ackT t n) = true ∧ ackB t n = decide (t.ack ≤ n) := by
  have hb : (tfB t && inB n 0 t.nxt) = true := by rw [h, (inB_iff _ _ _).2 hn]; rfl
  have e : ackT t n = ⟨t.items, t.nxt, max t.ack n⟩ := by rw [ackT, if_pos hb]
  obtain ⟨h1, h2, h3⟩ := (tfB_iff t).1 h
  exact ⟨e, by rw [e]; exact tf_mk h1 (by omega) h2.2 (by omega), by rw [ackB, hb, Bool.true_and]⟩

/-- at the head of the loop of a whole transfer -/
structure AllAt (zs : List Int) (i g : Nat) (x : Tf) (got : List Int) : Prop where
  x : x = ⟨zs, g, g⟩
  got : got = zs.take g
  le : g ≤ zs.length
  more : i ≤ g
theorem all_start {zs : List Int} (hi : itemsB zs = true) : AllAt zs 0 0 (newT zs) [] := ⟨by rw [newT, if_pos hi]; rfl, by simp, Nat.zero_le _, Nat.le_refl _⟩
theorem all_end {zs : List Int} {i g : Nat} {x : Tf} {got : List Int} {v : Int} (hi : itemsB zs = true) (h : AllAt zs i g x got) (hv : 1 ≤ v ∧ v ≤ 7) (hs : sendB x v = false) : got = zs ∧ x.ack = zs.length := by
  obtain ⟨rfl, rfl, hle, hm⟩ := h
  rw [send_iff (tf_mk hi (Int.le_refl _) (by omega) (by omega)) (by omega), decide_eq_false_iff_not] at hs
  have : g = zs.length := by omega
  subst this
  exact ⟨List.take_length, rfl⟩
theorem all_next {zs : List Int} {i g : Nat} {x : Tf} {got : List Int} {v : Int} (hi : itemsB zs = true) (h : AllAt zs i g x got) (hv : 1 ≤ v ∧ v ≤ 7) (hs : sendB x v = true) :
    ∃ g', putB got (sendC x v) = true ∧ ackB (sendT x v) (putL got (sendC x v)).length = true ∧ AllAt zs (i + 1) g' (ackT (sendT x v) (putL got (sendC x v)).length) (putL got (sendC x v)) := by
  obtain ⟨rfl, rfl, hle, hm⟩ := h
  have ht : tfB ⟨zs, (g : Int), (g : Int)⟩ = true := tf_mk hi (Int.le_refl _) (by omega) (by omega)
  obtain ⟨_, _, h3⟩ := send_yes hs
  have h3 : (g : Int) < endI ⟨zs, g, g⟩ v := h3
  have he := end_le ⟨zs, (g : Int), (g : Int)⟩ v
  have he1 : endI ⟨zs, (g : Int), (g : Int)⟩ v ≤ zs.length := he.1
  obtain ⟨hp, hq⟩ := put_next (t := ⟨zs, (g : Int), (g : Int)⟩) (g := g) hs (Int.le_refl _) hle
  have hq : putL (zs.take g) (sendC ⟨zs, g, g⟩ v) = zs.take (max g (endI ⟨zs, (g : Int), (g : Int)⟩ v).toNat) := hq
  obtain ⟨e, hE⟩ : ∃ e : Nat, endI ⟨zs, (g : Int), (g : Int)⟩ v = (e : Int) := ⟨(endI ⟨zs, (g : Int), (g : Int)⟩ v).toNat, by omega⟩
  rw [hE] at he1 h3 hq
  rw [show max g (e : Int).toNat = e by omega] at hq
  have hst : sendT ⟨zs, (g : Int), (g : Int)⟩ v = ⟨zs, (e : Int), (g : Int)⟩ := by rw [sendT_yes hs, hE]
  have hlen : (zs.take e).length = e := take_le_len (by omega)
  refine ⟨e, hp, ?_, ?_⟩
  · rw [hq, hst, hlen, (ack_mk (tf_mk hi (by omega) he1 (by omega)) (by show 0 ≤ (e : Int) ∧ (e : Int) ≤ e; omega)).2.2, decide_eq_true_eq]; show (g : Int) ≤ e; omega
  · rw [hq, hst, hlen, (ack_mk (tf_mk hi (by omega) he1 (by omega)) (by show 0 ≤ (e : Int) ∧ (e : Int) ≤ e; omega)).1]
    exact ⟨by show (⟨zs, (e : Int), max (g : Int) e⟩ : Tf) = _; rw [show max (g : Int) e = e by omega], rfl, by omega, by omega⟩

/-- how many rounds below i resume and are acknowledged -/
def gd (L : Nat) : Nat → Nat
  | 0 => 0
  | i + 1 => gd L i + (if i % 2 = 0 ∧ (i + L) % 3 = 0 then 1 else 0)
theorem gd_mod (L : Nat) : ∀ i, gd L i = gd (L % 3) i
  | 0 => rfl
  | i + 1 => by rw [gd, gd, gd_mod L i, show (i + L) % 3 = (i + L % 3) % 3 by omega]
theorem gd0 : gd 0 120 = 20 := by decide +kernel
theorem gd1 : gd 1 120 = 20 := by decide +kernel
theorem gd2 : gd 2 120 = 20 := by decide +kernel
theorem gd_end (L : Nat) : gd L 120 = 20 := by
  rw [gd_mod]
  have : L % 3 = 0 ∨ L % 3 = 1 ∨ L % 3 = 2 := by omega
  rcases this with e | e | e
  · rw [e]; exact gd0
  · rw [e]; exact gd1
  · rw [e]; exact gd2
/-- at the head of the loop of a transfer with failures -/
structure CrashAt (zs : List Int) (L i g : Nat) (x : Tf) (got : List Int) : Prop where
  items : x.items = zs
  ok : tfB x = true
  got : got = zs.take g
  le : g ≤ zs.length
  nxt : x.nxt ≤ g
  more : gd L i ≤ x.ack ∨ x.ack = zs.length
theorem crash_start {zs : List Int} {L : Nat} (hi : itemsB zs = true) : CrashAt zs L 0 0 (newT zs) [] := by
  have e : newT zs = ⟨zs, 0, 0⟩ := by rw [newT, if_pos hi]
  rw [e]
  exact ⟨rfl, tf_mk hi (Int.le_refl _) (by omega) (Int.le_refl _), by simp, Nat.zero_le _, Int.le_refl _, .inl (by show (gd L 0 : Int) ≤ 0; exact Int.le_refl _)⟩
/-- the transfer in a round, perhaps resumed -/
def inRound (L i : Nat) (x : Tf) : Tf := if (i + L) % 3 = 0 then resT x else x
theorem crash_res {zs : List Int} {L i g : Nat} {x : Tf} {got : List Int} (h : CrashAt zs L i g x got) : CrashAt zs L i g (inRound L i x) got ∧ (inRound L i x).ack = x.ack ∧ ((i + L) % 3 = 0 → (inRound L i x).nxt = x.ack) := by
  unfold inRound
  split
  · obtain ⟨e, ht⟩ := res_mk h.ok
    rw [e] at ht ⊢
    obtain ⟨_, h2, h3⟩ := (tfB_iff x).1 h.ok
    exact ⟨⟨h.items, ht, h.got, h.le, by show x.ack ≤ g; have := h.nxt; omega, h.more⟩, rfl, fun _ => rfl⟩
  · exact ⟨h, rfl, fun hn => absurd hn ‹_›⟩
theorem crash_fail {zs : List Int} {L i g : Nat} {x : Tf} {got : List Int} (h : CrashAt zs L i g x got) (hs : sendB (inRound L i x) 4 = false) : CrashAt zs L (i + 1) g (resT (sendT (inRound L i x) 4)) got := by
  obtain ⟨h1, h2, h3⟩ := crash_res h
  rw [(send_none h1.ok (by omega) hs).1]
  obtain ⟨e, ht⟩ := res_mk h1.ok
  obtain ⟨_, i2, i3⟩ := (tfB_iff _).1 h1.ok
  rw [e] at ht ⊢
  refine ⟨h1.items, ht, h1.got, h1.le, by show (inRound L i x).ack ≤ g; have := h1.nxt; omega, ?_⟩
  show (gd L (i + 1) : Int) ≤ (inRound L i x).ack ∨ (inRound L i x).ack = zs.length
  by_cases hg : i % 2 = 0 ∧ (i + L) % 3 = 0
  · refine .inr ?_
    have hn := h3 hg.2
    obtain ⟨X, hX⟩ : ∃ X, X = inRound L i x := ⟨_, rfl⟩
    rw [← hX] at hs h1 h2 hn i2 ⊢
    obtain ⟨xi, xn, xa⟩ := X
    have hxi : xi = zs := h1.items
    subst hxi
    rw [send_iff h1.ok (by omega), decide_eq_false_iff_not] at hs
    have hn : xn = x.ack := hn
    have h2 : xa = x.ack := h2
    have i2 : 0 ≤ xn ∧ xn ≤ xi.length := i2
    show xa = _
    omega
  · rw [gd, if_neg hg, Nat.add_zero]; exact h1.more
/-- the transfer behind a round that sent a chunk -/
def behind (i : Nat) (y : Tf) (got : List Int) : Tf := if i % 2 = 0 then ackT y (min got.length y.nxt) else y
theorem crash_send {zs : List Int} {L i g : Nat} {x : Tf} {got : List Int} (h : CrashAt zs L i g x got) (hs : sendB (inRound L i x) 4 = true) :
    ∃ g', putB got (sendC (inRound L i x) 4) = true ∧ CrashAt zs L (i + 1) g' (behind i (sendT (inRound L i x) 4) (putL got (sendC (inRound L i x) 4))) (putL got (sendC (inRound L i x) 4)) := by
  obtain ⟨h1, h2, h3⟩ := crash_res h
  obtain ⟨X, hX⟩ : ∃ X, X = inRound L i x := ⟨_, rfl⟩
  rw [← hX] at h1 h2 h3 hs ⊢
  obtain ⟨xi, xn, xa⟩ := X
  have hxi : xi = zs := h1.items
  subst hxi
  obtain ⟨i1, i2, i3⟩ := (tfB_iff _).1 h1.ok
  have i2 : 0 ≤ xn ∧ xn ≤ xi.length := i2
  have i3 : 0 ≤ xa ∧ xa ≤ xn := i3
  have hng : xn ≤ g := h1.nxt
  have hgot := h1.got
  subst hgot
  obtain ⟨hp, hq⟩ := put_next (t := ⟨xi, xn, xa⟩) (g := g) hs hng h1.le
  have hq : putL (xi.take g) (sendC ⟨xi, xn, xa⟩ 4) = xi.take (max g (endI ⟨xi, xn, xa⟩ 4).toNat) := hq
  obtain ⟨_, _, h4⟩ := send_yes hs
  have h4 : xn < endI ⟨xi, xn, xa⟩ 4 := h4
  have he1 : endI ⟨xi, xn, xa⟩ 4 ≤ xi.length := (end_le _ _).1
  have hEE : endI ⟨xi, xn, xa⟩ 4 = min (min (xi.length : Int) (xn + 4)) (xa + 4) := rfl
  obtain ⟨e, hE⟩ : ∃ e : Nat, endI ⟨xi, xn, xa⟩ 4 = (e : Int) := ⟨(endI ⟨xi, xn, xa⟩ 4).toNat, by omega⟩
  rw [hE] at hEE he1 h4 hq
  rw [show (e : Int).toNat = e from rfl] at hq
  have hst : sendT ⟨xi, xn, xa⟩ 4 = ⟨xi, (e : Int), xa⟩ := by rw [sendT_yes hs, hE]
  have hlen : (xi.take (max g e)).length = max g e := take_le_len (by have := h1.le; omega)
  have hok : tfB ⟨xi, (e : Int), xa⟩ = true := tf_mk i1 (by omega) he1 i3.1
  have hmore : (gd L i : Int) ≤ xa ∨ xa = xi.length := h1.more
  have h2 : xa = x.ack := h2
  have h3 : (i + L) % 3 = 0 → xn = x.ack := h3
  refine ⟨max g e, hp, ?_⟩
  rw [hq, hst]
  unfold behind
  rw [hlen]
  split
  · rename_i hev
    have hmin : min ((max g e : Nat) : Int) (e : Int) = e := by omega
    show CrashAt xi L (i + 1) (max g e) (ackT ⟨xi, (e : Int), xa⟩ (min ((max g e : Nat) : Int) (e : Int))) _
    rw [hmin]
    obtain ⟨a1, a2, _⟩ := ack_mk hok (n := (e : Int)) (by show 0 ≤ (e : Int) ∧ (e : Int) ≤ e; omega)
    rw [a1] at a2 ⊢
    refine ⟨rfl, a2, rfl, by have := h1.le; omega, by show (e : Int) ≤ (max g e : Nat); omega, ?_⟩
    show (gd L (i + 1) : Int) ≤ max xa (e : Int) ∨ max xa (e : Int) = xi.length
    by_cases hg : i % 2 = 0 ∧ (i + L) % 3 = 0
    · rw [gd, if_pos hg]
      have := h3 hg.2
      omega
    · rw [gd, if_neg hg]; omega
  · rename_i hev
    refine ⟨rfl, hok, rfl, by have := h1.le; omega, by show (e : Int) ≤ (max g e : Nat); omega, ?_⟩
    show (gd L (i + 1) : Int) ≤ xa ∨ xa = xi.length
    rw [gd, if_neg (fun hg => hev hg.1), Nat.add_zero]
    exact hmore
theorem crash_end {zs : List Int} {L g : Nat} {x : Tf} {got : List Int} (h : CrashAt zs L 120 g x got) : got = zs := by
  have h1 := h.more
  rw [gd_end] at h1
  obtain ⟨i1, i2, i3⟩ := (tfB_iff x).1 h.ok
  rw [h.items] at i1 i2
  have := items_len i1
  have hn := h.nxt
  have hl := h.le
  have : g = zs.length := by omega
  rw [h.got, this, List.take_length]
end Go.Proofs.Ytoiecicfmnpnoaa
