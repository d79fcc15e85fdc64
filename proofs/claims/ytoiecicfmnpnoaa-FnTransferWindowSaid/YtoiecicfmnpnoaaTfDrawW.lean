/- Transfers: drawing a transfer and a window. -/
import Derived.Test.YtoiecicfmnpnoaaTfDraw4
import Derived.Test.YtoiecicfmnpnoaaTfP4
import Derived.Deep.RegionHeld3
namespace Go.Proofs.Ytoiecicfmnpnoaa
open Go.RowKit
set_option linter.unusedVariables false

attribute [local go_sem ↓] Go.wp_at_zero Go.wp_at_succ

/-- a transfer and a number that a law drew, the number at will -/
def DrewTfW (w : World) (e : Ending) (w' : World) : Prop :=
  ∃ (a : Option Addr) (cap : Nat) (t : Tf) (n : Int), e = .returned (.tuple #[.agg #[.slice a t.items.length cap, .int .i64 t.nxt, .int .i64 t.ack], .int .i64 n]) ∧ IntsFrom w' w.heap.size a t.items ∧ t.items.length ≤ 21 ∧ t.items.length ≤ cap ∧ (-2 ≤ t.nxt ∧ t.nxt ≤ 23) ∧ (-2 ≤ t.ack ∧ t.ack ≤ 23) ∧ Below w.heap.size w w'

/-- the reader stands ready, and nothing else of a world has turned -/
def GS (V : World) (q k : Nat) (w' : World) : Prop := Ready w' q k ∧ V.grownBy w' (some q)

theorem GS.al {V : World} {q k : Nat} {w' : World} (h : GS V q k w') (o : Obj) : GS V q k (w'.alloc o) :=
  ⟨h.1.keep (fun i hi => Below.heap_alloc _ _ _ (by have := h.1.lt; omega)), grown_trans h.2 (World.grownBy_alloc w' _ _)⟩

theorem pick_gs (V : World) (q k : Nat) (n : Int) (w' : World) (h : GS V q (k + 1) w') (hn : 1 ≤ n) (hn' : n ≤ 1000000) :
    Calls Try.prog 16 #[.pointer (some ⟨q, 0, none⟩), .int .i64 n] w' (fun e w'' => ∃ p : Int, e = .returned (.int .i64 p) ∧ Hid (GS V q k w'') ∧ Hid (V.grownBy w'' (some q)) ∧ Hid (∀ o, V.grownBy (w''.alloc o) (some q))) := by
  refine (pick_r q k n w' h.1 hn hn').mono ?_
  rintro e w'' ⟨p, _, _, rfl, hr, hk⟩
  have hg : GS V q k w'' := ⟨hr, grown_trans h.2 hk.grown⟩
  exact ⟨p, rfl, hg, hg.2, fun o => (hg.al o).2⟩

theorem eight_cells (w : World) (a b c d : Int) {m : Nat} (hm : m < 8) : ∃ u : Int, (w.alloc (.cells #[.int .i64 (-1), .int .i64 0, .int .i64 20, .int .i64 21, .int .i64 a, .int .i64 b, .int .i64 c, .int .i64 d] 3)).cell? ⟨w.heap.size, m, none⟩ = some (.int .i64 u) := by
  rw [cell_of_cells (heap_alloc_new w _)]
  rcases m with _ | _ | _ | _ | _ | _ | _ | _ | m
  · exact ⟨-1, rfl⟩
  · exact ⟨0, rfl⟩
  · exact ⟨20, rfl⟩
  · exact ⟨21, rfl⟩
  · exact ⟨a, rfl⟩
  · exact ⟨b, rfl⟩
  · exact ⟨c, rfl⟩
  · exact ⟨d, rfl⟩
  · omega

theorem pick_a (V : World) (q : Nat) (a b c d : Int) (w8 : World) (h : GS V q 1 w8) :
    Calls Try.prog 16 #[.pointer (some ⟨q, 0, none⟩), .int .i64 8] (w8.alloc (.cells #[.int .i64 (-1), .int .i64 0, .int .i64 20, .int .i64 21, .int .i64 a, .int .i64 b, .int .i64 c, .int .i64 d] 3)) (fun e w9 => ∃ (m : Nat) (x : Int), e = .returned (.int .i64 m) ∧ m < 8 ∧ Hid (GS V q 0 w9) ∧ Hid (V.grownBy w9 (some q)) ∧ Hid (∀ o, V.grownBy (w9.alloc o) (some q)) ∧ w9.cell? ⟨w8.heap.size, m, none⟩ = some (.int .i64 x) ∧ ∀ g x' y z, g < w8.heap.size → (((w9.setCell ⟨g, 0, none⟩ x').setCell ⟨g, 1, none⟩ y).setCell ⟨g, 2, none⟩ z).cell? ⟨w8.heap.size, m, none⟩ = some (.int .i64 x)) := by
  refine (pick_r q 0 8 _ (h.al _).1 (by omega) (by omega)).mono ?_
  rintro e w9 ⟨p, hp0, hp1, rfl, hr, hk⟩
  obtain ⟨m, rfl⟩ := Int.eq_ofNat_of_zero_le hp0
  have hm : m < 8 := by omega
  obtain ⟨u, hu⟩ := eight_cells w8 a b c d hm
  have hl := h.1.lt
  have hc := (hk.cell (p := ⟨w8.heap.size, m, none⟩) (by show w8.heap.size ≠ q; omega)).trans hu
  have hg : GS V q 0 w9 := ⟨hr, grown_trans (h.al _).2 hk.grown⟩
  exact ⟨m, u, rfl, hm, hg, hg.2, fun o => (hg.al o).2, hc, fun g x' y z hg => (World.cell?_of_block (a := ⟨w8.heap.size, m, none⟩) (set3_ne (by show w8.heap.size ≠ g; omega))).trans hc⟩

section
variable {P : Program} {ops : Array Oper} {Q : Exit → Act → World → Prop} {S : World → Prop}
/-- one operation alone may come up -/
theorem anyH_op (i : Nat) {o : Oper} {f : Nat} {listed : Array Bool} {a : Act} {w : World} (hi : ops[i]? = some o) (hg : o.guard = none) (hr : decide (Region.ready .any ops listed = [i]) = true)
    (h : ∀ K : Act → World → Prop, (∀ a' w', S w' → wpAnyH P .any ops Q S f (listed.setIfInBounds i true) a' w' → K a' w') → o.wp P a w K Q) : wpAnyH P .any ops Q S (f + 1) listed a w := by
  have hr := of_decide_eq_true hr
  refine wpAnyH_all hr (by simp) fun j hj => ?_
  have : j = i := by simpa using hj
  subst this
  unfold wpOp
  have hw : Region.wanted o (yielded ops a.tmps) = true := by simp [Region.wanted, hg]
  simp only [hi, if_pos hw]
  exact .inl (h _ (fun a' w' h1 h2 => ⟨h1, h2⟩))
/-- one of two operations may come up -/
theorem anyH_two (i k : Nat) {o o' : Oper} {f : Nat} {listed : Array Bool} {a : Act} {w : World} (hi : ops[i]? = some o) (hk : ops[k]? = some o') (hg : o.guard = none) (hg' : o'.guard = none) (hr : decide (Region.ready .any ops listed = [i, k]) = true)
    (h : ∀ K : Act → World → Prop, (∀ a' w', S w' → wpAnyH P .any ops Q S f (listed.setIfInBounds i true) a' w' → K a' w') → o.wp P a w K Q)
    (h' : ∀ K : Act → World → Prop, (∀ a' w', S w' → wpAnyH P .any ops Q S f (listed.setIfInBounds k true) a' w' → K a' w') → o'.wp P a w K Q) : wpAnyH P .any ops Q S (f + 1) listed a w := by
  have hr := of_decide_eq_true hr
  refine wpAnyH_all hr (by simp) fun j hj => ?_
  rcases (by simpa using hj : j = i ∨ j = k) with e | e
  · subst e
    unfold wpOp
    have hw : Region.wanted o (yielded ops a.tmps) = true := by simp [Region.wanted, hg]
    simp only [hi, if_pos hw]
    exact .inl (h _ (fun a' w' h1 h2 => ⟨h1, h2⟩))
  · subst e
    unfold wpOp
    have hw : Region.wanted o' (yielded ops a.tmps) = true := by simp [Region.wanted, hg']
    simp only [hk, if_pos hw]
    exact .inl (h' _ (fun a' w' h1 h2 => ⟨h1, h2⟩))
end

theorem tfw_al {w w' : World} {e : Ending} (h : DrewTfW w e w') (o : Obj) : DrewTfW w e (w'.alloc o) := by
  obtain ⟨a, cap, t, n, h1, h2, h3, h4, h5, h6, h7⟩ := h
  exact ⟨a, cap, t, n, h1, h2.keep (by simp) (fun i _ hi => Below.heap_alloc _ _ _ hi), h3, h4, h5, h6, h7.alloc h7.size o⟩
theorem eight_val (a b c d : Int) {m : Nat} (hm : m < 8) : ∃ u : Int, ∀ w : World, (w.alloc (.cells #[.int .i64 (-1), .int .i64 0, .int .i64 20, .int .i64 21, .int .i64 a, .int .i64 b, .int .i64 c, .int .i64 d] 3)).cell? ⟨w.heap.size, m, none⟩ = some (.int .i64 u) := by
  rcases m with _ | _ | _ | _ | _ | _ | _ | _ | m
  · exact ⟨-1, fun w => by rw [cell_of_cells (heap_alloc_new w _)]; rfl⟩
  · exact ⟨0, fun w => by rw [cell_of_cells (heap_alloc_new w _)]; rfl⟩
  · exact ⟨20, fun w => by rw [cell_of_cells (heap_alloc_new w _)]; rfl⟩
  · exact ⟨21, fun w => by rw [cell_of_cells (heap_alloc_new w _)]; rfl⟩
  · exact ⟨a, fun w => by rw [cell_of_cells (heap_alloc_new w _)]; rfl⟩
  · exact ⟨b, fun w => by rw [cell_of_cells (heap_alloc_new w _)]; rfl⟩
  · exact ⟨c, fun w => by rw [cell_of_cells (heap_alloc_new w _)]; rfl⟩
  · exact ⟨d, fun w => by rw [cell_of_cells (heap_alloc_new w _)]; rfl⟩
  · omega
theorem pick_c (V : World) (q : Nat) (a b c d : Int) (w8 : World) (h : GS V q 1 w8) :
    Calls Try.prog 16 #[.pointer (some ⟨q, 0, none⟩), .int .i64 8] w8 (fun e w9 => ∃ (m : Nat) (x : Int), e = .returned (.int .i64 m) ∧ m < 8 ∧ Hid (GS V q 0 w9) ∧ Hid (V.grownBy w9 (some q)) ∧ Hid (∀ o, V.grownBy (w9.alloc o) (some q)) ∧
      ∀ W : World, (W.alloc (.cells #[.int .i64 (-1), .int .i64 0, .int .i64 20, .int .i64 21, .int .i64 a, .int .i64 b, .int .i64 c, .int .i64 d] 3)).cell? ⟨W.heap.size, m, none⟩ = some (.int .i64 x)) := by
  refine (pick_r q 0 8 _ h.1 (by omega) (by omega)).mono ?_
  rintro e w9 ⟨p, hp0, hp1, rfl, hr, hk⟩
  obtain ⟨m, rfl⟩ := Int.eq_ofNat_of_zero_le hp0
  have hm : m < 8 := by omega
  obtain ⟨u, hu⟩ := eight_val a b c d hm
  have hg : GS V q 0 w9 := ⟨hr, grown_trans h.2 hk.grown⟩
  exact ⟨m, u, rfl, hm, hg, hg.2, fun o => (hg.al o).2, hu⟩
theorem tfw_end {w w0 V w' : World} {q cap : Nat} {a : Option Addr} {t : Tf} {x : Int} (hB : Below w.heap.size w V) (hg : V.grownBy w' (some q)) (hi : IntsFrom V w0.heap.size a t.items) (hn : w.heap.size < q ∧ q < w0.heap.size)
    (hl : t.items.length ≤ 21) (hlc : t.items.length ≤ cap) (h1 : -2 ≤ t.nxt ∧ t.nxt ≤ 23) (h2 : -2 ≤ t.ack ∧ t.ack ≤ 23) :
    DrewTfW w (.returned (.tuple #[.agg #[.slice a t.items.length cap, .int .i64 t.nxt, .int .i64 t.ack], .int .i64 x])) (((w'.setCell ⟨w.heap.size, 0, none⟩ (.slice a t.items.length cap)).setCell ⟨w.heap.size, 1, none⟩ (.int .i64 t.nxt)).setCell ⟨w.heap.size, 2, none⟩ (.int .i64 t.ack)) := by
  refine ⟨a, cap, t, x, rfl, ?_, hl, hlc, h1, h2, below_set3 (below_of_grown hB (by omega) hB.size hg) (Nat.le_refl _) _ _ _⟩
  exact ((hi.keep hg.size (fun i h1 h2 => hg.block i h2 (by intro e; injection e with e; omega))).keep (Nat.le_of_eq (size_set3 _ _ _ _ _).symm) (fun i h1 _ => set3_ne (by omega))).down (by omega)

set_option maxHeartbeats 8000000 in
theorem drawTransferSend (s : Option Addr) (len cap : Nat) (w : World) (h : BytesAt w s len cap) :
    Calls Try.prog 6 #[.slice s len cap] w (DrewTfW w) := by
  obtain ⟨W, hW⟩ : ∃ W, W = w.alloc (.cells #[.slice none 0 0, .int .i64 0, .int .i64 0] 25) := ⟨_, rfl⟩
  have hB : Below w.heap.size w W := by rw [hW]; exact (Below.refl _ _).alloc (Nat.le_refl _) _
  have hs : W.heap.size = w.heap.size + 1 := by rw [hW]; simp
  have HR : Hid (W.heap[w.heap.size]? = some zObj) := by show _ = _; rw [hW]; exact heap_alloc_new w _
  have HBY : Hid (BytesAt W s len cap) := bytes_keep h hB
  have HW := Lib.hid hW
  have HS := Lib.hid hs
  have HB := Lib.hid hB
  clear h hW hB hs
  go_enter Try.func6, Try.ntmps6
  go_wp2_with fail
  rw [← HW.out]
  refine (open_any s len cap W HBY.out).mono ?_
  rintro e w0 ⟨rfl, hr0, hb0, hz0⟩
  obtain ⟨q, hq⟩ : ∃ q, q = W.heap.size := ⟨_, rfl⟩
  rw [← hq] at hr0 hz0 ⊢
  have HQ := Lib.hid hq
  have HZ := Lib.hid hz0
  have HB0 := Lib.hid hb0
  clear hz0 hb0 hq
  go_wp2_with fail
  refine (ttransfer_any q 5 w0 (hr0.less (by omega))).mono ?_
  rintro e w1 ⟨a, cap1, t, rfl, hi, hl, hlc, hn, hk, hr1, hg1⟩
  have HIH := Lib.hid hi
  have HL := Lib.hid hl
  have HLC := Lib.hid hlc
  have HN := Lib.hid hn
  have HK := Lib.hid hk
  have HR1 := Lib.hid hr1
  have HG1 := Lib.hid hg1
  clear hi hl hlc hn hk hr1 hg1 hr0
  go_wp2_with fail
  have hi := HIH.out
  have hr1 := HR1.out
  have hg1 := HG1.out
  have hn := HN.out
  obtain ⟨V, hV⟩ : ∃ V, V = w1.alloc (.cells #[.slice a t.items.length cap1, .int .i64 t.nxt, .int .i64 t.ack] 25) := ⟨_, rfl⟩
  have hq := HQ.out
  have hz := HZ.out
  have hsz := HS.out
  have hg1s := hg1.size
  have hr1l := hr1.lt
  have hb1 : Below w1.heap.size w1 V := by rw [hV]; exact (Below.refl _ _).alloc (Nat.le_refl _) _
  have HRS : Hid (V.heap[w.heap.size]? = some zObj) := (hb1.block _ (by omega)).trans ((hg1.block _ (by omega) (by intro e; injection e with e; omega)).trans ((HB0.out.block _ (by omega)).trans HR.out))
  have HTV : Hid (V.heap[w1.heap.size]? = some (.cells #[.slice a t.items.length cap1, .int .i64 t.nxt, .int .i64 t.ack] 25 (0, 0))) := by show _ = _; rw [hV]; exact heap_alloc_new w1 _
  have HIF : Hid (IntsFrom V w0.heap.size a t.items) := hi.keep hb1.size (fun i _ h2 => hb1.block i h2)
  have hB1 : Below w.heap.size w w1 := HB.out.trans ((below_of_grown HB0.out (by omega) (by omega) hg1).mono (by omega))
  have HB1 : Hid (Below w.heap.size w V) := hB1.trans (hb1.mono hB1.size)
  have HRV : Hid (Ready V q 5) := hr1.below hb1 hr1l
  have HNE : Hid (w.heap.size < q ∧ q < w0.heap.size ∧ w0.heap.size ≤ w1.heap.size) := ⟨by omega, by omega, hg1s⟩
  have HV := Lib.hid hV
  have HVL : Hid (w1.heap.size < V.heap.size) := heap_lt HTV.out
  have HSK : Hid (∀ w' : World, V.grownBy w' (some q) → (w'.cell? ⟨w1.heap.size, 0, none⟩ = some (.slice a t.items.length cap1) ∧ w'.cell? ⟨w1.heap.size, 1, none⟩ = some (.int .i64 t.nxt) ∧ w'.cell? ⟨w1.heap.size, 2, none⟩ = some (.int .i64 t.ack))) := fun w' hk => cells3 ((hk.block _ HVL.out (by intro e; injection e with e; have := HNE.out; omega)).trans HTV.out)
  have HSS : Hid (∀ (w' : World) (x y z : Value), V.grownBy w' (some q) → ((((w'.setCell ⟨w.heap.size, 0, none⟩ x).setCell ⟨w.heap.size, 1, none⟩ y).setCell ⟨w.heap.size, 2, none⟩ z).cell? ⟨w1.heap.size, 0, none⟩ = some (.slice a t.items.length cap1) ∧ (((w'.setCell ⟨w.heap.size, 0, none⟩ x).setCell ⟨w.heap.size, 1, none⟩ y).setCell ⟨w.heap.size, 2, none⟩ z).cell? ⟨w1.heap.size, 1, none⟩ = some (.int .i64 t.nxt) ∧ (((w'.setCell ⟨w.heap.size, 0, none⟩ x).setCell ⟨w.heap.size, 1, none⟩ y).setCell ⟨w.heap.size, 2, none⟩ z).cell? ⟨w1.heap.size, 2, none⟩ = some (.int .i64 t.ack))) := fun w' x y z hk => cells3 ((set3_ne (by have := HNE.out; omega)).trans ((hk.block _ (by have := HNE.out; have := HVL.out; omega) (by intro e; injection e with e; have := HNE.out; omega)).trans HTV.out))
  have HGZ : Hid (V.grownBy V (some q)) := ⟨rfl, rfl, rfl, Nat.le_refl _, fun _ _ _ => rfl⟩
  have HG5 : Hid (GS V q 5 V.drew) := ⟨HRV.out, ⟨rfl, rfl, rfl, Nat.le_refl _, fun _ _ _ => rfl⟩⟩
  have HK5 : Hid (V.grownBy V.drew (some q)) := HG5.out.2
  have hmix : Try.prog.follows .mixedOrders = true := by kernel_rfl
  obtain ⟨d0, d1, d2⟩ := cells3 HTV.out
  rw [← HV.out]
  clear hr1 hg1 hi hn hz hsz hg1s hr1l hb1 hB1 hV hq
  refine wp_region_noPanic ?_
  refine wp_region_held_drew (S := (fun w' => (w'.cell? ⟨w1.heap.size, 0, none⟩ = some (.slice a t.items.length cap1) ∧ w'.cell? ⟨w1.heap.size, 1, none⟩ = some (.int .i64 t.nxt) ∧ w'.cell? ⟨w1.heap.size, 2, none⟩ = some (.int .i64 t.ack)))) (by kernel_rfl) (HSK.out _ HK5.out) (fun hS => ?_)
  refine wpAnyH_take (i := 0) (v := .agg #[.slice a t.items.length cap1, .int .i64 t.nxt, .int .i64 t.ack]) rfl (by kernel_rfl) (by kernel_rfl) (by kernel_rfl) (fun _ _ _ h => h) (Or.inl ⟨by rfl, fun w' hS => by obtain ⟨s0, s1, s2⟩ := hS; go_simp⟩) (HSK.out _ HK5.out) ?_
  simp only [Act.put, List.setIfInBounds_toArray]
  refine wpAnyH_take (i := 1) (v := .pointer (some ⟨q, 0, none⟩)) rfl (by kernel_rfl) (by kernel_rfl) (by kernel_rfl) (fun _ _ _ h => h) (Or.inl ⟨by rfl, fun w' hS => by obtain ⟨s0, s1, s2⟩ := hS; go_simp⟩) (HSK.out _ HK5.out) ?_
  try simp only [Act.put]
  refine wpAnyH_take (i := 3) (v := .pointer (some ⟨q, 0, none⟩)) rfl (by kernel_rfl) (by kernel_rfl) (by kernel_rfl) (fun _ _ _ h => h) (Or.inl ⟨by rfl, fun w' hS => by obtain ⟨s0, s1, s2⟩ := hS; go_simp⟩) (HSK.out _ HK5.out) ?_
  try simp only [Act.put]
  refine wpAnyH_take (i := 5) (v := .pointer (some ⟨q, 0, none⟩)) rfl (by kernel_rfl) (by kernel_rfl) (by kernel_rfl) (fun _ _ _ h => h) (Or.inl ⟨by rfl, fun w' hS => by obtain ⟨s0, s1, s2⟩ := hS; go_simp⟩) (HSK.out _ HK5.out) ?_
  try simp only [Act.put]
  refine wpAnyH_take (i := 7) (v := .pointer (some ⟨q, 0, none⟩)) rfl (by kernel_rfl) (by kernel_rfl) (by kernel_rfl) (fun _ _ _ h => h) (Or.inl ⟨by rfl, fun w' hS => by obtain ⟨s0, s1, s2⟩ := hS; go_simp⟩) (HSK.out _ HK5.out) ?_
  try simp only [Act.put]
  refine wpAnyH_take (i := 10) (v := .pointer (some ⟨q, 0, none⟩)) rfl (by kernel_rfl) (by kernel_rfl) (by kernel_rfl) (fun _ _ _ h => h) (Or.inl ⟨by rfl, fun w' hS => by obtain ⟨s0, s1, s2⟩ := hS; go_simp⟩) (HSK.out _ HK5.out) ?_
  try simp only [Act.put]
  refine anyH_op 2 rfl rfl (by kernel_rfl) fun K hK => ?_
  go_simp
  refine (pick_gs V q 4 20 _ HG5.out (by omega) (by omega)).mono ?_
  rintro e w5 ⟨p1, rfl, HG4, HK4, HA4⟩
  refine hK _ _ (by with_reducible exact HSK.out _ HK4.out) ?_
  clear hK K
  try simp only [Act.put]
  refine anyH_op 4 rfl rfl (by kernel_rfl) fun K hK => ?_
  go_simp
  refine (pick_gs V q 3 20 _ HG4.out (by omega) (by omega)).mono ?_
  rintro e w6 ⟨p2, rfl, HG3, HK3, HA3⟩
  refine hK _ _ (by with_reducible exact HSK.out _ HK3.out) ?_
  clear hK K
  try simp only [Act.put]
  refine anyH_op 6 rfl rfl (by kernel_rfl) fun K hK => ?_
  go_simp
  refine (pick_gs V q 2 20 _ HG3.out (by omega) (by omega)).mono ?_
  rintro e w7 ⟨p3, rfl, HG2, HK2, HA2⟩
  refine hK _ _ (by with_reducible exact HSK.out _ HK2.out) ?_
  clear hK K
  try simp only [Act.put]
  refine anyH_op 8 rfl rfl (by kernel_rfl) fun K hK => ?_
  go_simp
  refine (pick_gs V q 1 20 _ HG2.out (by omega) (by omega)).mono ?_
  rintro e w8 ⟨p4, rfl, HG1, HK1, HA1⟩
  refine hK _ _ (by with_reducible exact HSK.out _ HK1.out) ?_
  clear hK K
  try simp only [Act.put]
  refine anyH_two 9 11 rfl rfl rfl rfl (by kernel_rfl) (fun K hK => ?_) (fun K hK => ?_)
  · go_simp
    refine hK _ _ (by with_reducible exact HSK.out _ (HA1.out _)) ?_
    clear hK K
    try simp only [Act.put]
    refine anyH_op 11 rfl rfl (by kernel_rfl) fun K hK => ?_
    go_simp
    refine (pick_a V q p1 p2 p3 p4 w8 HG1.out).mono ?_
    rintro e w9 ⟨m, x, rfl, hm8, HG0, HK0, HA0, hx0, hx1⟩
    have hm8i : (m : Int) < 8 := by omega
    have hx2 : ∀ x' y z, (((w9.setCell ⟨w.heap.size, 0, none⟩ x').setCell ⟨w.heap.size, 1, none⟩ y).setCell ⟨w.heap.size, 2, none⟩ z).cell? ⟨w8.heap.size, m, none⟩ = some (.int .i64 x) := fun x' y z => hx1 _ x' y z (by have h1 := HK1.out.size; have h2 := HVL.out; have h3 := HNE.out; omega)
    clear hx1
    have HZ9 : Hid (w9.heap[w.heap.size]? = some zObj) := (HG0.out.2.block _ (by have := HNE.out; have := HVL.out; omega) (by intro e; injection e with e; have := HNE.out; omega)).trans HRS.out
    obtain ⟨z0, z1, z2, z3⟩ := zt_facts HZ9.out
    refine hK _ _ (by with_reducible exact HSK.out _ HK0.out) ?_
    clear hK K
    try simp only [Act.put]
    refine wpAnyH_take (i := 12) (v := .pointer (some ⟨w8.heap.size, m, none⟩)) rfl (by kernel_rfl) (by kernel_rfl) (by kernel_rfl) (fun _ _ _ h => h) (Or.inl ⟨by rfl, fun w' hS => by obtain ⟨s0, s1, s2⟩ := hS; go_simp⟩) (HSK.out _ HK0.out) ?_
    try simp only [Act.put]
    refine anyH_two 13 14 rfl rfl rfl rfl (by kernel_rfl) (fun K hK => ?_) (fun K hK => ?_)
    · go_simp
      refine hK _ _ (by with_reducible exact HSK.out _ HK0.out) ?_
      clear hK K
      try simp only [Act.put]
      refine anyH_op 14 rfl rfl (by kernel_rfl) fun K hK => ?_
      go_simp
      refine hK _ _ (by with_reducible exact HSS.out _ _ _ _ HK0.out) ?_
      clear hK K
      try simp only [Act.put]
      refine anyH_op 15 rfl rfl (by kernel_rfl) fun K hK => ?_
      go_simp
      refine hK _ _ (by with_reducible exact HSS.out _ _ _ _ HK0.out) ?_
      clear hK K
      try simp only [Act.put]
      refine wpAnyH_done (by kernel_rfl) ?_ _
      refine NoPanic.normal ?_
      go_wp2
      refine bodyPost_ret (res_ct rfl _ _ w.heap.size _ #[.slice a t.items.length cap1, .int .i64 t.nxt, .int .i64 t.ack] (0, 0) _ rfl (set3 (zobj_eq HZ9.out)) Try.underlying25 rfl (by kernel_rfl)) rfl ?_
      exact tfw_end HB1.out HK0.out HIF.out ⟨HNE.out.1, HNE.out.2.1⟩ HL.out HLC.out HN.out HK.out
    · go_simp
      refine hK _ _ (by with_reducible exact HSS.out _ _ _ _ HK0.out) ?_
      clear hK K
      try simp only [Act.put]
      refine anyH_op 13 rfl rfl (by kernel_rfl) fun K hK => ?_
      go_simp
      refine hK _ _ (by with_reducible exact HSS.out _ _ _ _ HK0.out) ?_
      clear hK K
      try simp only [Act.put]
      refine anyH_op 15 rfl rfl (by kernel_rfl) fun K hK => ?_
      go_simp
      refine hK _ _ (by with_reducible exact HSS.out _ _ _ _ HK0.out) ?_
      clear hK K
      try simp only [Act.put]
      refine wpAnyH_done (by kernel_rfl) ?_ _
      refine NoPanic.normal ?_
      go_wp2
      refine bodyPost_ret (res_ct rfl _ _ w.heap.size _ #[.slice a t.items.length cap1, .int .i64 t.nxt, .int .i64 t.ack] (0, 0) _ rfl (set3 (zobj_eq HZ9.out)) Try.underlying25 rfl (by kernel_rfl)) rfl ?_
      exact tfw_end HB1.out HK0.out HIF.out ⟨HNE.out.1, HNE.out.2.1⟩ HL.out HLC.out HN.out HK.out
  · go_simp
    refine (pick_c V q p1 p2 p3 p4 w8 HG1.out).mono ?_
    rintro e w9 ⟨m, x, rfl, hm8, HG0, HK0, HA0, hx⟩
    have hm8i : (m : Int) < 8 := by omega
    have hx0 := hx w9
    have hx2 : ∀ x' y z, ((((w9.setCell ⟨w.heap.size, 0, none⟩ x').setCell ⟨w.heap.size, 1, none⟩ y).setCell ⟨w.heap.size, 2, none⟩ z).alloc (.cells #[.int .i64 (-1), .int .i64 0, .int .i64 20, .int .i64 21, .int .i64 p1, .int .i64 p2, .int .i64 p3, .int .i64 p4] 3)).cell? ⟨w9.heap.size, m, none⟩ = some (.int .i64 x) := fun x' y z => by
      have h := hx (((w9.setCell ⟨w.heap.size, 0, none⟩ x').setCell ⟨w.heap.size, 1, none⟩ y).setCell ⟨w.heap.size, 2, none⟩ z)
      rw [size_set3] at h
      exact h
    clear hx
    have HZ9 : Hid (w9.heap[w.heap.size]? = some zObj) := (HG0.out.2.block _ (by have := HNE.out; have := HVL.out; omega) (by intro e; injection e with e; have := HNE.out; omega)).trans HRS.out
    have HSW : Hid (∀ (x' y z : Value) (o : Obj), (((((w9.setCell ⟨w.heap.size, 0, none⟩ x').setCell ⟨w.heap.size, 1, none⟩ y).setCell ⟨w.heap.size, 2, none⟩ z).alloc o).cell? ⟨w1.heap.size, 0, none⟩ = some (.slice a t.items.length cap1) ∧ ((((w9.setCell ⟨w.heap.size, 0, none⟩ x').setCell ⟨w.heap.size, 1, none⟩ y).setCell ⟨w.heap.size, 2, none⟩ z).alloc o).cell? ⟨w1.heap.size, 1, none⟩ = some (.int .i64 t.nxt) ∧ ((((w9.setCell ⟨w.heap.size, 0, none⟩ x').setCell ⟨w.heap.size, 1, none⟩ y).setCell ⟨w.heap.size, 2, none⟩ z).alloc o).cell? ⟨w1.heap.size, 2, none⟩ = some (.int .i64 t.ack))) := fun x' y z o => by
      have hl : w1.heap.size < (((w9.setCell ⟨w.heap.size, 0, none⟩ x').setCell ⟨w.heap.size, 1, none⟩ y).setCell ⟨w.heap.size, 2, none⟩ z).heap.size := by rw [size_set3]; have := HK0.out.size; have := HVL.out; omega
      obtain ⟨h0, h1, h2⟩ := HSS.out w9 x' y z HK0.out
      have hk := Below.heap_alloc (((w9.setCell ⟨w.heap.size, 0, none⟩ x').setCell ⟨w.heap.size, 1, none⟩ y).setCell ⟨w.heap.size, 2, none⟩ z) o w1.heap.size hl
      exact ⟨(World.cell?_of_block (a := ⟨w1.heap.size, 0, none⟩) hk).trans h0, (World.cell?_of_block (a := ⟨w1.heap.size, 1, none⟩) hk).trans h1, (World.cell?_of_block (a := ⟨w1.heap.size, 2, none⟩) hk).trans h2⟩
    obtain ⟨z0, z1, z2, z3⟩ := zt_facts HZ9.out
    obtain ⟨y0, y1, y2, y3⟩ := zt_factsA HZ9.out
    have hwl := heap_lt HZ9.out
    refine hK _ _ (by with_reducible exact HSK.out _ HK0.out) ?_
    clear hK K
    try simp only [Act.put]
    refine anyH_two 9 14 rfl rfl rfl rfl (by kernel_rfl) (fun K hK => ?_) (fun K hK => ?_)
    · go_simp
      refine hK _ _ (by with_reducible exact HSK.out _ (HA0.out _)) ?_
      clear hK K
      try simp only [Act.put]
      refine wpAnyH_take (i := 12) (v := .pointer (some ⟨w9.heap.size, m, none⟩)) rfl (by kernel_rfl) (by kernel_rfl) (by kernel_rfl) (fun _ _ _ h => h) (Or.inl ⟨by rfl, fun w' hS => by obtain ⟨s0, s1, s2⟩ := hS; go_simp⟩) (HSK.out _ (HA0.out _)) ?_
      try simp only [Act.put]
      refine anyH_two 13 14 rfl rfl rfl rfl (by kernel_rfl) (fun K hK => ?_) (fun K hK => ?_)
      · go_simp
        refine hK _ _ (by with_reducible exact HSK.out _ (HA0.out _)) ?_
        clear hK K
        try simp only [Act.put]
        refine anyH_op 14 rfl rfl (by kernel_rfl) fun K hK => ?_
        go_simp
        refine hK _ _ (by with_reducible exact HSW.out _ _ _ _) ?_
        clear hK K
        try simp only [Act.put]
        refine anyH_op 15 rfl rfl (by kernel_rfl) fun K hK => ?_
        go_simp
        refine hK _ _ (by with_reducible exact HSW.out _ _ _ _) ?_
        clear hK K
        try simp only [Act.put]
        refine wpAnyH_done (by kernel_rfl) ?_ _
        refine NoPanic.normal ?_
        go_wp2
        refine bodyPost_ret (res_ct rfl _ _ w.heap.size _ #[.slice a t.items.length cap1, .int .i64 t.nxt, .int .i64 t.ack] (0, 0) _ rfl ((Below.heap_alloc _ _ _ (by rw [size_set3]; exact heap_lt HZ9.out)).trans (set3 (zobj_eq HZ9.out))) Try.underlying25 rfl (by kernel_rfl)) rfl ?_
        exact tfw_al (tfw_end HB1.out HK0.out HIF.out ⟨HNE.out.1, HNE.out.2.1⟩ HL.out HLC.out HN.out HK.out) _
      · go_simp
        refine hK _ _ (by with_reducible exact HSW.out _ _ _ _) ?_
        clear hK K
        try simp only [Act.put]
        refine anyH_op 13 rfl rfl (by kernel_rfl) fun K hK => ?_
        go_simp
        refine hK _ _ (by with_reducible exact HSW.out _ _ _ _) ?_
        clear hK K
        try simp only [Act.put]
        refine anyH_op 15 rfl rfl (by kernel_rfl) fun K hK => ?_
        go_simp
        refine hK _ _ (by with_reducible exact HSW.out _ _ _ _) ?_
        clear hK K
        try simp only [Act.put]
        refine wpAnyH_done (by kernel_rfl) ?_ _
        refine NoPanic.normal ?_
        go_wp2
        refine bodyPost_ret (res_ct rfl _ _ w.heap.size _ #[.slice a t.items.length cap1, .int .i64 t.nxt, .int .i64 t.ack] (0, 0) _ rfl ((Below.heap_alloc _ _ _ (by rw [size_set3]; exact heap_lt HZ9.out)).trans (set3 (zobj_eq HZ9.out))) Try.underlying25 rfl (by kernel_rfl)) rfl ?_
        exact tfw_al (tfw_end HB1.out HK0.out HIF.out ⟨HNE.out.1, HNE.out.2.1⟩ HL.out HLC.out HN.out HK.out) _
    · go_simp
      refine hK _ _ (by with_reducible exact HSS.out _ _ _ _ HK0.out) ?_
      clear hK K
      try simp only [Act.put]
      refine anyH_op 9 rfl rfl (by kernel_rfl) fun K hK => ?_
      go_simp
      refine hK _ _ (by with_reducible exact HSW.out _ _ _ _) ?_
      clear hK K
      try simp only [Act.put]
      refine wpAnyH_take (i := 12) (v := .pointer (some ⟨w9.heap.size, m, none⟩)) rfl (by kernel_rfl) (by kernel_rfl) (by kernel_rfl) (fun _ _ _ h => h) (Or.inl ⟨by rfl, fun w' hS => by obtain ⟨s0, s1, s2⟩ := hS; go_simp⟩) (HSW.out _ _ _ _) ?_
      try simp only [Act.put]
      refine anyH_op 13 rfl rfl (by kernel_rfl) fun K hK => ?_
      go_simp
      refine hK _ _ (by with_reducible exact HSW.out _ _ _ _) ?_
      clear hK K
      try simp only [Act.put]
      refine anyH_op 15 rfl rfl (by kernel_rfl) fun K hK => ?_
      go_simp
      refine hK _ _ (by with_reducible exact HSW.out _ _ _ _) ?_
      clear hK K
      try simp only [Act.put]
      refine wpAnyH_done (by kernel_rfl) ?_ _
      refine NoPanic.normal ?_
      go_wp2
      refine bodyPost_ret (res_ct rfl _ _ w.heap.size _ #[.slice a t.items.length cap1, .int .i64 t.nxt, .int .i64 t.ack] (0, 0) _ rfl ((Below.heap_alloc _ _ _ (by rw [size_set3]; exact heap_lt HZ9.out)).trans (set3 (zobj_eq HZ9.out))) Try.underlying25 rfl (by kernel_rfl)) rfl ?_
      exact tfw_al (tfw_end HB1.out HK0.out HIF.out ⟨HNE.out.1, HNE.out.2.1⟩ HL.out HLC.out HN.out HK.out) _
end Go.Proofs.Ytoiecicfmnpnoaa
