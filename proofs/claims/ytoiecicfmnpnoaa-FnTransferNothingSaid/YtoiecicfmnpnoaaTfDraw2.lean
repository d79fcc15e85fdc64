/- Transfers: drawing a transfer. -/
import Derived.Test.YtoiecicfmnpnoaaTfDraw
import Derived.Test.YtoiecicfmnpnoaaTfS6
import Derived.Deep.DeepCutAuto
import Derived.Deep.LoopGhost
import Derived.Deep.RegionWith
namespace Go.Proofs.Ytoiecicfmnpnoaa
open Go.RowKit
set_option linter.unusedVariables false

attribute [local go_sem ↓] Go.wp_at_zero Go.wp_at_succ

/-- numbers behind a slice, in a block at or above base that is not g -/
def ItAt (w : World) (base g : Nat) (a : Option Addr) (zs : List Int) : Prop :=
  zs = [] ∨ ∃ b off, a = some ⟨b, off, none⟩ ∧ base ≤ b ∧ b ≠ g ∧ b < w.heap.size ∧ ∀ i, i < zs.length → w.cell? ⟨b, off + i, none⟩ = some (.int .i64 (gt zs i))
theorem ItAt.froms {w : World} {base g : Nat} {a : Option Addr} {zs : List Int} (h : ItAt w base g a zs) : IntsFrom w base a zs := by
  rcases h with h | ⟨b, off, ha, h1, _, h3, hc⟩
  · exact .inl h
  · exact .inr ⟨b, off, ha, h1, h3, hc⟩
theorem ItAt.keep {w w' : World} {base g : Nat} {a : Option Addr} {zs : List Int} (h : ItAt w base g a zs) (hs : w.heap.size ≤ w'.heap.size) (hk : ∀ i, base ≤ i → i ≠ g → i < w.heap.size → w'.heap[i]? = w.heap[i]?) : ItAt w' base g a zs := by
  rcases h with h | ⟨b, off, ha, h1, h2, h3, hc⟩
  · exact .inl h
  · exact .inr ⟨b, off, ha, h1, h2, by omega, fun i hi => (World.cell?_of_block (w := w) (hk b h1 h2 h3)).trans (hc i hi)⟩
theorem OwnI.itAt {w : World} {base base' g cap : Nat} {a : Option Addr} {zs : List Int} (h : OwnI w base' a cap zs) (hb : base ≤ base') (hg : g < base') : ItAt w base g a zs := by
  rcases h.froms with h | ⟨b, off, ha, h1, h3, hc⟩
  · exact .inl h
  · exact .inr ⟨b, off, ha, by omega, by omega, h3, hc⟩
theorem IntsFrom.itAt {w : World} {base g : Nat} {a : Option Addr} {zs : List Int} (h : IntsFrom w base a zs) (hg : w.heap.size ≤ g) : ItAt w base g a zs := by
  rcases h with h | ⟨b, off, ha, h1, h3, hc⟩
  · exact .inl h
  · exact .inr ⟨b, off, ha, h1, by omega, h3, hc⟩
/-- block gx holds a transfer that keeps its order; its items lie elsewhere than in block g -/
def TfIn (base g gx : Nat) (w : World) : Prop :=
  ∃ (a : Option Addr) (cap : Nat) (t : Tf), w.heap[gx]? = some (.cells #[.slice a t.items.length cap, .int .i64 t.nxt, .int .i64 t.ack] 25 (0, 0)) ∧ ItAt w base g a t.items ∧ t.items.length ≤ 21 ∧ t.items.length ≤ cap ∧ (0 ≤ t.nxt ∧ t.nxt ≤ t.items.length) ∧ (0 ≤ t.ack ∧ t.ack ≤ t.nxt)
theorem TfIn.keep {w w' : World} {base g gx : Nat} (h : TfIn base g gx w) (hs : w.heap.size ≤ w'.heap.size) (hx : w'.heap[gx]? = w.heap[gx]?) (hk : ∀ i, base ≤ i → i ≠ g → i < w.heap.size → w'.heap[i]? = w.heap[i]?) : TfIn base g gx w' := by
  obtain ⟨a, cap, t, h1, h2, h3⟩ := h
  exact ⟨a, cap, t, hx.trans h1, h2.keep hs hk, h3⟩
def zObj : Obj := .cells #[.slice none 0 0, .int .i64 0, .int .i64 0] 25 (0, 0)
/-- while a transfer is drawn: it lies in block g -/
structure TfSt (q K g : Nat) (w wr : World) : Prop where
  tf : TfIn (w.heap.size + 1) g g wr
  rdy : Ready wr q K
  grown : w.grownBy wr (some q)
  res : wr.heap[w.heap.size]? = some zObj
  lt : g < wr.heap.size
theorem TfSt.below {q K g : Nat} {w wr w2 : World} (h : TfSt q K g w wr) (hq : q < w.heap.size) (hb : Below wr.heap.size wr w2) : TfSt q K g w w2 := by
  have hs := h.grown.size
  have hl := h.lt
  have hb1 := hb.size
  refine ⟨h.tf.keep hb1 (hb.block _ hl) (fun i _ _ hi => hb.block i hi), h.rdy.below hb (by omega), ⟨hb.os.trans h.grown.os, hb.tape.trans h.grown.tape, hb.output.trans h.grown.output, by omega, fun i hi hne => (hb.block i (by omega)).trans (h.grown.block i hi hne)⟩, (hb.block _ ?_).trans h.res, by omega⟩
  have := (Array.getElem?_eq_some_iff.1 h.res).1
  exact this
theorem TfSt.pick {q K K' g : Nat} {w wr w2 : World} (h : TfSt q K g w wr) (hq : q < w.heap.size) (hg : w.heap.size < g) (hk : Kept q wr w2) (hr : Ready w2 q K') : TfSt q K' g w w2 :=
  ⟨h.tf.keep (Nat.le_of_eq hk.size.symm) (hk.block _ (by omega)) (fun i h1 _ _ => hk.block i (by omega)), hr, grown_trans h.grown hk.grown, (hk.block _ (by omega)).trans h.res, by have := hk.size; have := h.lt; omega⟩
theorem TfSt.less {q K K' g : Nat} {w wr : World} (h : TfSt q K g w wr) (hk : K' ≤ K) : TfSt q K' g w wr := ⟨h.tf, h.rdy.less hk, h.grown, h.res, h.lt⟩
def zObjC : Obj := .cells #[.int .i64 0, .slice none 0 0] 29 (0, 0)
theorem zt_facts {w : World} {b : Nat} (h : w.heap[b]? = some zObj) : w.cell? ⟨b, 0, none⟩ = some (.slice none 0 0) ∧ w.cell? ⟨b, 1, none⟩ = some (.int .i64 0) ∧ w.cell? ⟨b, 2, none⟩ = some (.int .i64 0) ∧ ∀ i, w.frozen? ⟨b, i, none⟩ = false := by
  have h : w.heap[b]? = some (.cells #[.slice none 0 0, .int .i64 0, .int .i64 0] 25 (0, 0)) := h
  obtain ⟨a, b', c⟩ := cells3 h
  exact ⟨a, b', c, fun i => frozen_of_cells h i⟩
theorem zc_facts {w : World} {b : Nat} (h : w.heap[b]? = some zObjC) : w.cell? ⟨b, 0, none⟩ = some (.int .i64 0) ∧ w.cell? ⟨b, 1, none⟩ = some (.slice none 0 0) ∧ ∀ i, w.frozen? ⟨b, i, none⟩ = false := by
  have h : w.heap[b]? = some (.cells #[.int .i64 0, .slice none 0 0] 29 (0, 0)) := h
  obtain ⟨a, b'⟩ := cells2 h
  exact ⟨a, b', fun i => frozen_of_cells h i⟩
theorem zt_factsA {w : World} {b : Nat} (h : w.heap[b]? = some zObj) : (∀ o, (w.alloc o).cell? ⟨b, 0, none⟩ = some (.slice none 0 0)) ∧ (∀ o, (w.alloc o).cell? ⟨b, 1, none⟩ = some (.int .i64 0)) ∧ (∀ o, (w.alloc o).cell? ⟨b, 2, none⟩ = some (.int .i64 0)) ∧ ∀ o i, (w.alloc o).frozen? ⟨b, i, none⟩ = false := by
  have hk : ∀ o, (w.alloc o).heap[b]? = some zObj := fun o => (Below.heap_alloc w o _ (heap_lt h)).trans h
  exact ⟨fun o => (zt_facts (hk o)).1, fun o => (zt_facts (hk o)).2.1, fun o => (zt_facts (hk o)).2.2.1, fun o => (zt_facts (hk o)).2.2.2⟩
theorem zc_factsA {w : World} {b : Nat} (h : w.heap[b]? = some zObjC) : (∀ o, (w.alloc o).cell? ⟨b, 0, none⟩ = some (.int .i64 0)) ∧ (∀ o, (w.alloc o).cell? ⟨b, 1, none⟩ = some (.slice none 0 0)) ∧ ∀ o i, (w.alloc o).frozen? ⟨b, i, none⟩ = false := by
  have hk : ∀ o, (w.alloc o).heap[b]? = some zObjC := fun o => (Below.heap_alloc w o _ (heap_lt h)).trans h
  exact ⟨fun o => (zc_facts (hk o)).1, fun o => (zc_facts (hk o)).2.1, fun o => (zc_facts (hk o)).2.2⟩
theorem TfSt.far {q K K' g : Nat} {w w3 wx : World} (h : TfSt q K g w w3) (hq : q < w.heap.size) (hg : w.heap.size < g) (hs : w3.heap.size ≤ wx.heap.size) (hk : ∀ i, i < w3.heap.size → i ≠ q → wx.heap[i]? = w3.heap[i]?) (hr : Ready wx q K') (ho : wx.os = w3.os ∧ wx.tape = w3.tape ∧ wx.output = w3.output) : TfSt q K' g w wx := by
  have hl := h.lt
  have hgs := h.grown.size
  exact ⟨h.tf.keep hs (hk _ hl (by omega)) (fun i h1 _ h3 => hk i h3 (by omega)), hr, ⟨ho.1.trans h.grown.os, ho.2.1.trans h.grown.tape, ho.2.2.trans h.grown.output, by omega, fun i hi hne => (hk i (by omega) (fun e => hne (by rw [e]))).trans (h.grown.block i hi hne)⟩, (hk _ (by omega) (by omega)).trans h.res, by omega⟩
theorem bz1 {w4 w5 : World} {o : Obj} (hb : Below (w4.alloc o).heap.size (w4.alloc o) w5) : w5.heap[w4.heap.size]? = some o :=
  (hb.block _ (by simp)).trans (heap_alloc_new w4 o)
theorem bz2 {w4 w5 : World} {o o' : Obj} (hb : Below ((w4.alloc o).alloc o').heap.size ((w4.alloc o).alloc o') w5) : w5.heap[w4.heap.size]? = some o :=
  (hb.block _ (by simp; omega)).trans (heap_first w4 o o')
theorem bz3 {w4 w5 : World} {o o' : Obj} (hb : Below ((w4.alloc o).alloc o').heap.size ((w4.alloc o).alloc o') w5) : w5.heap[w4.heap.size + 1]? = some o' :=
  (hb.block _ (by simp)).trans (heap_second w4 o o')
theorem fin5 {q K g : Nat} {w w3 w4 w5 wx : World} (h3 : g < w3.heap.size) (h4 : TfSt q K g w w4) (hq : q < w.heap.size) (hg : w.heap.size < g) (h34 : w3.heap.size ≤ w4.heap.size) (ht : TfIn (w.heap.size + 1) g g w3) (hk : ∀ i, i < w3.heap.size → i ≠ q → w4.heap[i]? = w3.heap[i]?) (h45 : Below w4.heap.size w4 w5) (hx : Below w3.heap.size w5 wx) : TfSt q K g w wx := by
  have s1 := h45.size
  have s2 := hx.size
  have s3 := h4.grown.size
  have e : ∀ i, i < w3.heap.size → wx.heap[i]? = w4.heap[i]? := fun i hi => (hx.block i hi).trans (h45.block i (by omega))
  exact ⟨ht.keep (by omega) ((e _ h3).trans (hk _ h3 (by omega))) (fun i h1 _ hi => (e i hi).trans (hk i hi (by omega))), h4.rdy.keep (fun i hi => e i (by omega)), ⟨hx.os.trans (h45.os.trans h4.grown.os), hx.tape.trans (h45.tape.trans h4.grown.tape), hx.output.trans (h45.output.trans h4.grown.output), by omega, fun i hi hne => (e i (by omega)).trans (h4.grown.block i hi hne)⟩, (e _ (by omega)).trans h4.res, by omega⟩
theorem send_inv {t : Tf} {v : Int} (h : sendB t v = true) (hn : 0 ≤ t.nxt ∧ t.nxt ≤ t.items.length) (hk : 0 ≤ t.ack ∧ t.ack ≤ t.nxt) : (sendT t v).items = t.items ∧ (0 ≤ (sendT t v).nxt ∧ (sendT t v).nxt ≤ t.items.length) ∧ (0 ≤ (sendT t v).ack ∧ (sendT t v).ack ≤ (sendT t v).nxt) := by
  have h2 : t.nxt < endI t v := by
    unfold sendB at h; rw [Bool.and_eq_true, decide_eq_true_eq] at h; exact h.2
  have h3 : endI t v ≤ t.items.length := by unfold endI; omega
  rw [sendT_yes h]
  exact ⟨rfl, ⟨by show 0 ≤ endI t v; omega, h3⟩, hk.1, by show t.ack ≤ endI t v; omega⟩
theorem zobj_eq {w : World} {b : Nat} (h : w.heap[b]? = some zObj) : w.heap[b]? = some (.cells #[.slice none 0 0, .int .i64 0, .int .i64 0] 25 (0, 0)) := h
/-- behind storing a transfer of another block -/
theorem tfst_set {q K g : Nat} {w wr : World} {a : Option Addr} {cap : Nat} {t : Tf} {x y z : Value} (h : TfSt q K g w wr) (hq : q < w.heap.size) (hg : w.heap.size < g) (hc : wr.heap[g]? = some (.cells #[x, y, z] 25 (0, 0))) (hi : ItAt wr (w.heap.size + 1) g a t.items) (hl : t.items.length ≤ 21) (hlc : t.items.length ≤ cap) (hn : 0 ≤ t.nxt ∧ t.nxt ≤ t.items.length) (hk : 0 ≤ t.ack ∧ t.ack ≤ t.nxt) :
    TfSt q K g w (((wr.setCell ⟨g, 0, none⟩ (.slice a t.items.length cap)).setCell ⟨g, 1, none⟩ (.int .i64 t.nxt)).setCell ⟨g, 2, none⟩ (.int .i64 t.ack)) := by
  have hs : (((wr.setCell ⟨g, 0, none⟩ (.slice a t.items.length cap)).setCell ⟨g, 1, none⟩ (.int .i64 t.nxt)).setCell ⟨g, 2, none⟩ (.int .i64 t.ack)).heap.size = wr.heap.size := size_set3 _ _ _ _ _
  have hgs := h.grown.size
  refine ⟨⟨a, cap, t, set3 hc, hi.keep (Nat.le_of_eq hs.symm) (fun i _ h2 _ => set3_ne h2), hl, hlc, hn, hk⟩, h.rdy.keep (fun i hi => set3_ne (by omega)), ⟨h.grown.os, h.grown.tape, h.grown.output, by rw [hs]; exact hgs, fun i hi hne => (set3_ne (by omega)).trans (h.grown.block i hi hne)⟩, (set3_ne (by omega)).trans h.res, by rw [hs]; exact h.lt⟩
theorem ack_inv {t : Tf} {n : Int} (h : ackB t n = true) (hn : 0 ≤ t.nxt ∧ t.nxt ≤ t.items.length) (hk : 0 ≤ t.ack ∧ t.ack ≤ t.nxt) : (ackT t n).items = t.items ∧ (0 ≤ (ackT t n).nxt ∧ (ackT t n).nxt ≤ t.items.length) ∧ (0 ≤ (ackT t n).ack ∧ (ackT t n).ack ≤ (ackT t n).nxt) := by
  unfold ackB at h
  rw [Bool.and_eq_true] at h
  have h1 := h.1
  have h2 : 0 ≤ n ∧ n ≤ t.nxt := by rw [Bool.and_eq_true] at h1; exact (inB_iff _ _ _).1 h1.2
  rw [ackT, if_pos h1]
  exact ⟨rfl, hn, by show 0 ≤ max t.ack n; omega, by show max t.ack n ≤ t.nxt; omega⟩
theorem TfSt.put {q K g : Nat} {w wr V : World} (h : TfSt q K g w wr) (hq : q < w.heap.size) (hg : w.heap.size < g) (hb : ∀ i, i ≠ g → V.heap[i]? = wr.heap[i]?) (hs : V.heap.size = wr.heap.size) (ho : V.os = wr.os ∧ V.tape = wr.tape ∧ V.output = wr.output) :
    Ready V q K ∧ w.grownBy V (some q) ∧ V.heap[w.heap.size]? = some zObj ∧ ∀ a zs, ItAt wr (w.heap.size + 1) g a zs → ItAt V (w.heap.size + 1) g a zs := by
  have hgs := h.grown.size
  exact ⟨h.rdy.keep (fun i hi => hb i (by omega)), ⟨ho.1.trans h.grown.os, ho.2.1.trans h.grown.tape, ho.2.2.trans h.grown.output, by rw [hs]; exact hgs, fun i hi hne => (hb i (by omega)).trans (h.grown.block i hi hne)⟩, (hb _ (by omega)).trans h.res, fun a zs hi => hi.keep (Nat.le_of_eq hs.symm) (fun i _ h2 _ => hb i h2)⟩
theorem drew_end {q K g cap : Nat} {w V : World} {a : Option Addr} {zs : List Int} {x y z : Value} (hq : q < w.heap.size) (hi : ItAt V (w.heap.size + 1) g a zs) (hr : Ready V q K) (hgr : w.grownBy V (some q)) :
    IntsFrom (((V.setCell ⟨w.heap.size, 0, none⟩ x).setCell ⟨w.heap.size, 1, none⟩ y).setCell ⟨w.heap.size, 2, none⟩ z) w.heap.size a zs ∧ Ready (((V.setCell ⟨w.heap.size, 0, none⟩ x).setCell ⟨w.heap.size, 1, none⟩ y).setCell ⟨w.heap.size, 2, none⟩ z) q K ∧ w.grownBy (((V.setCell ⟨w.heap.size, 0, none⟩ x).setCell ⟨w.heap.size, 1, none⟩ y).setCell ⟨w.heap.size, 2, none⟩ z) (some q) := by
  have hs := size_set3 V w.heap.size x y z
  have hgs := hgr.size
  refine ⟨(hi.froms.keep (Nat.le_of_eq hs.symm) (fun i h1 _ => set3_ne (by omega))).down (by omega), hr.keep (fun i hi => set3_ne (by omega)), ⟨hgr.os, hgr.tape, hgr.output, by rw [hs]; exact hgs, fun i hi hne => (set3_ne (by omega)).trans (hgr.block i hi hne)⟩⟩
/-- a transfer that was drawn -/
def DrewTf (q K : Nat) (w : World) (e : Ending) (w' : World) : Prop :=
  ∃ (a : Option Addr) (cap : Nat) (t : Tf), e = .returned (.agg #[.slice a t.items.length cap, .int .i64 t.nxt, .int .i64 t.ack]) ∧ IntsFrom w' w.heap.size a t.items ∧ t.items.length ≤ 21 ∧ t.items.length ≤ cap ∧ (-2 ≤ t.nxt ∧ t.nxt ≤ 23) ∧ (-2 ≤ t.ack ∧ t.ack ≤ 23) ∧ Ready w' q K ∧ w.grownBy w' (some q)

end Go.Proofs.Ytoiecicfmnpnoaa
