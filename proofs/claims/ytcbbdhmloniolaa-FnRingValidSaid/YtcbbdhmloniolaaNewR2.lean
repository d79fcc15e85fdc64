/- What meetNeighbours and RingNew do. -/
import Derived.Test.YtcbbdhmloniolaaNewR
namespace Go.Proofs.Ytcbbdhmloniolaa
open Go.RowKit
set_option linter.unusedVariables false

/-- Peers in the blocks behind block B, one a node; block B lists them. -/
structure PN (w : World) (B n : Nat) (zs : List Int) : Prop where
  row : w.rowIs B 74 n (fun j => .pointer (some ⟨B + 1 + j, 0, none⟩))
  peer : ∀ j, j < n → ∃ b s0 s1, w.heap[B + 1 + j]? = some (.cells #[.int .i64 (gt zs j), .bool true, .pointer b, .pointer s0, .pointer s1] 91 (0, 0))
/-- one peer's fields, all else as it was -/
def MeetSt (w : World) (p : Nat) (x : Int) (b s0 s1 : Option Addr) (wr : World) : Prop :=
  Kept p w wr ∧ wr.heap[p]? = some (.cells #[.int .i64 x, .bool true, .pointer b, .pointer s0, .pointer s1] 91 (0, 0))
theorem MeetSt.s0 {w wr : World} {p : Nat} {x : Int} {b s0 s1 : Option Addr} (h : MeetSt w p x b s0 s1 wr) (q : Option Addr) : MeetSt w p x b q s1 (wr.setCell ⟨p, 3, none⟩ (.pointer q)).drew :=
  ⟨h.1.trans ⟨rfl, rfl, rfl, by simp [World.setCell], fun k hk => heap_set_ne wr p 3 k (.pointer q) hk⟩, heap_set wr p 3 (.pointer q) h.2⟩
theorem MeetSt.s1 {w wr : World} {p : Nat} {x : Int} {b s0 s1 : Option Addr} (h : MeetSt w p x b s0 s1 wr) (q : Option Addr) : MeetSt w p x b s0 q (wr.setCell ⟨p, 4, none⟩ (.pointer q)).drew :=
  ⟨h.1.trans ⟨rfl, rfl, rfl, by simp [World.setCell], fun k hk => heap_set_ne wr p 4 k (.pointer q) hk⟩, heap_set wr p 4 (.pointer q) h.2⟩
theorem MeetSt.b {w wr : World} {p : Nat} {x : Int} {b s0 s1 : Option Addr} (h : MeetSt w p x b s0 s1 wr) (q : Option Addr) : MeetSt w p x q s0 s1 (wr.setCell ⟨p, 2, none⟩ (.pointer q)) :=
  ⟨h.1.trans ⟨rfl, rfl, rfl, by simp [World.setCell], fun k hk => heap_set_ne wr p 2 k (.pointer q) hk⟩, heap_set wr p 2 (.pointer q) h.2⟩
theorem MeetSt.cells {w wr : World} {p : Nat} {x : Int} {b s0 s1 : Option Addr} (h : MeetSt w p x b s0 s1 wr) :
    wr.cell? ⟨p, 0, none⟩ = some (.int .i64 x) ∧ wr.cell? ⟨p, 2, none⟩ = some (.pointer b) ∧ wr.cell? ⟨p, 3, none⟩ = some (.pointer s0) ∧ wr.cell? ⟨p, 4, none⟩ = some (.pointer s1) ∧ ∀ i, wr.frozen? ⟨p, i, none⟩ = false :=
  ⟨by rw [cell_of_cells h.2]; rfl, by rw [cell_of_cells h.2]; rfl, by rw [cell_of_cells h.2]; rfl, by rw [cell_of_cells h.2]; rfl, fun i => frozen_of_cells h.2 i⟩
def MeetAt (w : World) (p : Nat) (x : Int) (a1 a2 : Nat) (i : Value) (wr : World) : Prop :=
  (i = .int .i64 0 ∧ ∃ b s0 s1, MeetSt w p x b s0 s1 wr) ∨ (i = .int .i64 1 ∧ ∃ b s1, MeetSt w p x b (some ⟨a1, 0, none⟩) s1 wr) ∨ (i = .int .i64 2 ∧ ∃ b, MeetSt w p x b (some ⟨a1, 0, none⟩) (some ⟨a2, 0, none⟩) wr)


/-- k peers made -/
def MadeTo (w : World) (n : Nat) (zs : List Int) (k : Nat) (wr : World) : Prop :=
  wr.heap.size = w.heap.size + 1 + k ∧ Below w.heap.size w wr ∧ wr.rowIs w.heap.size 74 n (fun j => if j < k then .pointer (some ⟨w.heap.size + 1 + j, 0, none⟩) else .pointer none) ∧
    ∀ j, j < k → wr.heap[w.heap.size + 1 + j]? = some (.cells #[.int .i64 (gt zs j), .bool true, .pointer none, .pointer none, .pointer none] 91 (0, 0))
theorem made_next {w wr : World} {n k : Nat} {zs : List Int} (h : MadeTo w n zs k wr) : MadeTo w n zs (k + 1) ((wr.alloc (.cells #[.int .i64 (gt zs k), .bool true, .pointer none, .pointer none, .pointer none] 91)).setCell ⟨w.heap.size, k, none⟩ (.pointer (some ⟨wr.heap.size, 0, none⟩))) := by
  obtain ⟨h1, h2, h3, h4⟩ := h
  refine ⟨by simp [World.setCell]; omega, (h2.alloc (by omega) _).setCell (p := ⟨w.heap.size, k, none⟩) (Nat.le_refl _) _, ((h3.alloc _).set k _).congr (fun j hj => ?_), fun j hj => ?_⟩
  · by_cases e : j = k
    · subst e; rw [if_pos rfl, if_pos (by omega), h1]
    · rw [if_neg e]
      by_cases h' : j < k
      · rw [if_pos h', if_pos (by omega)]
      · rw [if_neg h', if_neg (by omega)]
  · rw [heap_set_ne _ _ _ _ _ (by omega)]
    rcases Nat.lt_or_ge j k with h' | h'
    · exact (Below.heap_alloc wr _ _ (by omega)).trans (h4 j h')
    · obtain rfl : j = k := by omega
      rw [← h1]; exact heap_alloc_new wr _
theorem MadeTo.pn {w wr : World} {n : Nat} {zs : List Int} (h : MadeTo w n zs n wr) : PN wr w.heap.size n zs :=
  ⟨h.2.2.1.congr (fun j hj => by rw [if_pos hj]), fun j hj => ⟨_, _, _, h.2.2.2 j hj⟩⟩

/-- k nodes of the new ring, in block R -/
def NewRow (R n k : Nat) (zs : List Int) (wr : World) : Prop :=
  ∃ (F : Nat → Nat) (cs : Array Value), wr.heap[R]? = some (.cells cs 28 (0, 0)) ∧ cs.size = n * 3 ∧ (∀ i, i < k → NdCells cs i (idNd zs i) (F i) ∧ IntsBlk wr (F i) (idNd zs i).aft ∧ R < F i ∧ F i < wr.heap.size) ∧ ∀ i j, i < k → j < k → F i = F j → i = j
theorem NewRow.keep {R n k : Nat} {zs : List Int} {w w' : World} (h : NewRow R n k zs w) (hs : w.heap.size ≤ w'.heap.size) (hk : ∀ g, R ≤ g → g < w.heap.size → w'.heap[g]? = w.heap[g]?) : NewRow R n k zs w' := by
  obtain ⟨F, cs, h1, h2, h3, h4⟩ := h
  refine ⟨F, cs, (hk R (Nat.le_refl _) (heap_lt h1)).trans h1, h2, fun i hi => ?_, h4⟩
  obtain ⟨a, b, c, d⟩ := h3 i hi
  exact ⟨a, b.kept (hk _ (by omega) d), c, by omega⟩
theorem NewRow.next {R n k I : Nat} {zs : List Int} {w w2 : World} (h : NewRow R n k zs w) (hk : k < n) (hb : Below w.heap.size w w2) (hI : w.heap.size ≤ I) (hI2 : I < w2.heap.size) (hi' : IntsBlk w2 I (idNd zs k).aft) :
    NewRow R n (k + 1) zs (((w2.setCell ⟨R, k * 3, none⟩ (.int .i64 (idNd zs k).pos)).setCell ⟨R, k * 3 + 1, none⟩ (.int .i64 (idNd zs k).bef)).setCell ⟨R, k * 3 + 2, none⟩ (.slice (some ⟨I, 0, none⟩) (idNd zs k).aft.length (idNd zs k).aft.length)) := by
  obtain ⟨F, cs, h1, h2, h3, h4⟩ := h
  have hRlt := heap_lt h1
  have hne : ∀ g, g ≠ R → (((w2.setCell ⟨R, k * 3, none⟩ (.int .i64 (idNd zs k).pos)).setCell ⟨R, k * 3 + 1, none⟩ (.int .i64 (idNd zs k).bef)).setCell ⟨R, k * 3 + 2, none⟩ (.slice (some ⟨I, 0, none⟩) (idNd zs k).aft.length (idNd zs k).aft.length)).heap[g]? = w2.heap[g]? := fun g hg =>
    (heap_set_ne _ _ _ _ _ hg).trans ((heap_set_ne _ _ _ _ _ hg).trans (heap_set_ne _ _ _ _ _ hg))
  have hbs := hb.size
  refine ⟨fun j => if j = k then I else F j, _, heap_set _ _ _ _ (heap_set _ _ _ _ (heap_set _ _ _ _ ((hb.block R hRlt).trans h1))), by simpa using h2, fun i hi => ?_, fun i j hi hj he => ?_⟩
  · rcases Nat.lt_or_ge i k with h' | h'
    · obtain ⟨a, b, c, d⟩ := h3 i h'
      simp only [if_neg (show i ≠ k by omega)]
      exact ⟨nd_keep (nd_keep (nd_keep (d := 0) a (by omega) (by omega)) (by omega) (by omega)) (by omega) (by omega), b.kept ((hne _ (by omega)).trans (hb.block _ d)), c, by simp [World.setCell]; omega⟩
    · obtain rfl : i = k := by omega
      simp only [↓reduceIte]
      exact ⟨nd_set (by omega) (by simp [idNd]; unfold maxLen; omega), hi'.kept (hne _ (by omega)), by omega, by simp [World.setCell]; omega⟩
  · by_cases e1 : i = k
    · by_cases e2 : j = k
      · omega
      · simp only [if_pos e1, if_neg e2] at he
        have := (h3 j (by omega)).2.2.2; omega
    · by_cases e2 : j = k
      · simp only [if_neg e1, if_pos e2] at he
        have := (h3 i (by omega)).2.2.2; omega
      · simp only [if_neg e1, if_neg e2] at he
        exact h4 i j (by omega) (by omega) he
theorem NewRow.own {R n : Nat} {zs : List Int} {w : World} (h : NewRow R n n zs w) (hn : zs.length = n) {lo : Nat} (hlo : lo ≤ R) : ∃ F, RingOwn w lo w.heap.size R (idR zs) F := by
  obtain ⟨F, cs, h1, h2, h3, h4⟩ := h
  have hl : (idR zs).length = n := by rw [idR_len, hn]
  refine ⟨F, ⟨cs, h1, fun i hi => ?_⟩, fun i hi => ?_, ⟨hlo, heap_lt h1⟩, fun i hi => ?_, fun i j hi hj => h4 i j (by omega) (by omega)⟩
  · rw [idR_at (by omega)]; exact (h3 i (by omega)).1
  · rw [idR_at (by omega)]; exact (h3 i (by omega)).2.1
  · have := (h3 i (by omega)).2.2; omega
theorem PN.meet {w w2 : World} {B n i : Nat} {zs : List Int} {b s0 s1 : Option Addr} (h : PN w B n zs) (hi : i < n) (hm : MeetSt w (B + 1 + i) (gt zs i) b s0 s1 w2) : PN w2 B n zs := by
  refine ⟨h.row.of_block (hm.1.block B (by omega)), fun j hj => ?_⟩
  by_cases e : j = i
  · subst e; exact ⟨_, _, _, hm.2⟩
  · obtain ⟨b', s0', s1', hp⟩ := h.peer j hj
    exact ⟨b', s0', s1', (hm.1.block _ (by omega)).trans hp⟩
theorem PN.keep {w w2 : World} {B n : Nat} {zs : List Int} (h : PN w B n zs) (hk : ∀ g, B ≤ g → g < B + 1 + n → w2.heap[g]? = w.heap[g]?) : PN w2 B n zs := by
  refine ⟨h.row.of_block (hk B (Nat.le_refl _) (by omega)), fun j hj => ?_⟩
  obtain ⟨b, s0, s1, hp⟩ := h.peer j hj
  exact ⟨b, s0, s1, (hk _ (by omega) (by omega)).trans hp⟩
theorem PN.at_ {w : World} {B n : Nat} {zs : List Int} (h : PN w B n zs) {j : Nat} (hj : j < n) : w.cell? ⟨B + 1 + j, 0, none⟩ = some (.int .i64 (gt zs j)) := by
  obtain ⟨b, s0, s1, hp⟩ := h.peer j hj
  rw [cell_of_cells hp]; rfl

/-- a new ring in blocks of its own, and a bool -/
def NewRB (r : List Nd) (ok : Bool) (w : World) (e : Ending) (w' : World) : Prop :=
  ∃ N cap F, e = .returned (.tuple #[.slice (some ⟨N, 0, none⟩) r.length cap, .bool ok]) ∧ RingOwn w' w.heap.size w'.heap.size N r F ∧ r.length ≤ cap ∧ cap ≤ maxLen ∧ Below w.heap.size w w'
theorem own_nil {w : World} {N lo hi : Nat} (cs : Array Value) (h : w.heap[N]? = some (.cells cs 28 (0, 0))) (h1 : lo ≤ N) (h2 : N < hi) : RingOwn w lo hi N [] (fun _ => 0) :=
  ⟨⟨cs, h, fun i hi => absurd hi (by simp)⟩, fun i hi => absurd hi (by simp), ⟨h1, h2⟩, fun i hi => absurd hi (by simp), fun i j hi => absurd hi (by simp)⟩
theorem newRB_nil (w : World) (cs : Array Value) : NewRB [] false w (.returned (.tuple #[.slice (some ⟨w.heap.size, 0, none⟩) 0 0, .bool false])) (w.alloc (.cells cs 28)) :=
  ⟨w.heap.size, 0, _, rfl, own_nil cs (heap_alloc_new w _) (Nat.le_refl _) (by simp), Nat.le_refl _, by unfold maxLen; omega, (Below.refl _ _).alloc (Nat.le_refl _) _⟩
/-- enough valid nodes -/
def newB (zs : List Int) : Bool := vldB zs && decide (3 ≤ zs.length)
def newR (zs : List Int) : List Nd := if newB zs then idR zs else []


end Go.Proofs.Ytcbbdhmloniolaa
