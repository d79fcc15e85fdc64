/- What meetNeighbours and RingNew do. -/
import Derived.Test.YtoggmekkkonkgaaNewR
namespace Go.Proofs.Ytoggmekkkonkgaa
open Go.RowKit
set_option linter.unusedVariables false

/-- Peers in the blocks behind block B, one a node; block B lists them. -/
structure PN (w : World) (B n : Nat) (zs : List Int) : Prop where
  row : w.rowIs B 48 n (fun j => .pointer (some ⟨B + 1 + j, 0, none⟩))
  peer : ∀ j, j < n → ∃ b s0 s1, w.heap[B + 1 + j]? = some (.cells #[.int .i64 (gt zs j), .bool true, .pointer b, .pointer s0, .pointer s1] 52 (0, 0))
/-- one peer's fields, all else as it was -/
def MeetSt (w : World) (p : Nat) (x : Int) (b s0 s1 : Option Addr) (wr : World) : Prop :=
  Kept p w wr ∧ wr.heap[p]? = some (.cells #[.int .i64 x, .bool true, .pointer b, .pointer s0, .pointer s1] 52 (0, 0))
theorem MeetSt.s0 {w wr : World} {p : Nat} {x : Int} {b s0 s1 : Option Addr} (h : MeetSt w p x b s0 s1 wr) (q : Option Addr) : MeetSt w p x b q s1 (wr.setCell ⟨p, 3, none⟩ (.pointer q)).drew :=
  ⟨h.1.trans ⟨rfl, rfl, rfl, by simp [World.setCell], fun k hk => heap_set_ne wr p 3 k (.pointer q) hk⟩, heap_set wr p 3 (.pointer q) h.2⟩
theorem MeetSt.s1 {w wr : World} {p : Nat} {x : Int} {b s0 s1 : Option Addr} (h : MeetSt w p x b s0 s1 wr) (q : Option Addr) : MeetSt w p x b s0 q (wr.setCell ⟨p, 4, none⟩ (.pointer q)).drew :=
  ⟨h.1.trans ⟨rfl, rfl, rfl, by simp [World.setCell], fun k hk => heap_set_ne wr p 4 k (.pointer q) hk⟩, heap_set wr p 4 (.pointer q) h.2⟩
theorem MeetSt.b {w wr : World} {p : Nat} {x : Int} {b s0 s1 : Option Addr} (h : MeetSt w p x b s0 s1 wr) (q : Option Addr) : MeetSt w p x q s0 s1 (wr.setCell ⟨p, 2, none⟩ (.pointer q)) :=
  ⟨h.1.trans ⟨rfl, rfl, rfl, by simp [World.setCell], fun k hk => heap_set_ne wr p 2 k (.pointer q) hk⟩, heap_set wr p 2 (.pointer q) h.2⟩
theorem MeetSt.cells {w wr : World} {p : Nat} {x : Int} {b s0 s1 : Option Addr} (h : MeetSt w p x b s0 s1 wr) :
    wr.cell? ⟨p, 0, none⟩ = some (.int .i64 x) ∧ wr.cell? ⟨p, 2, none⟩ = some (.pointer b) ∧ wr.cell? ⟨p, 3, none⟩ = some (.pointer s0) ∧ wr.cell? ⟨p, 4, none⟩ = some (.pointer s1) ∧ ∀ i, wr.frozen? ⟨p, i, none⟩ = false :=
  ⟨by rw [cell_of_cells h.2]; rfl, by rw [cell_of_cells h.2]; rfl, by rw [cell_of_cells h.2]; rfl, by rw [cell_of_cells h.2]; rfl, fun i => frozen_of_cells h.2 i⟩
def MeetAt (w : World) (p : Nat) (x : Int) (a1 a2 : Nat) (i : Value) (wr : World) : Prop :=
  (i = .int .i64 0 ∧ ∃ b s0 s1, MeetSt w p x b s0 s1 wr) ∨ (i = .int .i64 1 ∧ ∃ b s1, MeetSt w p x b (some ⟨a1, 0, none⟩) s1 wr) ∨ (i = .int .i64 2 ∧ ∃ b, MeetSt w p x b (some ⟨a1, 0, none⟩) (some ⟨a2, 0, none⟩) wr)

set_option maxHeartbeats 1000000 in
theorem meet_any (B n cap i : Nat) (zs : List Int) (w : World) (h : PN w B n zs) (h3 : 3 ≤ n) (h10 : n ≤ 10) (hi : i < n) :
    Calls Try.prog 40 #[.slice (some ⟨B, 0, none⟩) n cap, .int .i64 i] w fun e w' => e = .returned (.tuple #[]) ∧ MeetSt w (B + 1 + i) (gt zs i) (some ⟨B + 1 + nbI n i (-1), 0, none⟩) (some ⟨B + 1 + nbI n i 1, 0, none⟩) (some ⟨B + 1 + nbI n i 2, 0, none⟩) w' := by
  have n1 := nb_lt (len := n) (i := i) (s := 1) (by omega)
  have n2 := nb_lt (len := n) (i := i) (s := 2) (by omega)
  have nm := nb_lt (len := n) (i := i) (s := -1) (by omega)
  obtain ⟨b, s0, s1, hp⟩ := h.peer i hi
  have hrow : ∀ wr, Kept (B + 1 + i) w wr → ∀ j, j < n → wr.cell? ⟨B, j, none⟩ = some (.pointer (some ⟨B + 1 + j, 0, none⟩)) := fun wr hk j hj => (hk.cell (p := ⟨B, j, none⟩) (by show B ≠ _; omega)).trans (h.row.cell hj)
  have HR := Lib.hid hrow
  have hc0 := h.row.cell hi
  have HP := Lib.hid hp
  clear hrow hp
  go_enter Try.func40, Try.ntmps40
  go_wp2
  go_loopw [10] (fun j wr => MeetAt w (B + 1 + i) (gt zs i) (B + 1 + nbI n i 1) (B + 1 + nbI n i 2) j wr) (fun j _ => 2 - (intOf j).toNat)
  case atStart => exact .inl ⟨rfl, b, s0, s1, Kept.refl _ _, HP.out⟩
  case round =>
    obtain ⟨wi, rfl⟩ : ∃ x, x = wr := ⟨_, rfl⟩
    rcases hrel with ⟨rfl, b', s0', s1', hst⟩ | ⟨rfl, b', s1', hst⟩ | ⟨rfl, b', hst⟩
    · have k1 := Lib.hid (HR.out wi hst.1 _ n1)
      obtain ⟨x0, x2, x3, x4, xf⟩ := hst.cells
      have HST := Lib.hid hst
      clear hst
      go_wp2_with fail
      go_region_held3 (fun _ => True) (trivial)
        (first | (go_at_call 59; refine (nb_any B n cap i 1 _ wi.drew (by omega) h10 hi (by omega) (by omega) k1.out).mono ?_; rintro e w5 ⟨rfl, rfl⟩))
      go_wp2
      go_roundw
      case rel => exact .inr (.inl ⟨rfl, _, _, HST.out.s0 _⟩)
      case measure => simp [intOf]
    · have k1 := Lib.hid (HR.out wi hst.1 _ n2)
      obtain ⟨x0, x2, x3, x4, xf⟩ := hst.cells
      have HST := Lib.hid hst
      clear hst
      go_wp2_with fail
      go_region_held3 (fun _ => True) (trivial)
        (first | (go_at_call 59; refine (nb_any B n cap i 2 _ wi.drew (by omega) h10 hi (by omega) (by omega) k1.out).mono ?_; rintro e w5 ⟨rfl, rfl⟩))
      go_wp2
      go_roundw
      case rel => exact .inr (.inr ⟨rfl, _, HST.out.s1 _⟩)
      case measure => simp [intOf]
    · have k1 := Lib.hid (HR.out wi hst.1 _ nm)
      obtain ⟨x0, x2, x3, x4, xf⟩ := hst.cells
      have HST := Lib.hid hst
      clear hst
      go_wp2_with fail
      refine (nb_any B n cap i (-1) _ wi (by omega) h10 hi (by omega) (by omega) k1.out).mono ?_
      rintro e w5 ⟨rfl, rfl⟩
      go_wp2
      go_returns
      exact ⟨rfl, HST.out.b _⟩

/-- k peers made -/
def MadeTo (w : World) (n : Nat) (zs : List Int) (k : Nat) (wr : World) : Prop :=
  wr.heap.size = w.heap.size + 1 + k ∧ Below w.heap.size w wr ∧ wr.rowIs w.heap.size 48 n (fun j => if j < k then .pointer (some ⟨w.heap.size + 1 + j, 0, none⟩) else .pointer none) ∧
    ∀ j, j < k → wr.heap[w.heap.size + 1 + j]? = some (.cells #[.int .i64 (gt zs j), .bool true, .pointer none, .pointer none, .pointer none] 52 (0, 0))
theorem made_next {w wr : World} {n k : Nat} {zs : List Int} (h : MadeTo w n zs k wr) : MadeTo w n zs (k + 1) ((wr.alloc (.cells #[.int .i64 (gt zs k), .bool true, .pointer none, .pointer none, .pointer none] 52)).setCell ⟨w.heap.size, k, none⟩ (.pointer (some ⟨wr.heap.size, 0, none⟩))) := by
  obtain ⟨h1, h2, h3, h4⟩ := h
  refine ⟨by simp [World.setCell]; omega, (h2.alloc (by omega) _).setCell (p := ⟨w.heap.size, k, none⟩) (Nat.le_refl _) _, ((h3.alloc _).set k _).congr (fun j hj => ?_), fun j hj => ?_⟩
  · by_cases e : j = k
    · subst e; rw [if_pos rfl, if_pos (by omega), h1]
    · rw [if_neg e]
      by_cases h' : j < k
      · rw [if_pos h', if_pos (by omega)]
      · rw [if_neg h', if_neg (by omega)]
  · rw [heap_set_ne _ _ _ _ _ (by omega)]
    rcases Nat.lt_or_ge j k with h' | h'
    · exact (Below.heap_alloc wr _ _ (by omega)).trans (h4 j h')
    · obtain rfl : j = k := by omega
      rw [← h1]; exact heap_alloc_new wr _
theorem MadeTo.pn {w wr : World} {n : Nat} {zs : List Int} (h : MadeTo w n zs n wr) : PN wr w.heap.size n zs :=
  ⟨h.2.2.1.congr (fun j hj => by rw [if_pos hj]), fun j hj => ⟨_, _, _, h.2.2.2 j hj⟩⟩

/-- k nodes of the new ring, in block R -/
def NewRow (R n k : Nat) (zs : List Int) (wr : World) : Prop :=
  ∃ (F : Nat → Nat) (cs : Array Value), wr.heap[R]? = some (.cells cs 29 (0, 0)) ∧ cs.size = n * 3 ∧ (∀ i, i < k → NdCells cs i (idNd zs i) (F i) ∧ IntsBlk wr (F i) (idNd zs i).aft ∧ R < F i ∧ F i < wr.heap.size) ∧ ∀ i j, i < k → j < k → F i = F j → i = j
theorem NewRow.keep {R n k : Nat} {zs : List Int} {w w' : World} (h : NewRow R n k zs w) (hs : w.heap.size ≤ w'.heap.size) (hk : ∀ g, R ≤ g → g < w.heap.size → w'.heap[g]? = w.heap[g]?) : NewRow R n k zs w' := by
  obtain ⟨F, cs, h1, h2, h3, h4⟩ := h
  refine ⟨F, cs, (hk R (Nat.le_refl _) (heap_lt h1)).trans h1, h2, fun i hi => ?_, h4⟩
  obtain ⟨a, b, c, d⟩ := h3 i hi
  exact ⟨a, b.kept (hk _ (by omega) d), c, by omega⟩
theorem NewRow.next {R n k I : Nat} {zs : List Int} {w w2 : World} (h : NewRow R n k zs w) (hk : k < n) (hb : Below w.heap.size w w2) (hI : w.heap.size ≤ I) (hI2 : I < w2.heap.size) (hi' : IntsBlk w2 I (idNd zs k).aft) :
    NewRow R n (k + 1) zs (((w2.setCell ⟨R, k * 3, none⟩ (.int .i64 (idNd zs k).pos)).setCell ⟨R, k * 3 + 1, none⟩ (.int .i64 (idNd zs k).bef)).setCell ⟨R, k * 3 + 2, none⟩ (.slice (some ⟨I, 0, none⟩) (idNd zs k).aft.length (idNd zs k).aft.length)) := by
  obtain ⟨F, cs, h1, h2, h3, h4⟩ := h
  have hRlt := heap_lt h1
  have hne : ∀ g, g ≠ R → (((w2.setCell ⟨R, k * 3, none⟩ (.int .i64 (idNd zs k).pos)).setCell ⟨R, k * 3 + 1, none⟩ (.int .i64 (idNd zs k).bef)).setCell ⟨R, k * 3 + 2, none⟩ (.slice (some ⟨I, 0, none⟩) (idNd zs k).aft.length (idNd zs k).aft.length)).heap[g]? = w2.heap[g]? := fun g hg =>
    (heap_set_ne _ _ _ _ _ hg).trans ((heap_set_ne _ _ _ _ _ hg).trans (heap_set_ne _ _ _ _ _ hg))
  have hbs := hb.size
  refine ⟨fun j => if j = k then I else F j, _, heap_set _ _ _ _ (heap_set _ _ _ _ (heap_set _ _ _ _ ((hb.block R hRlt).trans h1))), by simpa using h2, fun i hi => ?_, fun i j hi hj he => ?_⟩
  · rcases Nat.lt_or_ge i k with h' | h'
    · obtain ⟨a, b, c, d⟩ := h3 i h'
      simp only [if_neg (show i ≠ k by omega)]
      exact ⟨nd_keep (nd_keep (nd_keep (d := 0) a (by omega) (by omega)) (by omega) (by omega)) (by omega) (by omega), b.kept ((hne _ (by omega)).trans (hb.block _ d)), c, by simp [World.setCell]; omega⟩
    · obtain rfl : i = k := by omega
      simp only [↓reduceIte]
      exact ⟨nd_set (by omega) (by simp [idNd]; unfold maxLen; omega), hi'.kept (hne _ (by omega)), by omega, by simp [World.setCell]; omega⟩
  · by_cases e1 : i = k
    · by_cases e2 : j = k
      · omega
      · simp only [if_pos e1, if_neg e2] at he
        have := (h3 j (by omega)).2.2.2; omega
    · by_cases e2 : j = k
      · simp only [if_neg e1, if_pos e2] at he
        have := (h3 i (by omega)).2.2.2; omega
      · simp only [if_neg e1, if_neg e2] at he
        exact h4 i j (by omega) (by omega) he
theorem NewRow.own {R n : Nat} {zs : List Int} {w : World} (h : NewRow R n n zs w) (hn : zs.length = n) {lo : Nat} (hlo : lo ≤ R) : ∃ F, RingOwn w lo w.heap.size R (idR zs) F := by
  obtain ⟨F, cs, h1, h2, h3, h4⟩ := h
  have hl : (idR zs).length = n := by rw [idR_len, hn]
  refine ⟨F, ⟨cs, h1, fun i hi => ?_⟩, fun i hi => ?_, ⟨hlo, heap_lt h1⟩, fun i hi => ?_, fun i j hi hj => h4 i j (by omega) (by omega)⟩
  · rw [idR_at (by omega)]; exact (h3 i (by omega)).1
  · rw [idR_at (by omega)]; exact (h3 i (by omega)).2.1
  · have := (h3 i (by omega)).2.2; omega
theorem PN.meet {w w2 : World} {B n i : Nat} {zs : List Int} {b s0 s1 : Option Addr} (h : PN w B n zs) (hi : i < n) (hm : MeetSt w (B + 1 + i) (gt zs i) b s0 s1 w2) : PN w2 B n zs := by
  refine ⟨h.row.of_block (hm.1.block B (by omega)), fun j hj => ?_⟩
  by_cases e : j = i
  · subst e; exact ⟨_, _, _, hm.2⟩
  · obtain ⟨b', s0', s1', hp⟩ := h.peer j hj
    exact ⟨b', s0', s1', (hm.1.block _ (by omega)).trans hp⟩
theorem PN.keep {w w2 : World} {B n : Nat} {zs : List Int} (h : PN w B n zs) (hk : ∀ g, B ≤ g → g < B + 1 + n → w2.heap[g]? = w.heap[g]?) : PN w2 B n zs := by
  refine ⟨h.row.of_block (hk B (Nat.le_refl _) (by omega)), fun j hj => ?_⟩
  obtain ⟨b, s0, s1, hp⟩ := h.peer j hj
  exact ⟨b, s0, s1, (hk _ (by omega) (by omega)).trans hp⟩
theorem PN.at_ {w : World} {B n : Nat} {zs : List Int} (h : PN w B n zs) {j : Nat} (hj : j < n) : w.cell? ⟨B + 1 + j, 0, none⟩ = some (.int .i64 (gt zs j)) := by
  obtain ⟨b, s0, s1, hp⟩ := h.peer j hj
  rw [cell_of_cells hp]; rfl

/-- a new ring in blocks of its own, and a bool -/
def NewRB (r : List Nd) (ok : Bool) (w : World) (e : Ending) (w' : World) : Prop :=
  ∃ N cap F, e = .returned (.tuple #[.slice (some ⟨N, 0, none⟩) r.length cap, .bool ok]) ∧ RingOwn w' w.heap.size w'.heap.size N r F ∧ r.length ≤ cap ∧ cap ≤ maxLen ∧ Below w.heap.size w w'
theorem own_nil {w : World} {N lo hi : Nat} (cs : Array Value) (h : w.heap[N]? = some (.cells cs 29 (0, 0))) (h1 : lo ≤ N) (h2 : N < hi) : RingOwn w lo hi N [] (fun _ => 0) :=
  ⟨⟨cs, h, fun i hi => absurd hi (by simp)⟩, fun i hi => absurd hi (by simp), ⟨h1, h2⟩, fun i hi => absurd hi (by simp), fun i j hi => absurd hi (by simp)⟩
theorem newRB_nil (w : World) (cs : Array Value) : NewRB [] false w (.returned (.tuple #[.slice (some ⟨w.heap.size, 0, none⟩) 0 0, .bool false])) (w.alloc (.cells cs 29)) :=
  ⟨w.heap.size, 0, _, rfl, own_nil cs (heap_alloc_new w _) (Nat.le_refl _) (by simp), Nat.le_refl _, by unfold maxLen; omega, (Below.refl _ _).alloc (Nat.le_refl _) _⟩
/-- enough valid nodes -/
def newB (zs : List Int) : Bool := vldB zs && decide (3 ≤ zs.length)
def newR (zs : List Int) : List Nd := if newB zs then idR zs else []

theorem nvalid_as (v : Bool) (a : Option Addr) (len cap : Nat) (zs : List Int) (w : World) (h : IntsAt w a zs) (hz : zs.length = len) (hm : len ≤ maxLen) (hv : vldB zs = v) :
    Calls Try.prog 39 #[.slice a len cap] w fun e w' => e = .returned (.bool v) ∧ w = w' := by subst hv; exact nvalid_any a len cap zs w h hz hm

set_option maxHeartbeats 2000000 in
theorem rnew_any (a : Option Addr) (len cap : Nat) (zs : List Int) (w : World) (h : IntsAt w a zs) (hz : zs.length = len) (hm : len ≤ maxLen) :
    Calls Try.prog 14 #[.slice a len cap] w (NewRB (newR zs) (newB zs) w) := by
  have HI := Lib.hid h
  have HZ := Lib.hid hz
  have HM := Lib.hid hm
  clear h hm
  cases hv : vldB zs
  · have He : Hid (newB zs = false) := by show newB zs = false; simp [newB, hv]
    have HV := Lib.hid hv
    clear hv hz
    go_enter Try.func14, Try.ntmps14
    go_wp2_with fail
    refine (nvalid_as false a len cap zs w HI.out HZ.out HM.out HV.out).mono ?_
    rintro e w1 ⟨rfl, rfl⟩
    go_wp2
    go_ret2
    rw [newR, He.out]
    exact newRB_nil w _
  have HV := Lib.hid hv
  have h10 := (vld_len hv).2
  rw [hz] at h10
  by_cases h3 : 3 ≤ len
  rotate_left
  · have He : Hid (newB zs = false) := by show newB zs = false; simp [newB, hv, hz]; omega
    have d3 : decide ((len : Int) < 3) = true := by simp; omega
    clear hv hz
    go_enter Try.func14, Try.ntmps14
    go_wp2_with fail
    refine (nvalid_as true a len cap zs w HI.out HZ.out HM.out HV.out).mono ?_
    rintro e w1 ⟨rfl, rfl⟩
    go_wp2
    go_ret2
    rw [newR, He.out]
    exact newRB_nil w _
  have He : Hid (newB zs = true) := by show newB zs = true; simp [newB, hv, hz, h3]
  have d3 : decide ((len : Int) < 3) = false := by simp; omega
  have hmk := run_make_row' (P := Try.prog) 43 48 (.pointer none) 8 Try.underlying43 (by kernel_rfl) rfl .i64 .i64 len (by omega) (by omega)
  have hmk2 := mk_nodes len (by omega)
  clear hv hz
  go_enter Try.func14, Try.ntmps14
  go_wp2_with fail
  refine (nvalid_as true a len cap zs w HI.out HZ.out HM.out HV.out).mono ?_
  rintro e w1 ⟨rfl, rfl⟩
  go_wp2
  clear d3 hmk
  go_loopw [24] (fun i wr => ∃ k : Nat, k ≤ len ∧ i = .int .i64 k ∧ MadeTo w len zs k wr) (fun i _ => len - (intOf i).toNat)
  case atStart =>
    refine ⟨0, by omega, rfl, by simp, (Below.refl _ _).alloc (Nat.le_refl _) _, (World.rowIs_made w (.pointer none) len 48).congr (fun j _ => by rw [if_neg (by omega)]), fun j hj => absurd hj (by omega)⟩
  case round =>
    obtain ⟨k, hk, rfl, hmd⟩ := hrel
    by_cases hlt : k < len
    · have h' : ∃ b off, a = some ⟨b, off, none⟩ ∧ b < w.heap.size ∧ wr.cell? ⟨b, off + k, none⟩ = some (.int .i64 (gt zs k)) := by
        rcases HI.out with h0 | ⟨b, off, ha, hb, hc⟩
        · have := HZ.out; rw [h0] at this; simp at this; omega
        · exact ⟨b, off, ha, hb, (hmd.2.1.cell (p := ⟨b, off + k, none⟩) hb).trans (hc k (by rw [HZ.out]; exact hlt))⟩
      obtain ⟨b, off, rfl, hb, hc⟩ := h'
      have x0 := hmd.2.2.1.cell hlt
      rw [if_neg (by omega)] at x0
      have f0 := hmd.2.2.1.frozen k
      have hz := hmd.1
      have hlt2 : w.heap.size < wr.heap.size := by omega
      have HMD := Lib.hid hmd
      clear hmd hz hmk2
      go_wp2
      go_roundw
      case rel => exact ⟨k + 1, by omega, by go_num, by rw [← World.setCell_alloc_past _ _ _ _ hlt2]; exact made_next HMD.out⟩
      case measure => simp [intOf]; omega
    · obtain rfl : k = len := by omega
      have hpn := hmd.pn
      have hz := hmd.1
      have hb := hmd.2.1
      have HPN := Lib.hid hpn
      have HB := Lib.hid hb
      clear hmd hpn hb
      obtain ⟨w5, rfl⟩ : ∃ x, x = wr := ⟨_, rfl⟩
      have HZ5 := Lib.hid hz
      clear hz
      go_wp2
      clear hmk2
      go_loopw [41] (fun i wr => ∃ j : Nat, j ≤ k ∧ i = .int .i64 j ∧ PN wr w.heap.size k zs ∧ NewRow w5.heap.size k j zs wr ∧ Below w.heap.size w wr) (fun i _ => k - (intOf i).toNat)
      case atStart =>
        have hz := HZ5.out
        refine ⟨0, by omega, rfl, HPN.out.keep (fun g _ hg => Below.heap_alloc w5 _ g (by omega)), ⟨fun _ => 0, _, heap_alloc_new w5 _, size_madeCells _ _, fun i hi => absurd hi (by omega), fun i j hi => absurd hi (by omega)⟩, HB.out.alloc (by omega) _⟩
      case round =>
        obtain ⟨j, hj, rfl, hp, hrow, hbel⟩ := hrel
        obtain ⟨w6, rfl⟩ : ∃ x, x = wr := ⟨_, rfl⟩
        by_cases hjt : j < k
        · have c0 := hp.row.cell hjt
          have HP := Lib.hid hp
          have HROW := Lib.hid hrow
          clear hp hrow
          go_wp2_with fail
          refine (meet_any w.heap.size k _ j zs w6 HP.out h3 h10 hjt).mono ?_
          rintro e w7 ⟨rfl, hm7⟩
          have hp7 := HP.out.meet hjt hm7
          have n1 := nb_lt (len := k) (i := j) (s := 1) (by omega)
          have n2 := nb_lt (len := k) (i := j) (s := 2) (by omega)
          have nm := nb_lt (len := k) (i := j) (s := -1) (by omega)
          obtain ⟨x0, x2, x3, x4, _⟩ := hm7.cells
          have HX := Lib.hid (And.intro x0 (And.intro x2 (And.intro x3 x4)))
          have HD := Lib.hid (And.intro (hp7.at_ n1) (And.intro (hp7.at_ n2) (hp7.at_ nm)))
          have HM7 := Lib.hid hm7
          have HP7 := Lib.hid hp7
          have hlm : w.heap.size + 1 + nbI k j (-1) < w7.heap.size := block_of (hp7.at_ nm)
          clear x0 x2 x3 x4 hm7 hp7
          have hzl := HZ.out
          have HE : Hid ((⟨gt zs j, gt zs (nbI k j (-1)), [gt zs (nbI k j 1), gt zs (nbI k j 2)]⟩ : Nd) = idNd zs j) := by
            show _ = _
            rw [idNd, hzl, nb_one (by omega), nb_two (by omega), nb_less (by omega)]
          clear hzl
          go_wp2_with fail
          have hnode := node_any _ _ _ _ _ _ _ _ w7 HX.out.1 HX.out.2.1 HX.out.2.2.1 HX.out.2.2.2 (.inr ⟨_, rfl, hlm, HD.out.2.2⟩) HD.out.1 HD.out.2.1
          rw [HE.out] at hnode
          refine hnode.mono ?_
          rintro e w8 ⟨I, rfl, hi8, hI1, hI2, hb8⟩
          clear hnode
          have hz5 := HZ5.out
          have hrow7 : NewRow w5.heap.size k j zs w7 := HROW.out.keep (Nat.le_of_eq HM7.out.1.size.symm) (fun g hg _ => HM7.out.1.block g (by omega))
          have HR7 := Lib.hid hrow7
          obtain ⟨F8, cs, h81, h82, _, _⟩ := hrow7.keep hb8.size (fun g _ hg => hb8.block g hg)
          obtain ⟨v0, x0⟩ : ∃ v, w8.cell? ⟨w5.heap.size, j * 3, none⟩ = some v := ⟨_, by rw [cell_of_cells h81]; exact Array.getElem?_eq_getElem (by omega)⟩
          obtain ⟨v1, x1⟩ : ∃ v, w8.cell? ⟨w5.heap.size, j * 3 + 1, none⟩ = some v := ⟨_, by rw [cell_of_cells h81]; exact Array.getElem?_eq_getElem (by omega)⟩
          obtain ⟨v2, x2⟩ : ∃ v, w8.cell? ⟨w5.heap.size, j * 3 + 2, none⟩ = some v := ⟨_, by rw [cell_of_cells h81]; exact Array.getElem?_eq_getElem (by omega)⟩
          have f0 := frozen_of_cells h81 (j * 3)
          have f1 := frozen_of_cells h81 (j * 3 + 1)
          have f2 := frozen_of_cells h81 (j * 3 + 2)
          have HI8 := Lib.hid hi8
          clear hrow7 h81 h82 hi8
          have hp8 : PN w8 w.heap.size k zs := HP7.out.keep (fun g _ hg => hb8.block g (by have := HP7.out.row.lt; have h1 := HR7.out; obtain ⟨_, _, h1, _⟩ := h1; have := heap_lt h1; omega))
          have hB8 : Below w.heap.size w w8 := (hbel.trans (HM7.out.1.below (by omega))).trans (hb8.mono (by have := hbel.size; have := HM7.out.1.size; omega))
          have HP8 := Lib.hid hp8
          clear hp8 hz5
          go_wp2
          go_roundw
          case rel =>
            have hz5 := HZ5.out
            refine ⟨j + 1, by omega, by go_num, HP8.out.keep (fun g _ hg => (heap_set_ne _ _ _ _ _ (by omega)).trans ((heap_set_ne _ _ _ _ _ (by omega)).trans (heap_set_ne _ _ _ _ _ (by omega)))), HR7.out.next hjt hb8 hI1 hI2 HI8.out, ?_⟩
            exact ((hB8.setCell (by show w.heap.size ≤ w5.heap.size; omega) _).setCell (by show w.heap.size ≤ w5.heap.size; omega) _).setCell (by show w.heap.size ≤ w5.heap.size; omega) _
          case measure => simp [intOf]; omega
        · obtain rfl : j = k := by omega
          have HROW := Lib.hid hrow
          have HBEL := Lib.hid hbel
          clear hrow hbel hp
          go_wp2
          go_ret2
          have hz5 := HZ5.out
          obtain ⟨F, hF⟩ := HROW.out.own HZ.out (lo := w.heap.size) (by omega)
          have hl : (idR zs).length = j := by rw [idR_len, HZ.out]
          rw [newR, He.out, if_pos rfl]
          exact ⟨w5.heap.size, j, F, by rw [hl]; rfl, hF, by omega, by unfold maxLen; omega, HBEL.out⟩
end Go.Proofs.Ytoggmekkkonkgaa
