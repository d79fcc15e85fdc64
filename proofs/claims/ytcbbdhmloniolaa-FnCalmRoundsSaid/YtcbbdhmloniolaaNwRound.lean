/- Rounds of a network. -/
import Derived.Test.YtcbbdhmloniolaaNwNodes
import Derived.Test.YtcbbdhmloniolaaIdealMath
import Derived.Laws.StructEq
namespace Go.Proofs.Ytcbbdhmloniolaa
open Go.RowKit
set_option linter.unusedVariables false

theorem Try.infoPeer : (Try.prog.info? 91).map (fun i => (i.zero, i.size, i.bytes)) = some (some (.agg #[.int .i64 0, .bool false, .pointer none, .pointer none, .pointer none]), 5, 40) := by kernel_rfl
/-- make of a row of peers -/
theorem mk_peers (n : Nat) (hn : n ≤ 1048576) (w : World) :
    (Instr.makeSlice 85 (.int .i64 (n : Int)) (.int .i64 (n : Int))).run Try.prog w = .ok (.slice (some ⟨w.heap.size, 0, none⟩) n n) (w.alloc (.cells (madeCells #[.int .i64 0, .bool false, .pointer none, .pointer none, .pointer none] (n * 5)) 91)) := by
  obtain ⟨i, hi, hz0, hz1, hz2⟩ := info_parts Try.infoPeer
  have hr := run_make (P := Try.prog) w 85 91 i _ Try.underlying85 hi hz0 .i64 .i64 n n (by omega) (Int.le_refl _) (by rw [hz2]; omega) (by omega)
  simp only [Int.toNat_natCast, hz1] at hr
  exact hr

/-- a peer as it stands in a row -/
def StCells (cs : Array Value) (i : Nat) (x : Int) (p : Pr) : Prop :=
  cs[i * 5]? = some (.int .i64 x) ∧ cs[i * 5 + 1]? = some (.bool p.lv) ∧ cs[i * 5 + 2]? = some (.pointer p.b) ∧ cs[i * 5 + 3]? = some (.pointer p.s0) ∧ cs[i * 5 + 4]? = some (.pointer p.s1)
/-- the peer of a node -/
def prOf (K : Nat → Option Pr) (r : List Nd) (i : Nat) : Pr := (K (gn r i).pos.toNat).getD ⟨0, false, none, none, none⟩
theorem prOf_eq {K : Nat → Option Pr} {r : List Nd} {i : Nat} {p : Pr} (h : K (gn r i).pos.toNat = some p) : prOf K r i = p := by simp [prOf, h]
/-- the states of k peers, in block N -/
def StRow (w : World) (N n k : Nat) (K : Nat → Option Pr) (r : List Nd) : Prop :=
  ∃ cs, w.heap[N]? = some (.cells cs 91 (0, 0)) ∧ cs.size = n * 5 ∧ ∀ i, i < k → StCells cs i (gn r i).pos (prOf K r i)
theorem StRow.kept {w w' : World} {N n k : Nat} {K : Nat → Option Pr} {r : List Nd} (h : StRow w N n k K r) (e : w'.heap[N]? = w.heap[N]?) : StRow w' N n k K r := by
  obtain ⟨cs, h1, h2⟩ := h; exact ⟨cs, e.trans h1, h2⟩
theorem st_keep {cs : Array Value} {i j d : Nat} {x : Int} {p : Pr} {v : Value} (h : StCells cs j x p) (hij : j ≠ i) (hd : d < 5) : StCells (cs.setIfInBounds (i * 5 + d) v) j x p := by
  obtain ⟨h0, h1, h2, h3, h4⟩ := h
  refine ⟨?_, ?_, ?_, ?_, ?_⟩ <;> rw [Array.getElem?_setIfInBounds_ne (by omega)] <;> assumption
theorem st_set {cs : Array Value} {i : Nat} {x : Int} {p : Pr} (hs : i * 5 + 4 < cs.size) :
    StCells (((((cs.setIfInBounds (i * 5) (.int .i64 x)).setIfInBounds (i * 5 + 1) (.bool p.lv)).setIfInBounds (i * 5 + 2) (.pointer p.b)).setIfInBounds (i * 5 + 3) (.pointer p.s0)).setIfInBounds (i * 5 + 4) (.pointer p.s1)) i x p := by
  refine ⟨?_, ?_, ?_, ?_, ?_⟩
  · rw [Array.getElem?_setIfInBounds_ne (by omega), Array.getElem?_setIfInBounds_ne (by omega), Array.getElem?_setIfInBounds_ne (by omega), Array.getElem?_setIfInBounds_ne (by omega), Array.getElem?_setIfInBounds_self_of_lt (by omega)]
  · rw [Array.getElem?_setIfInBounds_ne (by omega), Array.getElem?_setIfInBounds_ne (by omega), Array.getElem?_setIfInBounds_ne (by omega), Array.getElem?_setIfInBounds_self_of_lt (by simp; omega)]
  · rw [Array.getElem?_setIfInBounds_ne (by omega), Array.getElem?_setIfInBounds_ne (by omega), Array.getElem?_setIfInBounds_self_of_lt (by simp; omega)]
  · rw [Array.getElem?_setIfInBounds_ne (by omega), Array.getElem?_setIfInBounds_self_of_lt (by simp; omega)]
  · rw [Array.getElem?_setIfInBounds_self_of_lt (by simp; omega)]
theorem StRow.next {w : World} {N n k : Nat} {K : Nat → Option Pr} {r : List Nd} (h : StRow w N n k K r) (hk : k < n) :
    StRow (((((w.setCell ⟨N, k * 5, none⟩ (.int .i64 (gn r k).pos)).setCell ⟨N, k * 5 + 1, none⟩ (.bool (prOf K r k).lv)).setCell ⟨N, k * 5 + 2, none⟩ (.pointer (prOf K r k).b)).setCell ⟨N, k * 5 + 3, none⟩ (.pointer (prOf K r k).s0)).setCell ⟨N, k * 5 + 4, none⟩ (.pointer (prOf K r k).s1)) N n (k + 1) K r := by
  obtain ⟨cs, h1, h2, h3⟩ := h
  refine ⟨_, heap_set _ _ _ _ (heap_set _ _ _ _ (heap_set _ _ _ _ (heap_set _ _ _ _ (heap_set _ _ _ _ h1)))), by simpa using h2, fun i hi => ?_⟩
  rcases Nat.lt_or_ge i k with h' | h'
  · exact st_keep (st_keep (st_keep (st_keep (st_keep (d := 0) (h3 i h') (by omega) (by omega)) (by omega) (by omega)) (by omega) (by omega)) (by omega) (by omega)) (by omega) (by omega)
  · obtain rfl : i = k := by omega
    exact st_set (by omega)

set_option maxHeartbeats 400000 in
theorem states_nw (n L cap : Nat) (K : Nat → Option Pr) (r : List Nd) (w : World) (h : NW w n L cap K r) (hv : rvB r = true) :
    Calls Try.prog 72 #[.pointer (some ⟨n, 0, none⟩)] w fun e w' => e = .returned (.slice (some ⟨w.heap.size, 0, none⟩) r.length r.length) ∧ StRow w' w.heap.size r.length r.length K r ∧ Below w.heap.size w w' := by
  have h10 := rv_len hv
  obtain ⟨t0, _⟩ := h.top
  have hlt := h.lt
  obtain ⟨len, hlen⟩ : ∃ l, l = r.length := ⟨_, rfl⟩
  have hmk2 := mk_peers len (by omega)
  have t1 : ∀ o, (w.alloc o).cell? ⟨n, 64, none⟩ = some (.slice (some ⟨L, 0, none⟩) r.length cap) := fun o => (((Below.refl _ _).alloc (Nat.le_refl _) o : Below w.heap.size w (w.alloc o)).cell (p := ⟨n, 64, none⟩) hlt).trans t0
  rw [← hlen] at t0 t1 h10
  have HN := Lib.hid h
  have HV := Lib.hid hv
  have HL := Lib.hid hlen
  clear h hv hlen
  go_enter Try.func72, Try.ntmps72
  go_wp2
  clear t0 t1 hmk2
  go_loopw [17] (fun i wr => ∃ k : Nat, k ≤ len ∧ i = .int .i64 k ∧ StRow wr w.heap.size len k K r ∧ Below w.heap.size w wr) (fun i _ => len - (intOf i).toNat)
  case atStart =>
    exact ⟨0, by omega, rfl, ⟨_, heap_alloc_new w _, size_madeCells _ _, fun i hi => absurd hi (by omega)⟩, (Below.refl _ _).alloc (Nat.le_refl _) _⟩
  case round =>
    obtain ⟨k, hk, rfl, hrow, hbel⟩ := hrel
    by_cases hlt' : k < len
    · have hkr : k < r.length := by rw [← HL.out]; exact hlt'
      have hn' := HN.out.keepB hbel
      obtain ⟨p, _, _, hp, hrest⟩ := hn'.node HV.out hkr
      clear hrest
      have hpp := (nd_open HV.out hkr).1
      have c0 := hn'.listed hkr hp
      obtain ⟨y0, y1, y2, y3, y4, yf, yl, yn, y8⟩ := hn'.known HV.out hpp hp
      rw [← y8] at y1
      have HPR := Lib.hid (prOf_eq hp)
      have HROW := Lib.hid hrow
      obtain ⟨cs, h81, h82, _⟩ := hrow
      obtain ⟨v0, x0⟩ : ∃ v, wr.cell? ⟨w.heap.size, k * 5, none⟩ = some v := ⟨_, by rw [cell_of_cells h81]; exact Array.getElem?_eq_getElem (by omega)⟩
      obtain ⟨v1, x1⟩ : ∃ v, wr.cell? ⟨w.heap.size, k * 5 + 1, none⟩ = some v := ⟨_, by rw [cell_of_cells h81]; exact Array.getElem?_eq_getElem (by omega)⟩
      obtain ⟨v2, x2⟩ : ∃ v, wr.cell? ⟨w.heap.size, k * 5 + 2, none⟩ = some v := ⟨_, by rw [cell_of_cells h81]; exact Array.getElem?_eq_getElem (by omega)⟩
      obtain ⟨v3, x3⟩ : ∃ v, wr.cell? ⟨w.heap.size, k * 5 + 3, none⟩ = some v := ⟨_, by rw [cell_of_cells h81]; exact Array.getElem?_eq_getElem (by omega)⟩
      obtain ⟨v4, x4⟩ : ∃ v, wr.cell? ⟨w.heap.size, k * 5 + 4, none⟩ = some v := ⟨_, by rw [cell_of_cells h81]; exact Array.getElem?_eq_getElem (by omega)⟩
      have f0 := frozen_of_cells h81 (k * 5)
      have f1 := frozen_of_cells h81 (k * 5 + 1)
      have f2 := frozen_of_cells h81 (k * 5 + 2)
      have f3 := frozen_of_cells h81 (k * 5 + 3)
      have f4 := frozen_of_cells h81 (k * 5 + 4)
      clear h81 h82 hn' hp hkr hpp y8 yf yn
      go_wp2
      go_roundw
      case rel =>
        have hnx := HROW.out.next hlt'
        rw [HPR.out] at hnx
        refine ⟨k + 1, by omega, ?_, ?_, ?_⟩
        · go_num
        · exact hnx
        exact ((((hbel.setCell (Nat.le_refl _) _).setCell (Nat.le_refl _) _).setCell (Nat.le_refl _) _).setCell (Nat.le_refl _) _).setCell (Nat.le_refl _) _
      case measure => simp [intOf]; omega
    · obtain rfl : k = len := by omega
      have HROW := Lib.hid hrow
      clear hrow
      go_wp2
      go_ret
      have hl := HL.out
      subst hl
      exact ⟨rfl, HROW.out, hbel⟩

/-- a pointer to a peer, or none -/
def PtrOk (w : World) (v : Option Addr) : Prop := v = none ∨ ∃ g cs, v = some ⟨g, 0, none⟩ ∧ w.heap[g]? = some (.cells cs 91 (0, 0))
theorem pcmp {w : World} {a b : Option Addr} (ha : PtrOk w a) (hb : PtrOk w b) (d : Nat) : (Op.equalIn (d + 1) 74 (.pointer a) (.pointer b)).run Try.prog w = .ok (decide (a = b)) w := by
  have hi : (Try.prog.info? 91).map (fun i => i.size) = some 5 := by kernel_rfl
  obtain ⟨i, hi1, hi2⟩ := Option.map_eq_some_iff.1 hi
  have hu := Try.underlying74
  rcases ha with rfl | ⟨g, cs, rfl, hg⟩
  · rcases hb with rfl | ⟨g', cs', rfl, hg'⟩
    · simp [Op.equalIn, run_underlying hu]
    · simp [Op.equalIn, run_underlying hu]
  · rcases hb with rfl | ⟨g', cs', rfl, hg'⟩
    · simp [Op.equalIn, run_underlying hu]
    · by_cases e : g = g'
      · subst e
        simp [Op.equalIn, run_underlying hu, sizeOf, typeInfo, hi1, run_sameAddr_same]
      · have hne : (⟨g, 0, none⟩ : Addr) ≠ ⟨g', 0, none⟩ := by intro h; injection h with h; exact e h
        simp [Op.equalIn, run_underlying hu, sizeOf, typeInfo, hi1, hi2, run_sameAddr_other w hne hg hg']
theorem acmp {w : World} {s t s' t' : Option Addr} (hs : PtrOk w s) (hs' : PtrOk w s') (ht : PtrOk w t) (ht' : PtrOk w t') (d : Nat) : (Op.equalIn (d + 1 + 1) 89 (.agg #[.pointer s, .pointer t]) (.agg #[.pointer s', .pointer t'])).run Try.prog w = .ok (decide (s = s') && decide (t = t')) w := by
  have h1 := pcmp hs hs' d
  have h2 := pcmp ht ht' d
  have a84 := Try.isAgg74
  have z84 := Try.sizeOf74
  rw [Op.equalIn]
  simp only [Sem.run_bind, run_underlying Try.underlying89, Result.andThen_ok]
  have p0 : ∀ (a b : Value) (w : World), (Go.part 74 #[a, b] 0).run Try.prog w = .ok a w := fun a b w => by simp [Go.part, a84]
  have p1 : ∀ (a b : Value) (w : World), (Go.part 74 #[a, b] 1).run Try.prog w = .ok b w := fun a b w => by simp [Go.part, a84]
  simp [h1, h2, z84, p0, p1, List.range']
  by_cases e1 : s = s' <;> by_cases e2 : t = t' <;> simp [e1, e2]
def stB (x : Int) (p : Pr) (x' : Int) (p' : Pr) : Bool := decide (x = x') && (p.lv == p'.lv) && decide (p.b = p'.b) && (decide (p.s0 = p'.s0) && decide (p.s1 = p'.s1))
def PrOk (w : World) (p : Pr) : Prop := PtrOk w p.b ∧ PtrOk w p.s0 ∧ PtrOk w p.s1
theorem PtrOk.heap {w w' : World} {v : Option Addr} (h : PtrOk w v) (e : w'.heap = w.heap) : PtrOk w' v := by
  rcases h with h | ⟨g, cs, h1, h2⟩
  · exact .inl h
  · exact .inr ⟨g, cs, h1, by rw [e]; exact h2⟩
theorem PrOk.heap {w w' : World} {p : Pr} (h : PrOk w p) (e : w'.heap = w.heap) : PrOk w' p := ⟨h.1.heap e, h.2.1.heap e, h.2.2.heap e⟩

set_option maxHeartbeats 1000000 in
theorem eqst_any (v : Bool) (N1 N2 n : Nat) (K1 K2 : Nat → Option Pr) (r1 r2 : List Nd) (w : World) (h1 : StRow w N1 n n K1 r1) (h2 : StRow w N2 n n K2 r2) (hn : n ≤ 10) (ho1 : ∀ i, i < n → PrOk w (prOf K1 r1 i)) (ho2 : ∀ i, i < n → PrOk w (prOf K2 r2 i)) (hps : ∀ i, i < n → (gn r2 i).pos = (gn r1 i).pos ∧ (prOf K1 r1 i).lv = true ∧ (prOf K2 r2 i).lv = true)
    (hv : allTo (fun i => stB (gn r1 i).pos (prOf K1 r1 i) (gn r2 i).pos (prOf K2 r2 i)) n = v) :
    Calls Try.prog 74 #[.slice (some ⟨N1, 0, none⟩) n n, .slice (some ⟨N2, 0, none⟩) n n] w fun e w' => e = .returned (.bool v) ∧ Same w w' := by
  have H1 := Lib.hid h1
  have H2 := Lib.hid h2
  have HO1 := Lib.hid ho1
  have HO2 := Lib.hid ho2
  have HV := Lib.hid hv
  have HPS := Lib.hid hps
  have v2 : ((n : Int) != (n : Int)) = false := by simp
  clear h1 h2 ho1 ho2 hv hps
  go_enter Try.func74, Try.ntmps74
  go_wp2
  clear v2
  go_loopw [13] (fun i wr => ∃ k : Nat, k ≤ n ∧ i = .int .i64 k ∧ allTo (fun i => stB (gn r1 i).pos (prOf K1 r1 i) (gn r2 i).pos (prOf K2 r2 i)) k = true ∧ Same w wr) (fun i _ => n - (intOf i).toNat)
  case atStart => exact ⟨0, by omega, rfl, rfl, Same.refl _⟩
  case round =>
    obtain ⟨k, hk, rfl, hall, hsm⟩ := hrel
    have HA := Lib.hid hall
    clear hall
    obtain ⟨wo, rfl⟩ : ∃ x, x = wr := ⟨_, rfl⟩
    by_cases hlt : k < n
    · obtain ⟨cs, c1, c2, c3⟩ := H1.out.kept (w' := wo) (by rw [hsm.heap])
      obtain ⟨ds, d1, d2, d3⟩ := H2.out.kept (w' := wo) (by rw [hsm.heap])
      obtain ⟨x0, x1, x2, x3, x4⟩ := c3 k hlt
      obtain ⟨y0, y1, y2, y3, y4⟩ := d3 k hlt
      have X0 := (cell_of_cells c1 (k * 5)).trans x0
      have X1 := (cell_of_cells c1 (k * 5 + 1)).trans x1
      have X2 := (cell_of_cells c1 (k * 5 + 2)).trans x2
      have X3 := (cell_of_cells c1 (k * 5 + 3)).trans x3
      have X4 := (cell_of_cells c1 (k * 5 + 4)).trans x4
      have Y0 := (cell_of_cells d1 (k * 5)).trans y0
      have Y1 := (cell_of_cells d1 (k * 5 + 1)).trans y1
      have Y2 := (cell_of_cells d1 (k * 5 + 2)).trans y2
      have Y3 := (cell_of_cells d1 (k * 5 + 3)).trans y3
      have Y4 := (cell_of_cells d1 (k * 5 + 4)).trans y4
      have i0 : (0 : Int) ≤ (k : Int) := by omega
      have i1 : (k : Int) < (n : Int) := by omega
      obtain ⟨hp0, hp1, hp2⟩ := HPS.out k hlt
      rw [hp0] at Y0
      rw [hp1] at X1
      rw [hp2] at Y1
      have o1 := (HO1.out k hlt).heap (w' := wo) hsm.heap
      have o2 := (HO2.out k hlt).heap (w' := wo) hsm.heap
      have k1 : ∀ m, (Op.equalIn 9999 74 (.pointer (prOf K1 r1 k).b) (.pointer (prOf K2 r2 k).b)).run Try.prog (wo.drewN m) = .ok (decide ((prOf K1 r1 k).b = (prOf K2 r2 k).b)) (wo.drewN m) := fun m => pcmp (o1.1.heap (w' := wo.drewN m) rfl) (o2.1.heap (w' := wo.drewN m) rfl) 9998
      have k2 : ∀ m, (Op.equalIn 9999 89 (.agg #[.pointer (prOf K1 r1 k).s0, .pointer (prOf K1 r1 k).s1]) (.agg #[.pointer (prOf K2 r2 k).s0, .pointer (prOf K2 r2 k).s1])).run Try.prog (wo.drewN m) = .ok (decide ((prOf K1 r1 k).s0 = (prOf K2 r2 k).s0) && decide ((prOf K1 r1 k).s1 = (prOf K2 r2 k).s1)) (wo.drewN m) := fun m => acmp (o1.2.1.heap (w' := wo.drewN m) rfl) (o2.2.1.heap (w' := wo.drewN m) rfl) (o1.2.2.heap (w' := wo.drewN m) rfl) (o2.2.2.heap (w' := wo.drewN m) rfl) 9997
      have HSTB : Hid (stB (gn r1 k).pos (prOf K1 r1 k) (gn r2 k).pos (prOf K2 r2 k) = (decide ((prOf K1 r1 k).b = (prOf K2 r2 k).b) && (decide ((prOf K1 r1 k).s0 = (prOf K2 r2 k).s0) && decide ((prOf K1 r1 k).s1 = (prOf K2 r2 k).s1)))) := by
        show stB _ _ _ _ = _
        simp [stB, hp0, hp1, hp2]
      have hgd : Try.prog.eqGuardType Try.prog.depth 91 = false := by kernel_rfl
      generalize (decide ((prOf K1 r1 k).b = (prOf K2 r2 k).b)) = bb at *
      generalize (decide ((prOf K1 r1 k).s0 = (prOf K2 r2 k).s0) && decide ((prOf K1 r1 k).s1 = (prOf K2 r2 k).s1)) = cc at *
      clear c1 c2 c3 d1 d2 d3 x0 x1 x2 x3 x4 y0 y1 y2 y3 y4 hp0 hp1 hp2 o1 o2
      rcases (show bb = false ∨ bb = true ∧ cc = false ∨ bb = true ∧ cc = true by cases bb <;> cases cc <;> simp) with rfl | ⟨rfl, rfl⟩ | ⟨rfl, rfl⟩
      · have HST : Hid (stB (gn r1 k).pos (prOf K1 r1 k) (gn r2 k).pos (prOf K2 r2 k) = false) := HSTB.out
        clear HSTB
        go_wp2
        go_quiet (fail)
        go_wp2
        go_ret
        exact ⟨ret_bool (by rw [← HV.out]; exact (allTo_no hlt HST.out).symm), hsm.drewN _⟩
      · have HST : Hid (stB (gn r1 k).pos (prOf K1 r1 k) (gn r2 k).pos (prOf K2 r2 k) = false) := HSTB.out
        clear HSTB
        go_wp2
        go_quiet (fail)
        go_wp2
        go_ret
        exact ⟨ret_bool (by rw [← HV.out]; exact (allTo_no hlt HST.out).symm), hsm.drewN _⟩
      · have HST : Hid (stB (gn r1 k).pos (prOf K1 r1 k) (gn r2 k).pos (prOf K2 r2 k) = true) := HSTB.out
        clear HSTB
        go_wp2
        go_quiet (fail)
        go_wp2
        go_roundw
        case rel => exact ⟨k + 1, by omega, by go_num, allTo_succ HA.out HST.out, hsm.drewN _⟩
        case measure => simp [intOf]; omega
    · obtain rfl : k = n := by omega
      go_wp2
      go_ret
      exact ⟨ret_bool (by rw [← HV.out]; exact HA.out.symm), hsm⟩

/-- what the peers of nodes point to -/
theorem NW.prOk {w : World} {n L cap : Nat} {K : Nat → Option Pr} {r : List Nd} (h : NW w n L cap K r) (hv : rvB r = true) {k : Nat} (hk : k < r.length) : PrOk w (prOf K r k) := by
  obtain ⟨p, q0, q1, hp, _, hb, e0, e1, h0, h1⟩ := h.node hv hk
  obtain ⟨_, hbf, ha0, ha1, _⟩ := nd_open hv hk
  rw [prOf_eq hp]
  have blk : ∀ {z : Int} {q : Pr}, 0 ≤ z ∧ z < 64 → K z.toNat = some q → ∃ cs, w.heap[q.blk]? = some (.cells cs 91 (0, 0)) := fun hz hq => h.net.blk hz ⟨_, hq, rfl⟩
  refine ⟨?_, ?_, ?_⟩
  · rcases hb with ⟨_, eb⟩ | ⟨hb, qb, hqb, eb⟩
    · exact .inl eb
    · obtain ⟨cs, hc⟩ := blk (z := (gn r k).bef) (by omega) hqb
      exact .inr ⟨_, cs, eb, hc⟩
  · obtain ⟨cs, hc⟩ := blk ha0 h0
    exact .inr ⟨_, cs, e0, hc⟩
  · obtain ⟨cs, hc⟩ := blk ha1 h1
    exact .inr ⟨_, cs, e1, hc⟩
theorem NW.inj {w : World} {n L cap : Nat} {K : Nat → Option Pr} {r : List Nd} (h : NW w n L cap K r) {x y : Int} (hx : 0 ≤ x ∧ x < 64) (hy : 0 ≤ y ∧ y < 64) {p q : Pr} (hp : K x.toNat = some p) (hq : K y.toNat = some q) (e : p.blk = q.blk) : x = y := by
  obtain ⟨la, h1, _⟩ := h
  have := h1.inj (by omega) (by omega) hp hq e
  omega
theorem same_eq2 {a b : List Nd} (h : sameR a b = true) : a = b := by
  rw [sameR, Bool.and_eq_true] at h
  have hl : a.length = b.length := by simpa using h.1
  refine List.ext_getElem hl fun i hi hi' => ?_
  have hn := (allTo_iff _ _).1 h.2 i hi
  rw [← gn_get hi, ← gn_get hi']
  simp only [sameN, Bool.and_eq_true, decide_eq_true_eq] at hn
  exact nd_ext hn.1.1 hn.1.2 hn.2
theorem same_iff2 {a b : List Nd} (hl : a.length = b.length) (h : ∀ i, i < b.length → gn a i = gn b i) : sameR a b = true := by
  simp only [sameR, Bool.and_eq_true, decide_eq_true_eq, allTo_iff]
  exact ⟨hl, fun i hi => by rw [h i (by omega)]; simp [sameN]⟩
/-- equal states are equal rings -/
theorem states_iff {w w' : World} {n L L' cap cap' : Nat} {K K' : Nat → Option Pr} {r r' : List Nd} (h : NW w n L cap K r) (h' : NW w' n L' cap' K' r') (hv : rvB r = true) (hv' : rvB r' = true) (hle : KLe K K') (hl : r'.length = r.length) (hpos : ∀ i, i < r.length → (gn r' i).pos = (gn r i).pos) :
    allTo (fun i => stB (gn r i).pos (prOf K r i) (gn r' i).pos (prOf K' r' i)) r.length = sameR r' r := by
  have key : ∀ i, i < r.length → (stB (gn r i).pos (prOf K r i) (gn r' i).pos (prOf K' r' i) = true ↔ gn r' i = gn r i) := fun i hi => by
    obtain ⟨p, q0, q1, hp, hlv, hb, e0, e1, h0, h1⟩ := h.node hv hi
    obtain ⟨p', q0', q1', hp', hlv', hb', e0', e1', h0', h1'⟩ := h'.node hv' (by rw [hl]; exact hi)
    obtain ⟨_, hbf, ha0, ha1, haf⟩ := nd_open hv hi
    obtain ⟨_, hbf', ha0', ha1', haf'⟩ := nd_open hv' (show i < r'.length by rw [hl]; exact hi)
    rw [prOf_eq hp, prOf_eq hp']
    have ptr : ∀ {x y : Int} {q q' : Pr}, 0 ≤ x ∧ x < 64 → 0 ≤ y ∧ y < 64 → K x.toNat = some q → K' y.toNat = some q' → (q.ad = q'.ad ↔ y = x) := fun hx hy hq hq' => by
      obtain ⟨q2, hq2, hb2⟩ := hle _ _ hq
      constructor
      · intro e
        have e' : q2.blk = _ := hb2.trans (by simpa [Pr.ad] using e)
        exact (h'.inj hx hy hq2 hq' e').symm
      · intro e; subst e
        rw [hq2] at hq'; injection hq' with hq'; subst hq'
        simp [Pr.ad, hb2]
    have c0 : p.s0 = p'.s0 ↔ gt (gn r' i).aft 0 = gt (gn r i).aft 0 := by rw [e0, e0']; exact ptr ha0 ha0' h0 h0'
    have c1 : p.s1 = p'.s1 ↔ gt (gn r' i).aft 1 = gt (gn r i).aft 1 := by rw [e1, e1']; exact ptr ha1 ha1' h1 h1'
    have cb : p.b = p'.b ↔ (gn r' i).bef = (gn r i).bef := by
      rcases hb with ⟨hb, eb⟩ | ⟨hb, qb, hqb, eb⟩
      · rcases hb' with ⟨hb', eb'⟩ | ⟨hb', qb', hqb', eb'⟩
        · rw [eb, eb', hb, hb']; simp
        · rw [eb, eb']; constructor
          · intro e; cases e
          · intro e; rw [hb] at e; exact absurd e hb'
      · rcases hb' with ⟨hb', eb'⟩ | ⟨hb', qb', hqb', eb'⟩
        · rw [eb, eb']; constructor
          · intro e; cases e
          · intro e; rw [hb'] at e; exact absurd e.symm hb
        · rw [eb, eb']; exact ptr (by omega) (by omega) hqb hqb'
    simp only [stB, Bool.and_eq_true, decide_eq_true_eq, beq_iff_eq, hlv, hlv', c0, c1, cb]
    constructor
    · rintro ⟨⟨⟨_, _⟩, k2⟩, k3, k4⟩
      exact nd_ext (hpos i hi) k2 (by rw [haf, haf', k3, k4])
    · intro e; rw [e]; exact ⟨⟨⟨rfl, trivial⟩, rfl⟩, rfl, rfl⟩
  rcases (show allTo (fun i => stB (gn r i).pos (prOf K r i) (gn r' i).pos (prOf K' r' i)) r.length = true ∨ allTo (fun i => stB (gn r i).pos (prOf K r i) (gn r' i).pos (prOf K' r' i)) r.length = false by cases allTo (fun i => stB (gn r i).pos (prOf K r i) (gn r' i).pos (prOf K' r' i)) r.length <;> simp) with ha | ha
  · rw [ha]
    have h1 := (allTo_iff _ _).1 ha
    rw [same_iff2 hl (fun i hi => (key i hi).1 (h1 i hi))]
  · rw [ha]
    rcases (show sameR r' r = false ∨ sameR r' r = true by cases sameR r' r <;> simp) with hq | hq
    · rw [hq]
    have e := same_eq2 hq
    exfalso
    have : allTo (fun i => stB (gn r i).pos (prOf K r i) (gn r' i).pos (prOf K' r' i)) r.length = true := (allTo_iff _ _).2 (fun i hi => (key i hi).2 (by rw [e]))
    rw [ha] at this; cases this

/-- what a round leaves -/
def RoundPost (n L cap : Nat) (K : Nat → Option Pr) (r : List Nd) (w : World) (e : Ending) (w' : World) : Prop :=
  e = .returned (.bool (!sameR (rndR r) r)) ∧ ∃ K', NW w' n L cap K' (rndR r) ∧ KLe K K' ∧ Below n w w'

set_option maxHeartbeats 2000000 in
theorem round_nw (n L cap : Nat) (K : Nat → Option Pr) (r : List Nd) (w : World) (h : NW w n L cap K r) (hs : safeB r = true) :
    Calls Try.prog 52 #[.pointer (some ⟨n, 0, none⟩)] w (RoundPost n L cap K r w) := by
  have hv := safe_rv hs
  have h10 := rv_len hv
  obtain ⟨len, hlen⟩ : ∃ l, l = r.length := ⟨_, rfl⟩
  have HN := Lib.hid h
  have HS := Lib.hid hs
  have HV := Lib.hid hv
  have HL := Lib.hid hlen
  have hlt := h.lt
  rw [← hlen] at h10
  have haw : Away n K w.heap.size := by
    obtain ⟨la, l1, _⟩ := h
    exact ⟨by omega, fun x p hx hp e => by have := heap_lt (l1.peer x p hx hp).1; omega⟩
  have HAW := Lib.hid haw
  clear h hs hv hlen haw
  go_enter Try.func52, Try.ntmps52
  go_wp2_with fail
  refine (states_nw n L cap K r w HN.out HV.out).mono ?_
  rintro e w1 ⟨rfl, hst1, hb1⟩
  have HN1 := Lib.hid (HN.out.keepB hb1)
  have t0 := HN1.out.top.1
  have hN1 : w.heap.size < w1.heap.size := by obtain ⟨cs, c1, _⟩ := hst1; exact heap_lt c1
  have HST1 := Lib.hid hst1
  rw [← HL.out] at t0 ⊢
  clear hst1
  go_wp2
  clear t0
  go_loopw [13] (fun i wr => ∃ k : Nat, k ≤ len ∧ i = .int .i64 k ∧ ∃ K1, NW wr n L cap K1 (rndTo r k) ∧ KLe K K1 ∧ Below n w wr ∧ Fr n K K1 w1 wr) (fun i _ => len - (intOf i).toNat)
  case atStart => exact ⟨0, by omega, rfl, K, HN1.out, KLe.refl _, hb1.mono (by omega), Fr.refl _ _ _⟩
  case round =>
    obtain ⟨k, hk, rfl, K1, hn1, hle1, hbel, hfr⟩ := hrel
    obtain ⟨wo, rfl⟩ : ∃ x, x = wr := ⟨_, rfl⟩
    have hok := rnd_ok HS.out (k := k) (by rw [← HL.out]; exact hk)
    by_cases hlt' : k < len
    · have hkr : k < r.length := by rw [← HL.out]; exact hlt'
      have hkr' : k < (rndTo r k).length := by rw [hok.len]; exact hkr
      obtain ⟨p, _, _, hp, hrest⟩ := hn1.node (safe_rv hok.safe) hkr'
      clear hrest
      have c0 := hn1.listed hkr' hp
      have HN1' := Lib.hid hn1
      have HP := Lib.hid hp
      have HK := Lib.hid hkr'
      have HOK := Lib.hid hok
      clear hn1 hp hkr' hkr hok
      go_wp2_with fail
      refine (stabilize_live n L cap K1 (rndTo r k) k p _ wo HN1'.out HOK.out.safe HK.out HP.out).mono ?_
      rintro e w2 ⟨rfl, K2, hn2, hle2, hb2, hf2⟩
      have HN2 := Lib.hid hn2
      clear hn2
      go_wp2
      go_roundw
      case rel => exact ⟨k + 1, by omega, by go_num, K2, HN2.out, hle1.trans hle2, hbel.trans hb2, hfr.trans hf2⟩
      case measure => simp [intOf]; omega
    · obtain rfl : k = len := by omega
      have hrr : rndTo r k = rndR r := by rw [HL.out]; rfl
      rw [hrr] at hn1 hok
      have HN2 := Lib.hid hn1
      have HOK := Lib.hid hok
      clear hn1 hok hrr
      have hfk := hfr.2 w.heap.size hN1 HAW.out
      have HST2 := Lib.hid (HST1.out.kept hfk.1)
      have hlt2 : w.heap.size < wo.heap.size := Nat.lt_of_lt_of_le hN1 hfr.1
      go_wp2_with fail
      refine (states_nw n L cap K1 (rndR r) wo HN2.out (safe_rv HOK.out.safe)).mono ?_
      rintro e w3 ⟨rfl, hst3, hb3⟩
      have HST3 := Lib.hid hst3
      have HN3 := Lib.hid (HN2.out.keepB hb3)
      have HST23 := Lib.hid (HST2.out.kept (hb3.block _ hlt2))
      have hlr : (rndR r).length = k := by rw [HOK.out.len, HL.out]
      have HLR := Lib.hid hlr
      have HO1 : Hid (∀ i, i < k → PrOk w3 (prOf K r i)) := fun i hi => by
        have hir : i < r.length := by rw [← HL.out]; exact hi
        have ho := HN.out.prOk HV.out hir
        have hpt : ∀ v, PtrOk w v → (∀ g, v = some ⟨g, 0, none⟩ → ∃ x q, x < 64 ∧ K x = some q ∧ q.blk = g) → PtrOk w3 v := fun v hv hg => by
          rcases hv with hv | ⟨g, cs, hv, _⟩
          · exact .inl hv
          · obtain ⟨x, q, hx, hq, rfl⟩ := hg g hv
            obtain ⟨q2, hq2, hb2⟩ := hle1 _ _ hq
            obtain ⟨la, l1, _⟩ := HN3.out
            exact .inr ⟨q.blk, _, hv, by rw [← hb2]; exact (l1.peer x q2 hx hq2).1⟩
        obtain ⟨p, q0, q1, hp, _, hb, e0, e1, h0, h1⟩ := HN.out.node HV.out hir
        obtain ⟨_, hbf, ha0, ha1, _⟩ := nd_open HV.out hir
        rw [prOf_eq hp] at ho ⊢
        refine ⟨hpt _ ho.1 (fun g hg => ?_), hpt _ ho.2.1 (fun g hg => ?_), hpt _ ho.2.2 (fun g hg => ?_)⟩
        · rcases hb with ⟨_, eb⟩ | ⟨hb, qb, hqb, eb⟩
          · rw [eb] at hg; cases hg
          · rw [eb] at hg; exact ⟨_, qb, by omega, hqb, by simpa [Pr.ad] using hg⟩
        · rw [e0] at hg; exact ⟨_, q0, by omega, h0, by simpa [Pr.ad] using hg⟩
        · rw [e1] at hg; exact ⟨_, q1, by omega, h1, by simpa [Pr.ad] using hg⟩
      have HO3 : Hid (∀ i, i < k → PrOk w3 (prOf K1 (rndR r) i)) := fun i hi => HN3.out.prOk (safe_rv HOK.out.safe) (by rw [HLR.out]; exact hi)
      have HPS : Hid (∀ i, i < k → (gn (rndR r) i).pos = (gn r i).pos ∧ (prOf K r i).lv = true ∧ (prOf K1 (rndR r) i).lv = true) := fun i hi => by
        have hir : i < r.length := by rw [← HL.out]; exact hi
        obtain ⟨p, _, _, hp, h1, _⟩ := HN.out.node HV.out hir
        obtain ⟨p', _, _, hp', h1', _⟩ := HN3.out.node (safe_rv HOK.out.safe) (show i < (rndR r).length by rw [HLR.out]; exact hi)
        exact ⟨HOK.out.pos i hir, by rw [prOf_eq hp]; exact h1, by rw [prOf_eq hp']; exact h1'⟩
      have HQ : Hid (allTo (fun i => stB (gn r i).pos (prOf K r i) (gn (rndR r) i).pos (prOf K1 (rndR r) i)) k = sameR (rndR r) r) := by
        show _ = _
        have := states_iff HN.out HN3.out HV.out (safe_rv HOK.out.safe) hle1 HOK.out.len HOK.out.pos
        rw [← HL.out] at this; exact this
      rw [HLR.out] at hst3 ⊢
      have HST3' := Lib.hid hst3
      clear hst3 hlr
      have HST23' : Hid (StRow w3 w.heap.size k k K r) := by have := HST23.out; rw [← HL.out] at this; exact this
      go_wp2_with fail
      refine (eqst_any _ w.heap.size wo.heap.size k K K1 r (rndR r) w3 HST23'.out HST3'.out h10 HO1.out HO3.out HPS.out HQ.out).mono ?_
      rintro e w4 ⟨rfl, hs4⟩
      go_wp2
      go_ret
      exact ⟨rfl, K1, HN3.out.same hs4, hle1, hbel.trans ((hb3.mono (by omega)).trans (hs4.below _))⟩
end Go.Proofs.Ytcbbdhmloniolaa
