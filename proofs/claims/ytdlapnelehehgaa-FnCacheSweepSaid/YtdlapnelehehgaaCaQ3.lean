/- A heap of entries by time, through container/heap: one more entry; the heap of a list. -/
import Derived.Test.YtdlapnelehehgaaCaQ2
namespace Go.Proofs.Ytdlapnelehehgaa
open Go.RowKit
set_option linter.unusedVariables false
attribute [local go_sem ↓] Go.wp_at_zero Go.wp_at_succ

/-- append onto a row of the call's own, of whatever type of slice -/
theorem step_appX {t : TypeId} (ht : Try.prog.underlying t = some (.slice 37)) {ops : Array Oper} {o : Oper} {a : Act} {K : Act → World → Prop} {Q : Exit → Act → World → Prop} {E : Prop} (W : World) (hgd : o.guard = none) (s x : Operand)
    (ho : o.op = .call { callee := .builtin .append, args := #[s, x], argTypes := #[t, t] })
    (base g n cap : Nat) (L M : List Ls) (hs : a.eval s = .slice (some ⟨g, 0, none⟩) n cap) (hown : OwnS W base g cap L) (hn : L.length = n)
    (ad : Addr) (m c : Nat) (hx : a.eval x = .slice (some ad) m c) (hl : M.length = m) (hnews : ∀ (j : Nat) (u : Value), (flat M)[j]? = some u → W.cell? (ad.add j) = some u)
    (r : Nat) (hr : n + m = r) (hb : r ≤ 1000000) (hbase : base ≤ W.heap.size)
    (h : ∀ g' cap' w', OwnS w' base g' cap' (L ++ M) → W.grownBy w' (some g) → (g' = g ∨ g' = W.heap.size) → K (a.put o.dst (.slice (some ⟨g', 0, none⟩) r cap')) w') :
    if Region.wanted o (yielded ops a.tmps) = true then Oper.wp Try.prog o a W K Q else E := by
  have hw : Region.wanted o (yielded ops a.tmps) = true := by simp [Region.wanted, hgd]
  rw [if_pos hw]
  subst hr hn hl
  obtain ⟨i0, hi0, hz0, hz1, hz2⟩ := info_parts Try.infoEntry
  obtain ⟨v', w', hrun, ho1, hg1, hnone, hat⟩ := run_append_own_at (P := Try.prog) W base t o.type 37 i0 _ 3 24 ht hi0 hz0 hz1 hz2 rfl (by omega) _ L.length (flat L) hown ad M.length c (flat M) (flat_len M) hnews (flat_one M) (by unfold maxLen; omega) (by omega) hbase
  have hv : ∃ g' cap', v' = .slice (some ⟨g', 0, none⟩) (L.length + M.length) cap' := by
    rcases ho1.2 with ⟨hn, _⟩ | ⟨g', cap', _, hv, _⟩
    · have := (hnone.1 hn).1; cases this
    · exact ⟨g', cap', hv⟩
  obtain ⟨g', cap', rfl⟩ := hv
  have hat' : g' = g ∨ g' = W.heap.size := by simpa [Value.ownBlock] using hat
  unfold Oper.wp execOp
  simp only [ho, resolve, invoke, builtin, Sem.run_bind, Sem.run_pure, Result.andThen_ok, List.map_toArray, List.map_cons, List.map_nil, hs, hx, hrun]
  exact h g' cap' w' (by unfold OwnS; rw [List.length_append, flat_app]; exact ho1) hg1 hat'

theorem add_cell {hb base g c n : Nat} {L : List Ls} {w wr w2 : World} (h : HpAt w hb base g c n L) (hgr : wr.grownBy w2 (some g)) (hh : ∀ k, k < w.heap.size → wr.heap[k]? = w.heap[k]?) (hsz : w.heap.size ≤ wr.heap.size) :
    w2.cell? ⟨hb, 0, none⟩ = some (.slice (some ⟨g, 0, none⟩) n c) ∧ w2.frozen? ⟨hb, 0, none⟩ = false := by
  have hlt := heap_lt h.var
  have h2 : w2.heap[hb]? = some (.cells #[.slice (some ⟨g, 0, none⟩) n c] 52 (0, 0)) := by
    rw [hgr.block hb (by omega) (fun e => h.ne (by injection e with e)), hh hb hlt]; exact h.var
  exact ⟨by rw [cell_of_cells h2]; rfl, frozen_of_cells h2 0⟩
/-- behind one more entry -/
def AddPost (hb base g n : Nat) (M : List Ls) (w : World) (w' : World) : Prop :=
  ∃ g' c', HpAt w' hb base g' c' (n + 1) M ∧ base ≤ g' ∧ Grown2 w w' g hb
theorem add_post {hb base g c n g' c' : Nat} {L : List Ls} {x : Ls} {w wr w2 : World} (h : HpAt w hb base g c n L) (hl : L.length = n) (hown : OwnS w2 base g' c' (L ++ [x])) (hgr : wr.grownBy w2 (some g)) (hat : g' = g ∨ g' = wr.heap.size) (o : Obj) (hwr : wr.heap = (w.alloc o).heap ∧ wr.os = w.os ∧ wr.tape = w.tape ∧ wr.output = w.output) :
    AddPost hb base g n (L ++ [x]) w (w2.setCell ⟨hb, 0, none⟩ (.slice (some ⟨g', 0, none⟩) (n + 1) c')) := by
  obtain ⟨hh, h1, h2, h3⟩ := hwr
  have hlt := heap_lt h.var
  have hsz : wr.heap.size = w.heap.size + 1 := by rw [hh]; simp
  have hold : ∀ k, k < w.heap.size → k ≠ g → w2.heap[k]? = w.heap[k]? := fun k hk hne => by
    rw [hgr.block k (by omega) (fun e => hne (by injection e with e)), hh]
    exact Below.heap_alloc _ _ _ hk
  have hv2 := (hold hb hlt h.ne).trans h.var
  have hne' : hb ≠ g' := by
    rcases hat with e | e
    · rw [e]; exact h.ne
    · omega
  refine ⟨g', c', ⟨?_, ?_, ?_, hne'⟩, hown.blk.1, ⟨hgr.os.trans h1, hgr.tape.trans h2, hgr.output.trans h3, ?_, ?_⟩⟩
  · have e1 := heap_set w2 hb 0 (.slice (some ⟨g', 0, none⟩) (n + 1) c') hv2
    have e2 : (#[Value.slice (some ⟨g, 0, none⟩) n c] : Array Value).setIfInBounds 0 (.slice (some ⟨g', 0, none⟩) (n + 1) c') = #[.slice (some ⟨g', 0, none⟩) (n + 1) c'] := rfl
    rw [e2] at e1
    exact e1
  · exact hown.kept (heap_set_ne _ _ _ _ _ (Ne.symm hne'))
  · rw [List.length_append, hl]; simp
  · have := hgr.size
    simp [World.setCell]; omega
  · intro k hk hg hne
    exact (heap_set_ne _ _ _ _ _ hne).trans (hold k hk hg)

theorem asEntry (v : Value) (w : World) : (Instr.typeAssert (.iface 37 v) 20 37 false).run Try.prog w = .ok v w := by kernel_rfl

set_option maxRecDepth 20000 in
set_option maxHeartbeats 4000000 in
theorem add_any (hb base g c n : Nat) (L : List Ls) (x : Ls) (w : World) (h : HpAt w hb base g c n L) (hl : L.length = n) (hbd : n ≤ 1000) (hbase : base ≤ w.heap.size) :
    Calls Try.prog 113 #[.pointer (some ⟨hb, 0, none⟩), .iface 37 (.agg #[.int .i64 x.e, .int .i64 x.o, .int .i64 x.u])] w fun e w' => e = .returned (.tuple #[]) ∧ AddPost hb base g n (L ++ [x]) w w' := by
  have hc := h.cell
  have hlt := heap_lt h.var
  have fz := frozen_of_cells h.var 0
  have hcap : n ≤ c := by obtain ⟨_, _, cs, _, h4, _⟩ := h.row.blk; omega
  have HP := Lib.hid h
  have HL := Lib.hid hl
  have HO1 : Hid (∀ o, OwnS (w.drew.alloc o) base g c L) := fun o => h.row.drew.keepB (alB _ _) (Nat.le_refl _)
  have HO2 : Hid (∀ o, OwnS (w.alloc o) base g c L) := fun o => h.row.keepB (alB _ _) (Nat.le_refl _)
  have as1 := fun w => asEntry (.agg #[.int .i64 x.e, .int .i64 x.o, .int .i64 x.u]) w
  clear h hl
  go_enter Try.func113, Try.ntmps113
  go_wp2_with fail
  go_region_law (refine step_appX Try.underlying52 (o := ⟨some 11, _, _, _, _, _⟩) _ (by rfl) (.tmp 7) (.tmp 10) (by rfl) base g n c L [x] (by rfl) (by first | exact HO1.out _ | exact HO2.out _) HL.out ⟨w.heap.size, 0, none⟩ 1 1 (by rfl) rfl (srcL_one (heap_alloc_new _ _)) (n + 1) rfl (by omega) (by simp; omega) ?_; intro g' c' w2 hown hgr hat; obtain ⟨hc2, fz2⟩ := add_cell HP.out hgr (fun k hk => Below.heap_alloc _ _ _ hk) (by simp); have HA := Lib.hid (add_post HP.out HL.out hown hgr hat _ ⟨rfl, rfl, rfl, rfl⟩); clear hown hgr hat)
  all_goals
    go_wp2
    go_returns
    exact ⟨rfl, HA.out⟩

/-- .. at the head of the loop that raises the last element -/
def RiseAt (hb base g c n : Nat) (L : List Ls) (w : World) (x : Nat) (wr : World) : Prop :=
  ∃ L', x < n ∧ HpAt wr hb base g c n L' ∧ L'.length = L.length ∧ Heap.UpHole leB (gl L') n x ∧ (Heap.toL (gl L') n).Perm (Heap.toL (gl L) n) ∧ (∀ i, n ≤ i → gl L' i = gl L i) ∧ w.grownBy wr (some g)

set_option maxRecDepth 20000 in
set_option maxHeartbeats 4000000 in
theorem up_any (hb base g c n x : Nat) (L : List Ls) (w : World) (h : HpAt w hb base g c n L) (hx : x < n) (hbd : n ≤ 1000000) (hole : Heap.UpHole leB (gl L) n x) :
    Calls Try.prog 71 #[.iface 64 (.pointer (some ⟨hb, 0, none⟩)), .int .i64 x] w fun e w' => e = .returned (.tuple #[]) ∧ SunkPost hb base g c n n 0 L w w' := by
  have H0 : Hid (RiseAt hb base g c n L w x w) := ⟨L, hx, h, rfl, hole, List.Perm.refl _, fun _ _ => rfl, grown_refl _ _⟩
  have nl : ∀ (n : Nat) (w : World), (nilAhead (n + 1) 64 (.pointer (some ⟨hb, 0, none⟩)) "Less").run Try.prog w = .ok (some false) w := fun n w => nLess hb w n
  have ns : ∀ (n : Nat) (w : World), (nilAhead (n + 1) 64 (.pointer (some ⟨hb, 0, none⟩)) "Swap").run Try.prog w = .ok (some false) w := fun n w => nSwap hb w n
  clear h hole
  go_enter Try.func71, Try.ntmps71
  go_wp2
  go_loopw [1] (fun i wr => ∃ y : Nat, i = .int .i64 y ∧ RiseAt hb base g c n L w y wr) (fun i _ => (intOf i).toNat)
  case atStart => exact ⟨x, rfl, H0.out⟩
  case round =>
    obtain ⟨y, rfl, M, hyn, hp, hl, hho, hpm, hot, hbel⟩ := hrel
    have HP := Lib.hid hp
    have HL := Lib.hid hl
    have HH := Lib.hid hho
    have HM := Lib.hid hpm
    have HT := Lib.hid hot
    have HB := Lib.hid hbel
    have hlen := hp.len
    clear hp hl hho hpm hot hbel
    by_cases h0 : y = 0
    · subst h0
      have HR : Hid (SunkPost hb base g c n n 0 L w wr) := ⟨M, HP.out, HL.out, HH.out.root, HM.out, HT.out, HB.out⟩
      go_wp2
      go_returns
      exact ⟨rfl, HR.out⟩
    · obtain ⟨j, hj, hj2⟩ : ∃ j : Nat, ((y : Int) - 1).tdiv 2 = (j : Int) ∧ (y = 2 * j + 1 ∨ y = 2 * j + 2) := ⟨(y - 1) / 2, by rw [Int.tdiv_eq_ediv_of_nonneg (by omega)]; omega, by omega⟩
      have hj' : ((y : Int) - 1) / 2 = (j : Int) := by rw [Int.tdiv_eq_ediv_of_nonneg (by omega)] at hj; exact hj
      have HJ := Lib.hid hj2
      have hjy : j < y := by omega
      have t1 : ((j : Int) == (y : Int)) = false := by rw [beq_eq_false_iff_ne]; omega
      have y1 : (1 : Int) ≤ (y : Int) := by omega
      clear hj2 h0
      have m2 := fun q => mLess hb wr _ HP.out.cell q
      go_wp2_with fail
      refine (less_any base g n c M y j wr HP.out.row HP.out.len (by omega) (by omega)).mono ?_
      rintro e w3 ⟨rfl, hb3⟩
      have HP3 := Lib.hid (HP.out.keepB hb3)
      have HB3 := Lib.hid (grown_bel HB.out hb3)
      clear hb3 m2
      cases hv : lsB (gl M y) (gl M j)
      · have HR : Hid (SunkPost hb base g c n n 0 L w w3) := ⟨M, HP3.out, HL.out, HH.out.ok HJ.out hv, HM.out, HT.out, HB3.out⟩
        clear hv
        go_wp2
        go_returns
        exact ⟨rfl, HR.out⟩
      · have HV := Lib.hid (leB_of _ _ hv)
        have m3 := fun q => mSwap hb w3 _ HP3.out.cell q
        clear hv
        go_wp2_with fail
        refine (swap_any base g n c M j y w3 HP3.out.row HP3.out.len (by omega) (by omega)).mono ?_
        rintro e w4 ⟨rfl, ho4, hk4⟩
        have hf : gl (xchL M j y) = Heap.sw (gl M) j y := funext fun i => xchL_gl (by omega) (by omega) i
        have HS : Hid (RiseAt hb base g c n L w j w4) := ⟨xchL M j y, by omega, HP3.out.put hk4 ho4 (xchL_len _ _ _), (xchL_len _ _ _).trans HL.out, by rw [hf]; exact HH.out.step leB_trans HJ.out hyn HV.out, by rw [hf]; exact (Heap.sw_perm _ (by omega) (by omega)).trans HM.out, fun i hi => by rw [hf, Heap.sw_o _ (by omega) (by omega)]; exact HT.out i hi, grown_trans HB3.out hk4.grown⟩
        clear hf ho4 hk4 m3 hj hj' t1
        go_wp2
        go_roundw
        case rel => exact ⟨j, rfl, HS.out⟩
        case measure => simp [intOf]; omega

/-- what one more entry leaves: a heap -/
def MorePost (hb base g n : Nat) (L : List Ls) (x : Ls) (w : World) (w' : World) : Prop :=
  ∃ g' c' L', HpAt w' hb base g' c' (n + 1) L' ∧ base ≤ g' ∧ L'.length = n + 1 ∧ Heap.Is leB (gl L') (n + 1) 0 ∧ L'.Perm (L ++ [x]) ∧ Grown2 w w' g hb

theorem Grown2.trans_new {u v w : World} {g g' b : Nat} (h : Grown2 u v g b) (k : v.grownBy w (some g')) (hg : g' = g ∨ u.heap.size ≤ g') : Grown2 u w g b :=
  ⟨k.os.trans h.os, k.tape.trans h.tape, k.output.trans h.output, Nat.le_trans h.size k.size, fun i hi h1 h2 => (k.block i (Nat.lt_of_lt_of_le hi h.size) (fun e => by injection e with e; omega)).trans (h.block i hi h1 h2)⟩

set_option maxRecDepth 20000 in
set_option maxHeartbeats 4000000 in
theorem more_any (hb base g c n : Nat) (L : List Ls) (x : Ls) (w : World) (h : HpAt w hb base g c n L) (hl : L.length = n) (his : Heap.Is leB (gl L) n 0) (hbd : n ≤ 1000) (hbase : base ≤ w.heap.size) (hhb : base ≤ hb) :
    Calls Try.prog 62 #[.iface 64 (.pointer (some ⟨hb, 0, none⟩)), .iface 37 (.agg #[.int .i64 x.e, .int .i64 x.o, .int .i64 x.u])] w fun e w' => e = .returned (.tuple #[]) ∧ ∃ g' c' L', HpAt w' hb base g' c' (n + 1) L' ∧ L'.length = n + 1 ∧ Heap.Is leB (gl L') (n + 1) 0 ∧ L'.Perm (L ++ [x]) ∧ Below base w w' := by
  have n1 : ∀ (n : Nat) (w : World), (nilAhead (n + 1) 64 (.pointer (some ⟨hb, 0, none⟩)) "Push").run Try.prog w = .ok (some false) w := fun n w => nPush hb w n
  have n2 : ∀ (n : Nat) (w : World), (nilAhead (n + 1) 64 (.pointer (some ⟨hb, 0, none⟩)) "Len").run Try.prog w = .ok (some false) w := fun n w => nLen hb w n
  have n4 : ∀ (n : Nat) (w : World), (method (n + 1) 64 (.pointer (some ⟨hb, 0, none⟩)) "Push").run Try.prog w = .ok (113, .pointer (some ⟨hb, 0, none⟩)) w := fun n w => mPush hb w n
  have HP := Lib.hid h
  have HL := Lib.hid hl
  have HI := Lib.hid his
  clear h hl his
  go_enter Try.func62, Try.ntmps62
  go_wp2_with fail
  refine (add_any hb base g c n L x w HP.out HL.out hbd hbase).mono ?_
  rintro e w2 ⟨rfl, g', c', hp2, hg2, hgr2⟩
  have HP2 := Lib.hid hp2
  have HB2 : Hid (Below base w w2) := hgr2.below HP.out.row.blk.1 hhb hbase
  have m1 := fun q => mLen hb w2 _ HP2.out.cell q
  clear hp2 hgr2
  go_wp2_with fail
  refine (hlen_any _ (n + 1) c' w2).mono ?_
  rintro e w' ⟨rfl, rfl⟩
  have e1 : ((n + 1 : Nat) : Int) - 1 = (n : Int) := by omega
  have hol : Heap.UpHole leB (gl (L ++ [x])) (n + 1) n := Heap.UpHole.new (fun p q hp hq hn => by
    have hL := HL.out
    have e1 : gl (L ++ [x]) p = gl L p := by unfold gl; simp only [List.getD_eq_getElem?_getD]; rw [List.getElem?_append_left (by omega)]
    have e2 : gl (L ++ [x]) q = gl L q := by unfold gl; simp only [List.getD_eq_getElem?_getD]; rw [List.getElem?_append_left (by omega)]
    rw [e1, e2]; exact HI.out p q hp hq hn)
  have HO := Lib.hid hol
  clear m1 hol
  go_wp2_with fail
  refine (up_any hb base g' c' (n + 1) n (L ++ [x]) w2 HP2.out (by omega) (by omega) HO.out).mono ?_
  rintro e w3 ⟨rfl, M, h1, h2, h3, h4, h5, h6⟩
  have hML : M.length = n + 1 := by rw [h2, List.length_append, HL.out]; rfl
  have HR : Hid (∃ g' c' L', HpAt w3 hb base g' c' (n + 1) L' ∧ L'.length = n + 1 ∧ Heap.Is leB (gl L') (n + 1) 0 ∧ L'.Perm (L ++ [x]) ∧ Below base w w3) := by
    refine ⟨g', c', M, h1, hML, h3, ?_, HB2.out.grown h6 (Nat.le_trans hbase HB2.out.size) (fun k hk => by injection hk with hk; omega)⟩
    rw [toL_gl M (n + 1) (by omega), toL_gl (L ++ [x]) (n + 1) (by rw [List.length_append, HL.out]; simp)] at h4
    rwa [List.take_of_length_le (by omega), List.take_of_length_le (by rw [List.length_append, HL.out]; simp)] at h4
  clear h1 h2 h3 h4 h5 h6 hML
  go_wp2
  go_returns
  exact ⟨rfl, HR.out⟩
end Go.Proofs.Ytdlapnelehehgaa
