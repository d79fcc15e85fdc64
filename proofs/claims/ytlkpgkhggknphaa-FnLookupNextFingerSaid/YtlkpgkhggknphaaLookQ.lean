/- Lookups: paths, as the program finds them: an iterator, and slices.Collect over it. -/
import Derived.Test.YtlkpgkhggknphaaLookN
namespace Go.Proofs.Ytlkpgkhggknphaa
open Go.RowKit Go.Shelf
set_option linter.unusedVariables false

attribute [local go_sem] Oper.semAt_some

set_option maxRecDepth 100000 in
set_option maxHeartbeats 2000000 in
theorem lnext_no (a : Option Addr) (len cap : Nat) (zs : List Int) (id key : Int) (w : World) (h : IntsAt w a zs) (hz : zs.length = len) (hm : len ≤ maxLen) (hv : memB zs id = false ∨ ptB key = false) :
    Calls Try.prog 9 #[.slice a len cap, .int .i64 id, .int .i64 key] w fun e w' => e = .returned (.int .i64 (-1)) ∧ Below w.heap.size w w' := by
  have HI := Lib.hid h
  have HZ := Lib.hid hz
  have HM := Lib.hid hm
  clear h hz hm
  have hor : memB zs id = false ∨ (memB zs id = true ∧ ptB key = false) := by
    cases h1 : memB zs id
    · exact .inl rfl
    · rcases hv with h' | h'
      · rw [h1] at h'; cases h'
      · exact .inr ⟨rfl, h'⟩
  clear hv
  refine (callsIn_wide (n := 3)).1 ?_
  refine callsIn_of_wp_marks Try.func9 rfl trivial ?_ rfl
  simp only [Try.ntmps9, List.size_toArray, List.length_cons, List.length_nil, Nat.reduceAdd, Nat.reduceSub, Array.replicate_succ, Array.replicate_zero, List.push_toArray, List.append_toArray, List.nil_append, List.cons_append]
  refine wpIn_wide.2 ?_
  go_wp2_with fail
  obtain ⟨hB0, b1, b2, b3, hs0⟩ := boxes3 w (.int .i64 id) (.int .i64 key) (.int .i64 0)
  generalize (((w.alloc (.cells #[.int .i64 id] 3)).alloc (.cells #[.int .i64 key] 3)).alloc (.cells #[.int .i64 0] 3)) = W0 at hB0 b1 b2 b3 hs0 ⊢
  clear hs0
  have c1 := b1.cell
  have c2 := b2.cell
  have c3 := b3.cell
  have f3 := b3.frozen
  have hc5 : Hid ((W0.setCell ⟨w.heap.size + 1 + 1, 0, none⟩ (.int .i64 (-1))).cell? ⟨w.heap.size + 1 + 1, 0, none⟩ = some (.int .i64 (-1))) := (b3.set (.int .i64 (-1))).cell
  have hBs : Below w.heap.size w (W0.setCell ⟨w.heap.size + 1 + 1, 0, none⟩ (.int .i64 (-1))) := hB0.setCell (p := ⟨w.heap.size + 1 + 1, 0, none⟩) (by show w.heap.size ≤ w.heap.size + 1 + 1; omega) _
  refine (member_any a len cap zs id W0 (HI.out.keepB hB0 (Nat.le_refl _)) HZ.out HM.out).mono ?_
  rintro e w' ⟨rfl, rfl⟩
  rcases hor with hv | ⟨hv, hk⟩
  · rw [hv]
    clear hv
    go_wp2
    have h5 := hc5.out
    refine ⟨.int .i64 (-1), ?_, rfl, hBs⟩
    simp [results, Try.f9, go_sem, h5]
  · rw [hv]
    clear hv
    go_wp2_with (go_at_call 17; refine (valid_any _ _).mono ?_; rintro e w' ⟨rfl, rfl⟩)
    have h5 := hc5.out
    refine ⟨.int .i64 (-1), ?_, rfl, hBs⟩
    simp [results, Try.f9, go_sem, h5]

theorem lnext_any (a : Option Addr) (len cap : Nat) (zs : List Int) (id key : Int) (w : World) (h : IntsAt w a zs) (hz : zs.length = len) (hm : len ≤ maxLen) :
    Calls Try.prog 9 #[.slice a len cap, .int .i64 id, .int .i64 key] w fun e w' => e = .returned (.int .i64 (lnxV zs id key)) ∧ Below w.heap.size w w' := by
  cases hv : memB zs id
  · rw [lnxV_no (.inl hv)]; exact lnext_no a len cap zs id key w h hz hm (.inl hv)
  · cases hk : ptB key
    · rw [lnxV_no (.inr hk)]; exact lnext_no a len cap zs id key w h hz hm (.inr hk)
    · rw [lnxV_yes hv hk]; exact lnext_yes a len cap zs id key w h hz hm hv hk

set_option maxRecDepth 100000 in
set_option maxHeartbeats 2000000 in
/-- the iterator: it reads three boxes below n₀; a round that goes on keeps what lies below n₀ -/
theorem path1_in (n : Nat) (hn : 1 ≤ n) (l n₀ Ba Bi Bk : Nat) (a : Option Addr) (len cap : Nat) (zs : List Int) (id key : Int) (hba : Ba < n₀) (hbi : Bi < n₀) (hbk : Bk < n₀) (hv : vldB zs = true) (hid : id ∈ zs) (hk0 : 0 ≤ key) (hk1 : key < 64) (hz : zs.length = len) (hm : len ≤ maxLen)
    (J Jx : List Int → World → Prop)
    (hY : ∀ pre x W, J pre W → pre.length < 8 → YieldAt Fence.wide (n - 1) Try.prog l #[.int .i64 x] W fun e W' =>
      (e = .returned (.bool true) ∧ J (pre ++ [x]) W' ∧ Below n₀ W W') ∨ (e = .returned (.bool false) ∧ Jx (pre ++ [x]) W'))
    (w0 W : World) (hW : Below w0.heap.size w0 W) (hn₀ : n₀ = w0.heap.size) (hI : IntsAt w0 a zs) (hJ : AbidesFrom W.heap.size J)
    (ca : w0.cell? ⟨Ba, 0, none⟩ = some (.slice a len cap)) (ci : w0.cell? ⟨Bi, 0, none⟩ = some (.int .i64 id)) (ck : w0.cell? ⟨Bk, 0, none⟩ = some (.int .i64 key)) (h0 : J [] W) :
    CallsIn Fence.wide n Try.prog 33 #[.func (.yield l) #[] #[], .pointer (some ⟨Ba, 0, none⟩), .pointer (some ⟨Bk, 0, none⟩), .pointer (some ⟨Bi, 0, none⟩)] W fun e W' => (∃ v, e = .returned v) ∧
      ((∃ ys, ys = pathL zs id key ∧ J ys W') ∨ (∃ pre, True ∧ Jx pre W')) := by
  subst hn₀
  have HI := Lib.hid hI
  have HZ := Lib.hid hz
  have HM := Lib.hid hm
  have HV := Lib.hid hv
  have HIN := Lib.hid hid
  have HJ := Lib.hid hJ
  have HY := Lib.hid hY
  have CA := Lib.hid ca
  have CI := Lib.hid ci
  have CK := Lib.hid ck
  clear hI hz hm hv hid hJ hY ca ci ck
  have x1 : W.cell? ⟨Ba, 0, none⟩ = some (.slice a len cap) := (hW.cell (p := ⟨Ba, 0, none⟩) hba).trans CA.out
  have x2 : W.cell? ⟨Bi, 0, none⟩ = some (.int .i64 id) := (hW.cell (p := ⟨Bi, 0, none⟩) hbi).trans CI.out
  have x3 : W.cell? ⟨Bk, 0, none⟩ = some (.int .i64 key) := (hW.cell (p := ⟨Bk, 0, none⟩) hbk).trans CK.out
  have HNX : Hid (nxtI zs key = nxtL zs key) := nxtI_eq HV.out ((ptB_iff _).2 ⟨hk0, hk1⟩)
  refine callsIn_of_wp Try.func33 rfl trivial ?_ rfl
  simp only [Try.ntmps33, List.size_toArray, List.length_cons, List.length_nil, Nat.reduceAdd, Nat.reduceSub, Array.replicate_succ, Array.replicate_zero, List.push_toArray, List.append_toArray, List.nil_append, List.cons_append]
  have hIW := HI.out.keepB hW (Nat.le_refl _)
  refine wpIn_wide.2 ?_
  go_wp2
  go_quiet ((go_at_call 15; exact Calls.quiet_of_same (calls_flip (nnext_any _ _ _ zs _ _ (by exact hIW) HZ.out HM.out))))
  clear x1 x2 x3
  rw [HNX.out]
  have hJ1 : J [] (W.drewN nq) := HJ.out [] W _ none h0 ⟨rfl, rfl, rfl, Nat.le_refl _, fun _ _ _ => rfl⟩ (fun r e => by cases e)
  have hW1 : Below w0.heap.size w0 (W.drewN nq) := hW.trans (Same.below ⟨nq, rfl⟩ _)
  generalize W.drewN nq = W1 at hJ1 hW1 ⊢
  go_wp2
  refine (wpIn_wide (n := n)).1 ?_
  gi_loopw [6] (fun i wr => ∃ (pre : List Int) (cur : Int), i = .int .i64 cur ∧ cur ∈ zs ∧ PathAt zs id key pre cur ∧ J pre wr ∧ Below w0.heap.size w0 wr) (fun i _ => mu zs key (intOf i))
  case atStart => exact ⟨[], id, rfl, HIN.out, pathAt_start _ _ _, hJ1, hW1⟩
  case round =>
    obtain ⟨pre, cur, rfl, hc, hp, hJs, hbel⟩ := hrel
    have HC := Lib.hid hc
    have HP := Lib.hid hp
    have hpl := pathAt_len HV.out hp HIN.out hk0 hk1
    clear hc hp
    obtain ⟨fn, tmps, assign, body, hy, hR⟩ := HY.out pre cur wr hJs (by omega)
    gi_wp2
    refine hR.mono ?_
    rintro e W3 (⟨rfl, hJ3, hk3⟩ | ⟨rfl, hJx3⟩)
    · have hb3 : Below w0.heap.size w0 W3 := hbel.trans hk3
      by_cases he : cur = nxtL zs key
      · have hb : (cur != nxtL zs key) = false := by simp [he]
        have HE := Lib.hid he
        clear he
        gi_wp2
        go_end0
        exact ⟨⟨_, rfl⟩, .inl ⟨_, (pathAt_end HP.out HE.out).symm, hJ3⟩⟩
      · have hb : (cur != nxtL zs key) = true := by simpa using he
        have HE := Lib.hid he
        clear he
        have x1 : W3.cell? ⟨Ba, 0, none⟩ = some (.slice a len cap) := (hb3.cell (p := ⟨Ba, 0, none⟩) hba).trans CA.out
        have x3 : W3.cell? ⟨Bk, 0, none⟩ = some (.int .i64 key) := (hb3.cell (p := ⟨Bk, 0, none⟩) hbk).trans CK.out
        gi_wp2_with fail
        refine ⟨trivial, ?_⟩
        refine (callsIn_wide.2 (lnext_yes a len cap zs cur key W3 (HI.out.keepB hb3 (Nat.le_refl _)) HZ.out HM.out (memB_mk HV.out HC.out) ((ptB_iff _).2 ⟨hk0, hk1⟩))).mono ?_
        rintro e W4 ⟨rfl, hb4⟩
        gi_wp2
        go_roundw
        case rel => exact ⟨pre ++ [cur], lnxL zs cur key, rfl, lnx_mem HV.out _ _, pathAt_step HV.out HP.out HC.out hk0 hk1 HE.out, HJ.out _ W3 W4 none hJ3 (grown_none hb4) (fun r e => by cases e), hb3.trans (hb4.mono hb3.size)⟩
        case measure => simp only [intOf]; exact mu_lt HV.out HC.out hk0 hk1 HE.out
    · gi_wp2
      go_end0
      exact ⟨⟨_, rfl⟩, .inr ⟨_, trivial, hJx3⟩⟩

set_option maxHeartbeats 1000000 in
theorem pathFrom_any (a : Option Addr) (len cap : Nat) (id key : Int) (w : World) :
    Calls Try.prog 19 #[.slice a len cap, .int .i64 id, .int .i64 key] w fun e w' =>
      e = .returned (.func (.func 33) #[] #[.pointer (some ⟨w.heap.size, 0, none⟩), .pointer (some ⟨w.heap.size + 1 + 1, 0, none⟩), .pointer (some ⟨w.heap.size + 1, 0, none⟩)]) ∧
      w' = ((w.alloc (.cells #[.slice a len cap] 23)).alloc (.cells #[.int .i64 id] 3)).alloc (.cells #[.int .i64 key] 3) := by
  go_enter Try.func19, Try.ntmps19
  go_wp2
  go_ret
  exact ⟨rfl, rfl⟩

/-- a row of what an iterator hands over, in blocks of the call's own; nil if nothing came -/
def Gathered (L : List Int) (w : World) (e : Ending) (w' : World) : Prop :=
  ∃ v, e = .returned v ∧ w'.ownsRow w.heap.size 3 1 v L.length (L.map (Value.int .i64)) ∧ (v = .slice none 0 0 ↔ L = []) ∧ Below w.heap.size w w'

set_option maxRecDepth 100000 in
set_option maxHeartbeats 2000000 in
theorem appseq_any (gf : Nat) (lb : Array Value) (eg : ∀ args w, (callFunc gf args).run Try.prog w = .ok (.enter gf args) w) (L : List Int) (N : Nat) (hN : N ≤ 1000) (w : World)
    (hseq : SeqStopsK Fence.wide 2 Try.prog gf lb (fun x : Int => #[Value.int .i64 x]) (Below w.heap.size) (fun ys => ys = L) (fun _ => True) N w) :
    Calls Try.prog 32 #[.slice none 0 0, .func (.func gf) #[] lb] w (Gathered L w) := by
  obtain ⟨i0, hi, hz0, hz1, hz2⟩ := info_parts Try.infoInt
  have hmx : 1000 ≤ maxLen := by unfold maxLen; omega
  refine (callsIn_wide (n := 3)).1 ?_
  refine callsIn_of_wp_marks Try.func32 rfl trivial ?_ rfl
  simp only [Try.ntmps32, List.size_toArray, List.length_cons, List.length_nil, Nat.reduceAdd, Nat.reduceSub, Array.replicate_succ, Array.replicate_zero, List.push_toArray, List.append_toArray, List.nil_append, List.cons_append]
  gi_wp2
  have bO := Boxed.new w 23 (.slice none 0 0)
  have hB0 : Below w.heap.size w (w.alloc (.cells #[.slice none 0 0] 23)) := (Below.refl _ w).alloc (Nat.le_refl _) _
  refine wpIn_rangeFunc_ownG rfl (by omega) (gf := gf) (lb := lb) rfl trivial eg
    hseq belowK_t (belowK_b (by simp)) hB0 (fun _ => rfl)
    (fun pre W => (∃ v, Boxed W w.heap.size 23 v ∧ W.ownsRow w.heap.size 3 1 v pre.length (pre.map (Value.int .i64)) ∧ (v = .slice none 0 0 ↔ pre = [])) ∧ Below w.heap.size w W)
    (fun _ _ _ => False)
    (OwnFrom.and (Own.from (holdsRow_own w.heap.size w.heap.size 23 3 1 (fun pre => pre.length) (fun pre => pre.map (Value.int .i64)) (fun pre v => v = .slice none 0 0 ↔ pre = [])) _) (ownFrom_below (Nat.le_refl _) (by simp)))
    (fun _ _ _ _ _ hs _ _ => hs)
    ⟨⟨_, bO, World.ownsRow_nil _ _ _ _, by simp⟩, hB0⟩
    ?a1 ?assign ?body ?done ?stop
  case assign =>
    intro l x W K hK
    gi_wp2
    exact hK
  case body =>
    rintro l pre x W ⟨⟨v, hv, hrow, hnil⟩, hB⟩ hlt
    have hc := hv.cell
    gi_wp2_with (gi_at_builtin; refine wpListIn_append_own _ rfl _ _ 23 rfl w.heap.size 3 i0 (.int .i64 0) 1 8 Try.underlying23 hi hz0 hz1 hz2 rfl (by decide) _ _ _ rfl (hrow.alloc _) ⟨W.heap.size, 0, none⟩ 1 1 [.int .i64 x] rfl rfl (cell_one_new _ _ _) (by simp [Value.oneCell']) (by omega) (by omega) (by have := hB.size; simp; omega) ?_; intro v' w1 hown' hgrow _; obtain ⟨g', cap', rfl⟩ := ownsRow_succ hown'; obtain ⟨hv1, hv2, hr2, hk2, hb2⟩ := hv.appended (by decide) hrow hB.size (Nat.le_refl _) hown' hgrow; have hc1 := hv1.cell; have hf1 := hv1.frozen)
    exact ⟨hk2.from _, hb2, ⟨_, hv2, by simpa using hr2, by simp⟩, hB.trans hb2⟩
  case done =>
    rintro D ys W hD rfl ⟨⟨v, hv, hrow, hnil⟩, hB⟩ hK
    have hc := hv.cell
    gi_wp2
    refine ⟨by simp, .inl ⟨_, _, rfl, run_takeDeferred hK, ?_⟩⟩
    exact ⟨_, results_tmp rfl _ _ _, v, rfl, ownsRow_putObj hrow _ hK rfl, hnil, hB.trans (belowK_b (w := w) (Nat.le_refl _) W D _ _ (by simp at hD; omega) hK rfl rfl)⟩
  case stop =>
    rintro D c pre W _ _ h _
    exact h.elim

set_option maxHeartbeats 1000000 in
theorem collect_any (gf : Nat) (lb : Array Value) (eg : ∀ args w, (callFunc gf args).run Try.prog w = .ok (.enter gf args) w) (L : List Int) (N : Nat) (hN : N ≤ 1000) (w : World)
    (hseq : SeqStopsK Fence.wide 2 Try.prog gf lb (fun x : Int => #[Value.int .i64 x]) (Below w.heap.size) (fun ys => ys = L) (fun _ => True) N w) :
    Calls Try.prog 18 #[.func (.func gf) #[] lb] w (Gathered L w) := by
  have HE := Lib.hid eg
  have HS := Lib.hid hseq
  clear eg hseq
  go_enter Try.func18, Try.ntmps18
  go_wp2_with fail
  refine (appseq_any gf lb HE.out L N hN w HS.out).mono ?_
  rintro e w1 ⟨v, rfl, h1, h2, h3⟩
  have H1 := Lib.hid h1
  have H2 := Lib.hid h2
  clear h1 h2
  go_wp2
  go_ret
  exact ⟨v, rfl, H1.out, H2.out, h3⟩

end Go.Proofs.Ytlkpgkhggknphaa
