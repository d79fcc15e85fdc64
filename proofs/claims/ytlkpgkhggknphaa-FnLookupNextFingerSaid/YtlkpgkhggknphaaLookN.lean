/- Lookups: the node that is asked next, as the program finds it: a range over slices.Backward. -/
import Derived.Test.YtlkpgkhggknphaaLookS
import Derived.Test.YtlkpgkhggknphaaLookP
import Derived.RangeFuncBox
import Derived.RangeFuncLeaves
import Derived.RangeFuncCalls
import Derived.Shelf.Abstract
import Derived.WalkKit
import Derived.OwnWalkIn
import Derived.TacticsInMore
import Derived.LoopNIn
import Derived.LoopIn
namespace Go.Proofs.Ytlkpgkhggknphaa
open Go.RowKit Go.Shelf
set_option linter.unusedVariables false

attribute [local go_sem] Oper.semAt_some

/-- what slices.Backward has handed over when m numbers are left -/
def bkTo (f : Nat → Int) (len m : Nat) : List (Int × Int) := (List.range (len - m)).map fun j => (((len - 1 - j : Nat) : Int), f (len - 1 - j))
theorem bkTo_start (f : Nat → Int) (len : Nat) : bkTo f len len = [] := by simp [bkTo]
theorem bkTo_len (f : Nat → Int) (len m : Nat) : (bkTo f len m).length = len - m := by simp [bkTo]
theorem bkTo_step (f : Nat → Int) {len m : Nat} (h : m + 1 ≤ len) : bkTo f len m = bkTo f len (m + 1) ++ [((m : Int), f m)] := by
  unfold bkTo
  rw [show len - m = (len - (m + 1)) + 1 by omega, List.range_succ, List.map_append]
  simp only [List.map_cons, List.map_nil]
  rw [show len - 1 - (len - (m + 1)) = m by omega]
theorem bkTo_mem {f : Nat → Int} {len m i : Nat} (h : m ≤ i) (hi : i < len) : ((i : Int), f i) ∈ bkTo f len m :=
  List.mem_map.2 ⟨len - 1 - i, List.mem_range.2 (by omega), by rw [show len - 1 - (len - 1 - i) = i by omega]⟩

set_option maxRecDepth 100000 in
set_option maxHeartbeats 2000000 in
theorem back1_in (n : Nat) (hn : 1 ≤ n) (l Bs n₀ b off len cap : Nat) (f : Nat → Int) (hl : len ≤ 1000) (hb : b < n₀) (hs : Bs < n₀) (J Jx : List (Int × Int) → World → Prop)
    (hY : ∀ pre x W, J pre W → pre.length < len → YieldAt Fence.wide (n - 1) Try.prog l #[.int .i64 x.1, .int .i64 x.2] W fun e W' =>
      (e = .returned (.bool true) ∧ J (pre ++ [x]) W' ∧ Below n₀ W W') ∨ (e = .returned (.bool false) ∧ Jx (pre ++ [x]) W'))
    (W : World) (hBs : W.cell? ⟨Bs, 0, none⟩ = some (.slice (some ⟨b, off, none⟩) len cap)) (hc : ∀ j, j < len → W.cell? ⟨b, off + j, none⟩ = some (.int .i64 (f j))) (h0 : J [] W) :
    CallsIn Fence.wide n Try.prog 41 #[.func (.yield l) #[] #[], .pointer (some ⟨Bs, 0, none⟩)] W fun e W' => (∃ v, e = .returned v) ∧
      ((∃ ys, ys = bkTo f len 0 ∧ J ys W') ∨ (∃ pre, (∃ m, m < len ∧ pre = bkTo f len m) ∧ Jx pre W')) := by
  refine callsIn_of_wp Try.func41 rfl trivial ?_ rfl
  simp only [Try.ntmps41, List.size_toArray, List.length_cons, List.length_nil, Nat.reduceAdd, Nat.reduceSub, Array.replicate_succ, Array.replicate_zero, List.push_toArray, List.append_toArray, List.nil_append, List.cons_append]
  gi_wp2
  gi_loopw [3] (fun i wr => ∃ (m : Nat) (v : Int), m ≤ len ∧ i = .int .i64 v ∧ v = (m : Int) - 1 ∧ J (bkTo f len m) wr ∧ Below n₀ W wr)
    (fun i _ => ((intOf i) + 1).toNat)
  case atStart => exact ⟨len, _, Nat.le_refl _, rfl, rfl, by rw [bkTo_start]; exact h0, Below.refl _ _⟩
  case round =>
    obtain ⟨m, v, hm, rfl, hv, hJs, hnx⟩ := hrel
    have hBs' : wr.cell? ⟨Bs, 0, none⟩ = some (.slice (some ⟨b, off, none⟩) len cap) := (hnx.cell (p := ⟨Bs, 0, none⟩) hs).trans hBs
    cases m with
    | zero =>
      have hneg : v < 0 := by omega
      clear hv
      gi_wp2
      go_end0
      exact ⟨⟨_, rfl⟩, .inl ⟨_, rfl, hJs⟩⟩
    | succ m =>
      obtain rfl : v = (m : Int) := by omega
      have hcx : wr.cell? ⟨b, off + m, none⟩ = some (.int .i64 (f m)) := (hnx.cell (p := ⟨b, off + m, none⟩) hb).trans (hc m (by omega))
      obtain ⟨fn, tmps, assign, body, hy, hR⟩ := hY _ ((m : Int), f m) wr hJs (by rw [bkTo_len]; omega)
      dsimp only at hy
      clear hv
      have hlt : (m : Int) < (len : Int) := by omega
      gi_wp2
      refine hR.mono ?_
      rintro e W3 (⟨rfl, hJ3, hk3⟩ | ⟨rfl, hJx3⟩)
      · gi_wp2
        go_roundw
        case rel => exact ⟨m, _, by omega, rfl, by omega, by rw [bkTo_step f hm]; exact hJ3, hnx.trans hk3⟩
        case measure => simp [intOf]
      · gi_wp2
        refine bodyPost_ret (results_none rfl _ _ _) rfl ?_
        exact ⟨⟨_, rfl⟩, .inr ⟨_, ⟨m, by omega, (bkTo_step f hm).symm⟩, hJx3⟩⟩

set_option maxHeartbeats 1000000 in
theorem back_any (a : Option Addr) (len cap : Nat) (w : World) :
    Calls Try.prog 25 #[.slice a len cap] w fun e w' => e = .returned (.func (.func 41) #[] #[.pointer (some ⟨w.heap.size, 0, none⟩)]) ∧ w' = w.alloc (.cells #[.slice a len cap] 23) := by
  go_enter Try.func25, Try.ntmps25
  go_wp2
  go_ret
  exact ⟨rfl, rfl⟩

theorem back_stops (n : Nat) (hn : 1 ≤ n) (Bs n₀ b off len cap : Nat) (f : Nat → Int) (hl : len ≤ 1000) (hb : b < n₀) (hs : Bs < n₀) (w : World) (hn₀ : n₀ ≤ w.heap.size)
    (hBs : w.cell? ⟨Bs, 0, none⟩ = some (.slice (some ⟨b, off, none⟩) len cap)) (hc : ∀ j, j < len → w.cell? ⟨b, off + j, none⟩ = some (.int .i64 (f j))) :
    SeqStopsK Fence.wide n Try.prog 41 #[.pointer (some ⟨Bs, 0, none⟩)] (fun x : Int × Int => #[Value.int .i64 x.1, Value.int .i64 x.2]) (Below n₀) (fun ys => ys = bkTo f len 0) (fun pre => ∃ m, m < len ∧ pre = bkTo f len m) len w := fun l J Jx W hW _ _ hY h0 =>
  back1_in n hn l Bs n₀ b off len cap f hl hb hs J Jx hY W ((hW.cell (p := ⟨Bs, 0, none⟩) (by show Bs < _; omega)).trans hBs) (fun j hj => (hW.cell (p := ⟨b, off + j, none⟩) (by show b < _; omega)).trans (hc j hj)) h0

theorem scan_of {zs : List Int} {id key : Int} : ∀ (d m : Nat), m + d = 5 → (∀ i, m < i → i ≤ 5 → btwI id (fgAt zs id i) key = false) → ScanTo zs id key m := by
  intro d
  induction d with
  | zero => intro m hm h; obtain rfl : m = 5 := by omega
            exact scanTo_five _ _ _
  | succ d ih => intro m hm h; exact scanTo_down (ih (m + 1) (by omega) (fun i hi hi' => h i (by omega) hi')) (h (m + 1) (by omega) (by omega))

/-- the world behind the first statement: boxes of the node, the key and the result -/
theorem boxes3 (w : World) (x y z : Value) : Below w.heap.size w (((w.alloc (.cells #[x] 3)).alloc (.cells #[y] 3)).alloc (.cells #[z] 3)) ∧
    Boxed (((w.alloc (.cells #[x] 3)).alloc (.cells #[y] 3)).alloc (.cells #[z] 3)) w.heap.size 3 x ∧
    Boxed (((w.alloc (.cells #[x] 3)).alloc (.cells #[y] 3)).alloc (.cells #[z] 3)) (w.heap.size + 1) 3 y ∧
    Boxed (((w.alloc (.cells #[x] 3)).alloc (.cells #[y] 3)).alloc (.cells #[z] 3)) (w.heap.size + 1 + 1) 3 z ∧
    (((w.alloc (.cells #[x] 3)).alloc (.cells #[y] 3)).alloc (.cells #[z] 3)).heap.size = w.heap.size + 3 := by
  have h2 := Boxed.new (w.alloc (.cells #[x] 3)) 3 y
  have h3 := Boxed.new ((w.alloc (.cells #[x] 3)).alloc (.cells #[y] 3)) 3 z
  rw [World.size_alloc] at h2
  rw [World.size_alloc, World.size_alloc] at h3
  exact ⟨(((Below.refl _ w).alloc (Nat.le_refl _) _).alloc (by simp) _).alloc (by simp; omega) _, ((Boxed.new w 3 x).alloc _).alloc _, h2.alloc _, h3, by simp⟩
theorem boxed_below {w w' : World} {B : Nat} {t : TypeId} {v : Value} (h : Boxed w B t v) (hb : Below w.heap.size w w') : Boxed w' B t v := (hb.block B h.lt).trans h

set_option maxRecDepth 100000 in
set_option maxHeartbeats 2000000 in
theorem lnext_yes (a : Option Addr) (len cap : Nat) (zs : List Int) (id key : Int) (w : World) (h : IntsAt w a zs) (hz : zs.length = len) (hm : len ≤ maxLen) (hv : memB zs id = true) (hk : ptB key = true) :
    Calls Try.prog 9 #[.slice a len cap, .int .i64 id, .int .i64 key] w fun e w' => e = .returned (.int .i64 (lnxL zs id key)) ∧ Below w.heap.size w w' := by
  have HI := Lib.hid h
  have HZ := Lib.hid hz
  have HM := Lib.hid hm
  clear h hz hm
  have hvl := (memB_yes hv).1
  have pid := vld_pt hvl (memB_yes hv).2
  have HPI : Hid (ptB id = true) := (ptB_iff _).2 pid
  have HPF := Lib.hid (fun i => (ptB_iff _).2 (vld_pt hvl (fg_mem hvl id i)))
  have HFV := Lib.hid (fgV_yes hv)
  have HK := Lib.hid hk
  clear hvl pid
  refine (callsIn_wide (n := 3)).1 ?_
  refine callsIn_of_wp_marks Try.func9 rfl trivial ?_ rfl
  simp only [Try.ntmps9, List.size_toArray, List.length_cons, List.length_nil, Nat.reduceAdd, Nat.reduceSub, Array.replicate_succ, Array.replicate_zero, List.push_toArray, List.append_toArray, List.nil_append, List.cons_append]
  refine wpIn_wide.2 ?_
  go_wp2_with fail
  obtain ⟨hB0, b1, b2, b3, hs0⟩ := boxes3 w (.int .i64 id) (.int .i64 key) (.int .i64 0)
  generalize (((w.alloc (.cells #[.int .i64 id] 3)).alloc (.cells #[.int .i64 key] 3)).alloc (.cells #[.int .i64 0] 3)) = W0 at hB0 b1 b2 b3 hs0 ⊢
  have HS0 := Lib.hid hs0
  clear hs0
  have c1 := b1.cell
  have c2 := b2.cell
  refine (member_any a len cap zs id W0 (HI.out.keepB hB0 (Nat.le_refl _)) HZ.out HM.out).mono ?_
  rintro e w' ⟨rfl, rfl⟩
  go_wp2_with (first | (go_at_call 17; refine (valid_any _ _).mono ?_; rintro e w' ⟨rfl, rfl⟩) | fail)
  clear c1 c2
  refine (fingers_any a len cap zs id W0 (HI.out.keepB hB0 (Nat.le_refl _)) HZ.out HM.out).mono ?_
  rintro e w1 hn
  rw [HFV.out] at hn
  obtain ⟨g, gc, rfl, ho, hb1⟩ := hn
  have hlen := fgTo_len zs id 6
  have hcap := ho.cap_le
  rw [hlen] at hcap
  unfold maxLen at hcap
  obtain ⟨hcap1, hcap2⟩ := hcap
  obtain ⟨g', ha, hg1, hg2, hc, _⟩ := ho.at_ (by rw [hlen]; omega)
  injection ha with ha
  injection ha with ha
  subst ha
  have HC : Hid (∀ i, i < 6 → w1.cell? ⟨g, i, none⟩ = some (.int .i64 (fgAt zs id i))) := by
    show ∀ i, i < 6 → w1.cell? ⟨g, i, none⟩ = some (.int .i64 (fgAt zs id i))
    intro i hi
    rw [hc i (by rw [hlen]; exact hi), gt_fgTo hi]
  rw [hlen]
  clear hc ho hlen
  have B1 := boxed_below b1 hb1
  have B2 := boxed_below b2 hb1
  have B3 := boxed_below b3 hb1
  clear b1 b2 b3
  have hBw : Below w.heap.size w w1 := hB0.trans (hb1.mono hB0.size)
  have c0 := HC.out 0 (by omega)
  have c1 := B1.cell
  have c2 := B2.cell
  have c3 := B3.cell
  have f3 := B3.frozen
  have HHB : Hid (hldB id (fgAt zs id 0) key = hldI id (fgAt zs id 0) key) := by
    show hldB id (fgAt zs id 0) key = hldI id (fgAt zs id 0) key
    simp only [hldB, HPI.out, HPF.out 0, HK.out, Bool.true_and]
  have HBT : Hid (∀ i, btwB id (fgAt zs id i) key = btwI id (fgAt zs id i) key) := by
    show ∀ i, btwB id (fgAt zs id i) key = btwI id (fgAt zs id i) key
    intro i
    simp only [btwB, HPI.out, HPF.out i, HK.out, Bool.true_and]
  rcases hb0 : hldI id (fgAt zs id 0) key with _ | _
  · have HB := Lib.hid hb0
    rw [← HHB.out] at hb0
    go_wp2
    go_quiet ((go_at_call 24; exact Calls.quiet_of_same (calls_flip (chld_any _ _ _ _))))
    rw [hb0]
    clear hb0
    go_wp2_with fail
    have hsm : Same w1 (w1.drewN nq) := ⟨nq, rfl⟩
    generalize w1.drewN nq = w2 at hsm ⊢
    have hB12 := hsm.below w1.heap.size
    replace B1 := boxed_below B1 hB12
    replace B2 := boxed_below B2 hB12
    replace B3 := boxed_below B3 hB12
    have HS2 := Lib.hid (congrArg Array.size hsm.heap)
    have HC2 : Hid (∀ i, i < 6 → w2.cell? ⟨g, i, none⟩ = some (.int .i64 (fgAt zs id i))) := by
      show ∀ i, i < 6 → w2.cell? ⟨g, i, none⟩ = some (.int .i64 (fgAt zs id i))
      intro i hi
      rw [hsm.cell]; exact HC.out i hi
    have hBw2 : Below w.heap.size w w2 := hBw.trans (hsm.below _)
    have hg3 : g < w2.heap.size := by have := HS2.out; omega
    have HS0L : Hid (w.heap.size + 3 ≤ g) := by show w.heap.size + 3 ≤ g; have := HS0.out; omega
    clear c0 c1 c2 c3 f3 hBw hb1 hB0 hsm hB12 HC hg1 hg2
    refine (back_any _ _ _ _).mono ?_
    rintro e w3 ⟨rfl, rfl⟩
    go_wp2
    have bN := Boxed.new w2 23 (.slice (some ⟨g, 1, none⟩) 5 (gc - 1))
    replace B1 := B1.alloc (.cells #[.slice (some ⟨g, 1, none⟩) 5 (gc - 1)] 23)
    replace B2 := B2.alloc (.cells #[.slice (some ⟨g, 1, none⟩) 5 (gc - 1)] 23)
    replace B3 := B3.alloc (.cells #[.slice (some ⟨g, 1, none⟩) 5 (gc - 1)] 23)
    have hB3 : Below w.heap.size w (w2.alloc (.cells #[.slice (some ⟨g, 1, none⟩) 5 (gc - 1)] 23)) := hBw2.alloc hBw2.size _
    have HC3 : Hid (∀ i, i < 6 → (w2.alloc (.cells #[.slice (some ⟨g, 1, none⟩) 5 (gc - 1)] 23)).cell? ⟨g, i, none⟩ = some (.int .i64 (fgAt zs id i))) := by
      show ∀ i, i < 6 → (w2.alloc (.cells #[.slice (some ⟨g, 1, none⟩) 5 (gc - 1)] 23)).cell? ⟨g, i, none⟩ = some (.int .i64 (fgAt zs id i))
      intro i hi
      exact (((Below.refl w2.heap.size w2).alloc (Nat.le_refl _) _).cell (p := ⟨g, i, none⟩) hg3).trans (HC2.out i hi)
    have hs3 : (w2.alloc (.cells #[.slice (some ⟨g, 1, none⟩) 5 (gc - 1)] 23)).heap.size = w2.heap.size + 1 := by simp
    generalize w2.alloc (.cells #[.slice (some ⟨g, 1, none⟩) 5 (gc - 1)] 23) = W3 at bN B1 B2 B3 hB3 HC3 hs3 ⊢
    have HS3 := Lib.hid hs3
    have hw3 : w.heap.size ≤ W3.heap.size := hB3.size
    clear hs3 HC2
    refine (wpIn_wide (n := 3)).1 ?_
    refine wpIn_rangeFunc_ownG rfl (by omega) (gf := 41) (lb := #[.pointer (some ⟨w2.heap.size, 0, none⟩)]) rfl trivial (enters_of Try.func41 (by kernel_rfl) rfl)
      (back_stops 2 (by omega) w2.heap.size W3.heap.size g 1 5 (gc - 1) (fun j => fgAt zs id (j + 1)) (by omega) (by have := HS3.out; omega) (by have := HS3.out; omega) W3 (Nat.le_refl _) bN.cell (fun j hj => by rw [Nat.add_comm 1 j]; exact HC3.out (j + 1) (by omega))) belowK_t (belowK_b (Nat.le_refl _)) (Below.refl _ _) (fun _ => rfl)
      (fun pre W => ((∀ p ∈ pre, btwB id p.2 key = false) ∧ W.cell? ⟨w.heap.size, 0, none⟩ = some (.int .i64 id) ∧ W.cell? ⟨w.heap.size + 1, 0, none⟩ = some (.int .i64 key) ∧ W.cell? ⟨w.heap.size + 1 + 1, 0, none⟩ = some (.int .i64 0) ∧ W.frozen? ⟨w.heap.size + 1 + 1, 0, none⟩ = false ∧ W.cell? ⟨g, 0, none⟩ = some (.int .i64 (fgAt zs id 0))) ∧ Below w.heap.size w W)
      (fun c pre W => (c = .ret ∧ ∃ ini last, pre = ini ++ [last] ∧ (∀ p ∈ ini, btwB id p.2 key = false) ∧ btwB id last.2 key = true ∧ W.cell? ⟨w.heap.size + 1 + 1, 0, none⟩ = some (.int .i64 last.2)) ∧ Below w.heap.size w W)
      (OwnFrom.and (Own.from (fun s A B row hs hg hr => ⟨hs.1, cell_kept hs.2.1 hg hr, cell_kept hs.2.2.1 hg hr, cell_kept hs.2.2.2.1 hg hr, (frozen_kept hs.2.2.2.1 hg hr).trans hs.2.2.2.2.1, cell_kept hs.2.2.2.2.2 hg hr⟩) _) (ownFrom_below (Nat.le_refl _) hw3))
      (fun c => OwnFrom.and (Own.from (fun s A B row hs hg hr => by obtain ⟨hc, ini, last, e1, e2, e3, e4⟩ := hs; exact ⟨hc, ini, last, e1, e2, e3, cell_kept e4 hg hr⟩) _) (ownFrom_below (Nat.le_refl _) hw3))
      ⟨⟨by simp, B1.cell, B2.cell, B3.cell, B3.frozen, HC3.out 0 (by omega)⟩, hB3⟩
      ?a1 ?assign ?body ?done ?stop
    case assign =>
      intro l x W K hK
      gi_wp2
      exact hK
    case body =>
      rintro l pre x W ⟨⟨hp, k1, k2, k3, kf, k0⟩, hB⟩ _
      have HP := Lib.hid hp
      clear hp
      rcases hbx : btwB id x.2 key with _ | _
      · gi_wp2_with fail
        refine ⟨trivial, ?_⟩
        refine (CallsIn.inRound l (callsIn_wide.2 (cbtw_any _ _ _ _))).mono ?_
        rintro e w' ⟨rfl, rfl⟩
        rw [hbx]
        gi_wp2
        exact ⟨KeepsFrom.refl _ _, Below.refl _ _, ⟨fun p hp' => (List.mem_append.1 hp').elim (HP.out p) (fun e => by simp at e; subst e; exact hbx), k1, k2, k3, kf, k0⟩, hB⟩
      · gi_wp2_with fail
        refine ⟨trivial, ?_⟩
        refine (CallsIn.inRound l (callsIn_wide.2 (cbtw_any _ _ _ _))).mono ?_
        rintro e w' ⟨rfl, rfl⟩
        rw [hbx]
        gi_wp2
        exact ⟨(KeepsOthers.setCell _ _ _).from _, ⟨rfl, pre, x, rfl, HP.out, hbx, World.cell?_setCell_same' _ _ _ (by rw [k3]; rfl)⟩, hB.setCell (p := ⟨w.heap.size + 1 + 1, 0, none⟩) (by show w.heap.size ≤ w.heap.size + 1 + 1; omega) _⟩
    case done =>
      rintro D ys W hD rfl ⟨⟨hne, k1, k2, k3, kf, k0⟩, hB⟩ hK
      have HNE := Lib.hid hne
      clear hne
      go_wp2
      have hK' := (KeepsOthers.setCell W ⟨w.heap.size + 1 + 1, 0, none⟩ (.int .i64 (fgAt zs id 0))).same D _ hK rfl
      refine ⟨by simp, .inl ⟨_, _, rfl, run_takeDeferred hK', ?_⟩⟩
      have hc5 := cell_kept (World.cell?_setCell_same' W ⟨w.heap.size + 1 + 1, 0, none⟩ (.int .i64 (fgAt zs id 0)) (by rw [k3]; rfl)) (grownBy_putObj' _ D (.deferred none)) (fun r e => by cases e; exact ⟨_, hK', rfl⟩)
      refine ⟨.int .i64 (fgAt zs id 0), ?_, ?_, (hB.setCell (p := ⟨w.heap.size + 1 + 1, 0, none⟩) (by show w.heap.size ≤ w.heap.size + 1 + 1; omega) _).trans (belowK_b (w := w) (Nat.le_refl _) _ D _ _ (by omega) hK' rfl rfl)⟩
      · simp [results, Try.f9, go_sem, hc5]
      · rw [lnx_scan HB.out, scanTo_none (scan_of 5 0 rfl (fun i hi hi' => ?_))]
        have h1 := HNE.out _ (bkTo_mem (f := fun j => fgAt zs id (j + 1)) (len := 5) (m := 0) (i := i - 1) (by omega) (by omega))
        dsimp only at h1
        rw [show i - 1 + 1 = i by omega, HBT.out] at h1
        exact h1
    case stop =>
      rintro D c pre W hD ⟨m, hm, rfl⟩ ⟨⟨rfl, ini, last, e1, e2, e3, hcr⟩, hB⟩ hK
      refine wpIn_wide.2 ?_
      have HE1 := Lib.hid e1
      have HE2 := Lib.hid e2
      have HE3 := Lib.hid e3
      clear e1 e2 e3
      go_wp2
      refine ⟨by simp, .inl ⟨_, _, rfl, run_takeDeferred hK, ?_⟩⟩
      have hc5 := cell_kept hcr (grownBy_putObj' _ D (.deferred none)) (fun r e => by cases e; exact ⟨_, hK, rfl⟩)
      have e1 := HE1.out
      have e2 := HE2.out
      have e3 := HE3.out
      rw [bkTo_step _ (show m + 1 ≤ 5 by omega)] at e1
      obtain ⟨rfl, e5⟩ := List.append_inj' e1 rfl
      obtain rfl : ((m : Int), fgAt zs id (m + 1)) = last := by simpa using e5
      refine ⟨.int .i64 (fgAt zs id (m + 1)), ?_, ?_, hB.trans (belowK_b (w := w) (Nat.le_refl _) W D _ _ (by omega) hK rfl rfl)⟩
      · simp [results, Try.f9, go_sem, hc5]
      · have e3' : btwI id (fgAt zs id (m + 1)) key = true := by rw [← HBT.out]; exact e3
        rw [lnx_scan HB.out, scanTo_hit (k := m) (scan_of (4 - m) (m + 1) (by omega) (fun i hi hi' => ?_)) e3']
        have h1 := e2 _ (bkTo_mem (f := fun j => fgAt zs id (j + 1)) (len := 5) (m := m + 1) (i := i - 1) (by omega) (by omega))
        dsimp only at h1
        rw [show i - 1 + 1 = i by omega, HBT.out] at h1
        exact h1
  · have HB := Lib.hid hb0
    rw [← HHB.out] at hb0
    go_wp2
    go_quiet ((go_at_call 24; exact Calls.quiet_of_same (calls_flip (chld_any _ _ _ _))))
    rw [hb0]
    clear hb0
    go_wp2
    have hsm : Same w1 (w1.drewN nq) := ⟨nq, rfl⟩
    generalize w1.drewN nq = w2 at hsm ⊢
    replace B3 := boxed_below B3 (hsm.below w1.heap.size)
    have hc5 := (B3.set (.int .i64 (fgAt zs id 0))).cell
    refine ⟨.int .i64 (fgAt zs id 0), ?_, by rw [lnx_first HB.out], ((hBw.trans (hsm.below _)).setCell (p := ⟨w.heap.size + 1 + 1, 0, none⟩) (by show w.heap.size ≤ w.heap.size + 1 + 1; omega) _)⟩
    simp [results, Try.f9, go_sem, hc5]

end Go.Proofs.Ytlkpgkhggknphaa
