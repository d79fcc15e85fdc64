/- Trees of sums: drawing a tree, a leaf and a value; drawing two trees. -/
import Derived.Test.YtkpfpnmokknbaaaSmDraw
namespace Go.Proofs.Ytkpfpnmokknbaaa
open Go.RowKit
set_option linter.unusedVariables false

attribute [local go_sem ↓] Go.wp_at_zero Go.wp_at_succ

theorem grown_thenB {q : Nat} {w w1 w2 : World} (h : w.grownBy w1 (some q)) (hb : Below w1.heap.size w1 w2) : w.grownBy w2 (some q) :=
  ⟨hb.os.trans h.os, hb.tape.trans h.tape, hb.output.trans h.output, Nat.le_trans h.size hb.size, fun i hi hne => (hb.block i (by have := h.size; omega)).trans (h.block i hi hne)⟩
theorem ready_thenB {q k : Nat} {w w' : World} (h : Ready w q k) (hb : Below w.heap.size w w') : Ready w' q k := h.below hb h.lt
theorem sumsL_or (zs : List Int) : sumsL zs = [] ∨ (sumsL zs).length = 31 := by
  unfold sumsL
  by_cases h : leavesB zs = true
  · rw [if_pos h, bld_len]; exact .inr rfl
  · rw [if_neg h]; exact .inl rfl
theorem sumsSetL_or (zs : List Int) (leaf v : Int) : sumsSetL zs leaf v = [] ∨ (sumsSetL zs leaf v).length = 31 := by
  unfold sumsSetL
  by_cases h : (treeB zs && leafB leaf && sB v) = true
  · rw [if_pos h, setL, bld_len]; exact .inr rfl
  · rw [if_neg h]; exact .inl rfl

/-- a tree that was drawn, perhaps spoilt or empty -/
def DrewTree (q K : Nat) (w : World) (e : Ending) (w' : World) : Prop :=
  ∃ (g cap : Nat) (zs : List Int), e = .returned (.slice (some ⟨g, 0, none⟩) zs.length cap) ∧ IntsFrom w' w.heap.size (some ⟨g, 0, none⟩) zs ∧ zs.length ≤ 31 ∧ zs.length ≤ cap ∧ Ready w' q K ∧ w.grownBy w' (some q)

set_option maxHeartbeats 2000000 in
theorem stree_draw (q K : Nat) (w : World) (h : Ready w q (K + 22)) :
    Calls Try.prog 38 #[.pointer (some ⟨q, 0, none⟩)] w (DrewTree q K w) := by
  have hq := h.lt
  have HR := Lib.hid h
  clear h
  go_enter Try.func38, Try.ntmps38
  go_wp2_with fail
  refine (svals_any q (K + 3) w HR.out).mono ?_
  rintro e w1 ⟨a, cap, vs, rfl, hi, hl, hlc, hr1, hg1⟩
  have hs1 := hg1.size
  go_wp2_with fail
  refine (ssumsof_any a vs.length cap vs w1 hi.ints rfl (by unfold maxLen; omega)).mono ?_
  rintro e w2 ⟨g, c, rfl, ho, hb2⟩
  have HG2 := Lib.hid (grown_thenB hg1 hb2)
  have HR2 := Lib.hid (ready_thenB hr1 hb2)
  have hs2 := hb2.size
  have hgl := ho.lt
  have hor := sumsL_or vs
  obtain ⟨L, hL⟩ : ∃ L, L = sumsL vs := ⟨_, rfl⟩
  rw [← hL] at ho hor ⊢
  have HO := Lib.hid ho
  clear ho hi hg1 hr1 hb2 hL
  rcases hor with h0 | h31
  · subst h0
    go_wp2
    go_ret
    exact ⟨g, c, [], rfl, .inl rfl, by simp, by simp, HR2.out.less (by omega), HG2.out⟩
  · have HL := Lib.hid h31
    rw [h31]
    clear h31
    go_wp2_with fail
    refine (pick_r q (K + 2) 16 w2 HR2.out (by omega) (by omega)).mono ?_
    rintro e w3 ⟨v, hv0, hv1, rfl, hr3, hk3⟩
    have hcap := HO.out.cap_le
    rw [HL.out] at hcap
    unfold maxLen at hcap
    have HO3 : Hid (OwnI w3 w1.heap.size (some ⟨g, 0, none⟩) c L) := HO.out.kept (fun g hg hg' => hk3.block g (by omega))
    have HG3 := Lib.hid (grown_trans HG2.out hk3.grown)
    by_cases hv : v = 0
    · subst hv
      go_wp2_with fail
      refine (pick_r q (K + 1) 31 w3 hr3 (by omega) (by omega)).mono ?_
      rintro e w4 ⟨u, hu0, hu1, rfl, hr4, hk4⟩
      obtain ⟨j, rfl⟩ := Int.eq_ofNat_of_zero_le hu0
      have HO4 : Hid (OwnI w4 w1.heap.size (some ⟨g, 0, none⟩) c L) := HO3.out.kept (fun g hg hg' => hk4.block g (by omega))
      have HG4 := Lib.hid (grown_trans HG3.out hk4.grown)
      go_wp2_with fail
      refine (pick_r q K 250 w4 hr4 (by omega) (by omega)).mono ?_
      rintro e w5 ⟨x, hx0, hx1, rfl, hr5, hk5⟩
      have HO5 : Hid (OwnI w5 w1.heap.size (some ⟨g, 0, none⟩) c L) := HO4.out.kept (fun g hg hg' => hk5.block g (by omega))
      have HG5 := Lib.hid (grown_trans HG4.out hk5.grown)
      have hj31 : j < 31 := by omega
      have hj31' : (j : Int) < 31 := by omega
      obtain ⟨hcj, hfj⟩ := own_open HO5.out (i := j) (by rw [HL.out]; exact hj31)
      go_wp2
      go_ret
      refine ⟨g, c, L.set j x, by rw [List.length_set, HL.out]; rfl, ((HO5.out.set (by rw [HL.out]; exact hj31) x).less hs1).froms, by rw [List.length_set, HL.out]; omega, by rw [List.length_set, HL.out]; omega, ?_, ?_⟩
      · exact hr5.keep (fun i hi => Below.heap_setCell _ _ _ _ (by show i ≠ g; omega))
      · exact ⟨HG5.out.os, HG5.out.tape, HG5.out.output, by simpa [World.setCell] using HG5.out.size, fun i hi hne => (Below.heap_setCell _ _ _ _ (by show i ≠ g; omega)).trans (HG5.out.block i hi hne)⟩
    · have hvB : (v == 0) = false := by simp [hv]
      go_wp2
      go_ret
      exact ⟨g, c, L, by rw [HL.out]; rfl, (HO3.out.less hs1).froms, by rw [HL.out]; omega, by rw [HL.out]; omega, hr3.less (by omega), HG3.out⟩

theorem six_cells (w : World) (x y z a b c : Int) {t : Nat} (ht : t < 6) : ∃ u : Int, (w.alloc (.cells #[.int .i64 x, .int .i64 y, .int .i64 z, .int .i64 a, .int .i64 b, .int .i64 c] 3)).cell? ⟨w.heap.size, t, none⟩ = some (.int .i64 u) := by
  rw [cell_of_cells (heap_alloc_new w _)]
  rcases t with _ | _ | _ | _ | _ | _ | t
  · exact ⟨x, rfl⟩
  · exact ⟨y, rfl⟩
  · exact ⟨z, rfl⟩
  · exact ⟨a, rfl⟩
  · exact ⟨b, rfl⟩
  · exact ⟨c, rfl⟩
  · omega
theorem six_kept {w wd : World} {q : Nat} (x y z a b c : Int) {t : Nat} (ht : t < 6) (hk : Kept q (w.alloc (.cells #[.int .i64 x, .int .i64 y, .int .i64 z, .int .i64 a, .int .i64 b, .int .i64 c] 3)) wd) (hq : q < w.heap.size) : ∃ u : Int, wd.cell? ⟨w.heap.size, t, none⟩ = some (.int .i64 u) := by
  obtain ⟨u, hu⟩ := six_cells w x y z a b c ht
  exact ⟨u, (hk.cell (p := ⟨w.heap.size, t, none⟩) (by show w.heap.size ≠ q; omega)).trans hu⟩

/-- a drawn tree, a drawn leaf and a drawn value -/
def DrewSet (w : World) (e : Ending) (w' : World) : Prop :=
  ∃ (g cap : Nat) (zs : List Int) (leaf v : Int), e = .returned (.tuple #[.slice (some ⟨g, 0, none⟩) zs.length cap, .int .i64 leaf, .int .i64 v]) ∧ IntsFrom w' w.heap.size (some ⟨g, 0, none⟩) zs ∧ zs.length ≤ 31 ∧ zs.length ≤ cap ∧ Below w.heap.size w w'

theorem drewset_fin {q g cap : Nat} {w w0 w1 w2 : World} {zs : List Int} {leaf v : Int} (hb0 : Below w.heap.size w w0) (hq : q = w.heap.size) (hz0 : w.heap.size ≤ w0.heap.size) (hg : w0.grownBy w1 (some q)) (hi : IntsFrom w1 w0.heap.size (some ⟨g, 0, none⟩) zs) (hl : zs.length ≤ 31) (hlc : zs.length ≤ cap)
    (hk : ∀ i, i < w1.heap.size → i ≠ q → w2.heap[i]? = w1.heap[i]?) (hos : w2.os = w1.os) (htp : w2.tape = w1.tape) (hou : w2.output = w1.output) (hsz : w1.heap.size ≤ w2.heap.size) (hq0 : q < w0.heap.size) :
    DrewSet w (.returned (.tuple #[.slice (some ⟨g, 0, none⟩) zs.length cap, .int .i64 leaf, .int .i64 v])) w2 := by
  subst hq
  refine ⟨g, cap, zs, leaf, v, rfl, (hi.keep hsz (fun k h1 h2 => hk k h2 (by omega))).down hz0, hl, hlc, ?_⟩
  have hB1 : Below w.heap.size w w1 := below_of_grown hb0 (Nat.le_refl _) hz0 hg
  exact ⟨hos.trans hB1.os, htp.trans hB1.tape, hou.trans hB1.output, Nat.le_trans hB1.size hsz, fun k hk' => (hk k (by have := hB1.size; omega) (by omega)).trans (hB1.block k hk')⟩

set_option maxHeartbeats 4000000 in
theorem drawSumsSet (s : Option Addr) (len cap : Nat) (w : World) (h : BytesAt w s len cap) :
    Calls Try.prog 20 #[.slice s len cap] w (DrewSet w) := by
  go_enter Try.func20, Try.ntmps20
  go_wp2_with fail
  refine (open_any s len cap w h).mono ?_
  rintro e w0 ⟨rfl, hr0, hb0, hz0⟩
  have HZ := Lib.hid hz0
  have HB0 := Lib.hid hb0
  have HQ0 := Lib.hid hr0.lt
  clear hz0 hb0
  go_wp2_with fail
  refine (stree_draw w.heap.size 8 w0 (hr0.less (by omega))).mono ?_
  rintro e w1 ⟨g, c, zs, rfl, hi, hl, hlc, hr1, hg1⟩
  have HI := Lib.hid hi
  have HG1 := Lib.hid hg1
  have HLc := Lib.hid hlc
  have HL := Lib.hid hl
  clear hi hg1 hlc hl hr0
  go_wp2_with fail
  refine (pick_r w.heap.size 7 16 w1 hr1 (by omega) (by omega)).mono ?_
  rintro e w2 ⟨p1, hp10, hp11, rfl, hr2, hk2⟩
  go_wp2_with fail
  refine (pick_r w.heap.size 6 20 w2 hr2 (by omega) (by omega)).mono ?_
  rintro e w3 ⟨p2, hp20, hp21, rfl, hr3, hk3⟩
  go_wp2_with fail
  refine (pick_r w.heap.size 5 3 w3 hr3 (by omega) (by omega)).mono ?_
  rintro e w4 ⟨p3, hp30, hp31, rfl, hr4, hk4⟩
  have HK4 := Lib.hid ((hk2.trans hk3).trans hk4)
  have HR4 := Lib.hid hr4
  clear hk2 hk3 hk4 hr1 hr2 hr3 hr4
  go_wp2
  have hmix : Try.prog.follows .mixedOrders = true := by kernel_rfl
  generalize wrap64 (p1 + wrap64 (wrap64 (p2 / 19 * (p3 - 1)) * 16)) = lf
  have hs1 := HG1.out.size
  have hs4 := HK4.out.size
  have hq0 := HQ0.out
  have HS4 := Lib.hid hs4
  have hq4 : w.heap.size < w4.heap.size := by omega
  have HQ4 := Lib.hid hq4
  clear hs1 hs4 hq0 hq4
  go_region_with ((first
    | (go_at_call 39; refine (pick_r w.heap.size 4 _ _ (by exact HR4.out) (by omega) (by omega)).mono ?_; rintro e wa ⟨x1, hx10, hx11, rfl, hra, hka⟩; have HRA := Lib.hid hra; have HKA := Lib.hid (show Kept w.heap.size w4 wa from ⟨hka.os, hka.tape, hka.output, hka.size, hka.block⟩); clear hra hka)
    | (go_at_call 39; refine (pick_r w.heap.size 3 _ _ (by exact HRA.out) (by omega) (by omega)).mono ?_; rintro e wb ⟨x2, hx20, hx21, rfl, hrb, hkb⟩; have HRB := Lib.hid hrb; have HKB := Lib.hid (HKA.out.trans hkb); clear hrb hkb)
    | (go_at_call 39; refine (pick_r w.heap.size 2 _ _ (by exact HRB.out) (by omega) (by omega)).mono ?_; rintro e wc ⟨x3, hx30, hx31, rfl, hrc, hkc⟩; have HRC := Lib.hid hrc; have HKC := Lib.hid (HKB.out.trans hkc); clear hrc hkc)
    | (go_at_call 39; refine (pick_r w.heap.size 1 _ _ (by exact HRC.out) (by omega) (by omega)).mono ?_; rintro e wd ⟨t, ht0, ht1, rfl, hrd, hkd⟩; have HKD := Lib.hid (HKC.out.trans hkd); clear hrd hkd; obtain ⟨m, rfl⟩ := Int.eq_ofNat_of_zero_le ht0; obtain ⟨u, hu⟩ := six_cells wd x1 x2 x3 (-1) 990 991 (t := m) (by omega))
    | (go_at_call 39; refine (pick_r w.heap.size 1 _ _ (by exact HRC.out.keep (fun i hi => Below.heap_alloc _ _ _ (by have h1 := HKC.out.size; have h2 := HQ4.out; omega))) (by omega) (by omega)).mono ?_; rintro e wd ⟨t, ht0, ht1, rfl, hrd, hkd⟩; have HKD := Lib.hid hkd; clear hrd hkd; obtain ⟨m, rfl⟩ := Int.eq_ofNat_of_zero_le ht0; obtain ⟨u, hu⟩ := six_kept x1 x2 x3 (-1) 990 991 (t := m) (by omega) HKD.out (by have h1 := HKC.out.size; have h2 := HQ4.out; omega))))
  all_goals
    have HU := Lib.hid hu
    have h4 := HK4.out.size
    have h5 := HS4.out
    go_wp2
    refine bodyPost_ret (v := .tuple #[.slice (some ⟨g, 0, none⟩) zs.length c, .int .i64 lf, .int .i64 u]) (by simp [results, Try.results20, go_sem]) rfl ?_
    first
      | exact drewset_fin (w1 := w1) HB0.out rfl (by have := HZ.out; omega) HG1.out HI.out HL.out HLc.out (fun i hi hne => (HKD.out.block i hne).trans ((Below.heap_alloc wc _ i (by have := HKC.out.size; omega)).trans ((HKC.out.block i hne).trans (HK4.out.block i hne)))) (HKD.out.os.trans (HKC.out.os.trans HK4.out.os)) (HKD.out.tape.trans (HKC.out.tape.trans HK4.out.tape)) (HKD.out.output.trans (HKC.out.output.trans HK4.out.output)) (by have h1 := HKD.out.size; have h2 := HKC.out.size; simp at h1; omega) HQ0.out
      | exact drewset_fin (w1 := w1) HB0.out rfl (by have := HZ.out; omega) HG1.out HI.out HL.out HLc.out (fun i hi hne => (Below.heap_alloc wd _ i (by have := HKD.out.size; omega)).trans ((HKD.out.block i hne).trans (HK4.out.block i hne))) (HKD.out.os.trans HK4.out.os) (HKD.out.tape.trans HK4.out.tape) (HKD.out.output.trans HK4.out.output) (by have h1 := HKD.out.size; simp; omega) HQ0.out

theorem IntsFrom.src {w W : World} {base g : Nat} {zs : List Int} (h : IntsFrom w base (some ⟨g, 0, none⟩) zs) (hB : Below w.heap.size w W) : ∀ j u, (vals zs)[j]? = some u → W.cell? ((⟨g, 0, none⟩ : Addr).add j) = some u := by
  intro j u hu
  have hj : j < zs.length := by have := (List.getElem?_eq_some_iff.1 hu).1; rwa [vals_len] at this
  rcases h.ints with h0 | ⟨b, off, ha, hb, hc⟩
  · rw [h0] at hj; simp at hj
  · injection ha with ha; injection ha with ha ho; subst ha ho
    rw [vals_get hj] at hu
    rw [add_plain, hB.cell (p := ⟨g, 0 + j, none⟩) hb, hc j hj, hu]

/-- two drawn trees -/
def DrewTwo (w : World) (e : Ending) (w' : World) : Prop :=
  ∃ (g1 c1 : Nat) (xs : List Int) (g2 c2 : Nat) (ys : List Int), e = .returned (.tuple #[.slice (some ⟨g1, 0, none⟩) xs.length c1, .slice (some ⟨g2, 0, none⟩) ys.length c2]) ∧ IntsFrom w' w.heap.size (some ⟨g1, 0, none⟩) xs ∧ xs.length ≤ 31 ∧ xs.length ≤ c1 ∧ IntsFrom w' w.heap.size (some ⟨g2, 0, none⟩) ys ∧ ys.length ≤ 31 ∧ ys.length ≤ c2 ∧ Below w.heap.size w w'

/-- at the head of the loop: k trees were tried -/
def TwoAt (q K : Nat) (w : World) (g : Nat) (xs : List Int) (k : Nat) (v : Value) (wr : World) : Prop :=
  ∃ (g2 c2 : Nat) (ys : List Int), v = .slice (some ⟨g2, 0, none⟩) ys.length c2 ∧ IntsFrom wr w.heap.size (some ⟨g2, 0, none⟩) ys ∧ ys.length ≤ 31 ∧ ys.length ≤ c2 ∧ IntsFrom wr w.heap.size (some ⟨g, 0, none⟩) xs ∧ Ready wr q (K + 3 * (3 - k) + 1) ∧ w.grownBy wr (some q)
theorem ints_kept {q : Nat} {w1 w2 : World} {base : Nat} {a : Option Addr} {zs : List Int} (h : IntsFrom w1 base a zs) (hk : Kept q w1 w2) (hq : q < base) : IntsFrom w2 base a zs :=
  h.keep (Nat.le_of_eq hk.size.symm) (fun g h1 h2 => hk.block g (by omega))
theorem ints_below {w1 w2 : World} {base : Nat} {a : Option Addr} {zs : List Int} (h : IntsFrom w1 base a zs) (hb : Below w1.heap.size w1 w2) : IntsFrom w2 base a zs :=
  h.keep hb.size (fun g _ h2 => hb.block g h2)

set_option maxHeartbeats 4000000 in
theorem drawSumsDiffer (s : Option Addr) (len cap : Nat) (w : World) (h : BytesAt w s len cap) :
    Calls Try.prog 22 #[.slice s len cap] w (DrewTwo w) := by
  go_enter Try.func22, Try.ntmps22
  go_wp2_with fail
  refine (open_any s len cap w h).mono ?_
  rintro e w0 ⟨rfl, hr0, hb0, hz0⟩
  have HZ := Lib.hid hz0
  have HB0 := Lib.hid hb0
  have HQ0 := Lib.hid hr0.lt
  clear hz0 hb0
  go_wp2_with fail
  refine (stree_draw w.heap.size 60 w0 (hr0.less (by omega))).mono ?_
  rintro e w1 ⟨g, c, xs, rfl, hi, hl, hlc, hr1, hg1⟩
  have HL := Lib.hid hl
  have HLc := Lib.hid hlc
  have H0 : Hid (TwoAt w.heap.size 23 w0 g xs 0 (.slice (some ⟨g, 0, none⟩) xs.length c) w1) := ⟨g, c, xs, rfl, hi, hl, hlc, hi, hr1.less (by omega), hg1⟩
  clear hi hr1 hg1 hr0 hl hlc
  go_wp2
  go_loopw [6, 7] (fun o i wr => ∃ k : Nat, k ≤ 3 ∧ i = .int .i64 k ∧ TwoAt w.heap.size 23 w0 g xs k o wr) (fun _ i _ => 3 - (intOf i).toNat)
  case atStart => exact ⟨0, by omega, rfl, H0.out⟩
  case round =>
    obtain ⟨k, hk, rfl, g2, c2, ys, rfl, hi2, hl2, hlc2, hi1, hr, hg⟩ := hrel
    go_wp2_with fail
    refine (pick_r w.heap.size (23 + 3 * (3 - k)) 4 wr hr (by omega) (by omega)).mono ?_
    rintro e w2 ⟨u, hu0, hu1, rfl, hr2, hk2⟩
    have HA := Lib.hid (ints_kept hi1 hk2 HQ0.out)
    have HBB := Lib.hid (ints_kept hi2 hk2 HQ0.out)
    have HG := Lib.hid (grown_trans hg hk2.grown)
    have HR := Lib.hid hr2
    have HL2 := Lib.hid hl2
    have HLc2 := Lib.hid hlc2
    clear hi1 hi2 hg hr hr2 hk2 hl2 hlc2
    by_cases hlt : (k : Int) < u
    · have hk3 : k < 3 := by omega
      go_wp2_with fail
      refine (pick_r w.heap.size (23 + 3 * (3 - k) - 1) 16 w2 (HR.out.less (by omega)) (by omega) (by omega)).mono ?_
      rintro e w3 ⟨lf, hlf0, hlf1, rfl, hr3, hk3'⟩
      go_wp2_with fail
      refine (pick_r w.heap.size (23 + 3 * (3 - k) - 2) 250 w3 (hr3.less (by omega)) (by omega) (by omega)).mono ?_
      rintro e w4 ⟨x, hx0, hx1, rfl, hr4, hk4'⟩
      have HA4 := Lib.hid (ints_kept (ints_kept HA.out hk3' HQ0.out) hk4' HQ0.out)
      have HBB4 := Lib.hid (ints_kept (ints_kept HBB.out hk3' HQ0.out) hk4' HQ0.out)
      have HG4 := Lib.hid (grown_trans (grown_trans HG.out hk3'.grown) hk4'.grown)
      have HR4 := Lib.hid hr4
      clear hr3 hk3' hr4 hk4'
      go_wp2_with fail
      refine (ssumsset_any (some ⟨g2, 0, none⟩) ys.length c2 ys lf x w4 HBB4.out.ints rfl (by have := HL2.out; unfold maxLen; omega) HLc2.out).mono ?_
      rintro e w5 ⟨g5, c5, rfl, ho5, hb5⟩
      have hor := sumsSetL_or ys lf x
      obtain ⟨L, hL⟩ : ∃ L, L = sumsSetL ys lf x := ⟨_, rfl⟩
      rw [← hL] at ho5 hor ⊢
      have HA5 := Lib.hid (ints_below HA4.out hb5)
      have HBB5 := Lib.hid (ints_below HBB4.out hb5)
      have HG5 := Lib.hid (grown_thenB HG4.out hb5)
      have HR5 := Lib.hid (ready_thenB HR4.out hb5)
      have HO5 := Lib.hid ho5
      clear hL ho5 hb5
      rcases hor with h0 | h31
      · subst h0
        go_wp2
        go_roundw
        case rel => exact ⟨k + 1, by omega, by go_num, g2, c2, ys, rfl, HBB5.out, HL2.out, HLc2.out, HA5.out, HR5.out.less (by omega), HG5.out⟩
        case measure => simp [intOf]; omega
      · have H31 := Lib.hid h31
        have hcl := HO5.out.cap_le.1
        rw [h31]
        have hcl5 : 31 ≤ c5 := by omega
        clear h31 hcl
        go_wp2
        go_roundw
        case rel => exact ⟨k + 1, by omega, by go_num, g5, c5, L, by rw [H31.out], (HO5.out.less HG4.out.size).froms, by rw [H31.out]; omega, by rw [H31.out]; exact hcl5, HA5.out, HR5.out.less (by omega), HG5.out⟩
        case measure => simp [intOf]; omega
    · have hge : u ≤ (k : Int) := by omega
      clear hlt
      go_wp2_with fail
      refine (pick_r w.heap.size 22 16 w2 (HR.out.less (by omega)) (by omega) (by omega)).mono ?_
      rintro e w3 ⟨v, hv0, hv1, rfl, hr3, hk3⟩
      have HA3 := Lib.hid (ints_kept HA.out hk3 HQ0.out)
      have HBB3 := Lib.hid (ints_kept HBB.out hk3 HQ0.out)
      have HG3 := Lib.hid (grown_trans HG.out hk3.grown)
      have HR3 := Lib.hid hr3
      clear hr3 hk3
      by_cases hv : v = 0
      · subst hv
        go_wp2_with fail
        refine (stree_draw w.heap.size 0 w3 (HR3.out.less (by omega))).mono ?_
        rintro e w4 ⟨g4, c4, zs, rfl, hi4, hl4, hlc4, hr4, hg4⟩
        have HA4 : Hid (IntsFrom w4 w0.heap.size (some ⟨g, 0, none⟩) xs) := HA3.out.keep hg4.size (fun k h1 h2 => hg4.block k h2 (by intro e; injection e with e; have := HQ0.out; omega))
        have HZ4 : Hid (IntsFrom w4 w0.heap.size (some ⟨g4, 0, none⟩) zs) := hi4.down HG3.out.size
        have HG4 := Lib.hid (grown_trans HG3.out hg4)
        have HL4 := Lib.hid hl4
        have HLc4 := Lib.hid hlc4
        have HB4 : Hid (Below w.heap.size w w4) := below_of_grown HB0.out (Nat.le_refl _) (by have := HZ.out; omega) HG4.out
        have HSRC := Lib.hid (HZ4.out.src (W := w4.alloc (.cells #[] 3)) ((Below.refl _ _).alloc (Nat.le_refl _) _))
        clear hi4 hg4 hl4 hlc4 hr4
        go_wp2_with (at_builtin; refine wl_app _ (by rfl) _ _ (by rfl) w4.heap.size w4.heap.size 0 0 [] (by rfl) (own_empty (heap_alloc_new w4 _) (Nat.le_refl _)) ⟨g4, 0, none⟩ zs.length c4 (vals zs) (by rfl) (vals_len zs) HSRC.out (vals_one _) zs.length (vals zs) (by omega) (by simp) (by have := HL4.out; omega) (by simp) ?_; intro g5 c5 w5 hown hgr hat; have HO5 := Lib.hid hown; have HG5 := Lib.hid hgr; clear hown hgr hat)
        go_ret2
        have hb5 : Below w4.heap.size w4 w5 := ((Below.refl _ _).alloc (Nat.le_refl _) _ : Below w4.heap.size w4 (w4.alloc _)).grown HG5.out (by simp) (fun k hk => by injection hk with hk; omega)
        have ho5 : OwnI w5 w4.heap.size (some ⟨g5, 0, none⟩) c5 zs := HO5.out
        have hz := HZ.out
        have hz4 := HG4.out.size
        exact ⟨g, c, xs, g5, c5, zs, rfl, (ints_below HA4.out hb5).down (by omega), HL.out, HLc.out, (ho5.less (by omega)).froms, HL4.out, ho5.cap_le.1, HB4.out.trans (hb5.mono HB4.out.size)⟩
      · have hvB : (v == 0) = false := by simp [hv]
        have HB3 : Hid (Below w.heap.size w w3) := below_of_grown HB0.out (Nat.le_refl _) (by have := HZ.out; omega) HG3.out
        have HSRC := Lib.hid (HBB3.out.src (W := w3.alloc (.cells #[] 3)) ((Below.refl _ _).alloc (Nat.le_refl _) _))
        go_wp2_with (at_builtin; refine wl_app _ (by rfl) _ _ (by rfl) w3.heap.size w3.heap.size 0 0 [] (by rfl) (own_empty (heap_alloc_new w3 _) (Nat.le_refl _)) ⟨g2, 0, none⟩ ys.length c2 (vals ys) (by rfl) (vals_len ys) HSRC.out (vals_one _) ys.length (vals ys) (by omega) (by simp) (by have := HL2.out; omega) (by simp) ?_; intro g5 c5 w5 hown hgr hat; have HO5 := Lib.hid hown; have HG5 := Lib.hid hgr; clear hown hgr hat)
        go_ret2
        have hb5 : Below w3.heap.size w3 w5 := ((Below.refl _ _).alloc (Nat.le_refl _) _ : Below w3.heap.size w3 (w3.alloc _)).grown HG5.out (by simp) (fun k hk => by injection hk with hk; omega)
        have ho5 : OwnI w5 w3.heap.size (some ⟨g5, 0, none⟩) c5 ys := HO5.out
        have hz := HZ.out
        have hz3 := HG3.out.size
        exact ⟨g, c, xs, g5, c5, ys, rfl, (ints_below HA3.out hb5).down (by omega), HL.out, HLc.out, (ho5.less (by omega)).froms, HL2.out, ho5.cap_le.1, HB3.out.trans (hb5.mono HB3.out.size)⟩

end Go.Proofs.Ytkpfpnmokknbaaa
