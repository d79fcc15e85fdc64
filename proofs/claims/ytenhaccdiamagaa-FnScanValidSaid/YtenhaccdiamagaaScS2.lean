/- Scans: the model's step. -/
import Derived.Test.YtenhaccdiamagaaScS
import Derived.BigQuiet
import Derived.Deep.QuietTactic
import Derived.Deep.RegionHeld3
import Derived.Deep.RegionWith
import Derived.Maps.AppendAt
namespace Go.Proofs.Ytenhaccdiamagaa
open Go.RowKit
set_option linter.unusedVariables false
attribute [local go_sem ↓] Go.wp_at_zero Go.wp_at_succ

/-- a scan in block g, what it told in a block of its own; V is the world ahead of it -/
structure ScSt (o : Option Nat) (g : Nat) (V wr : World) (x : Int) (ts : List Int) (n : Nat) : Prop where
  sc : ∃ (b cb : Nat), wr.heap[g]? = some (.cells #[.int .i64 x, .slice (some ⟨b, 0, none⟩) n cb] 26 (0, 0)) ∧ ts.length = n ∧ OwnI wr V.heap.size (some ⟨b, 0, none⟩) cb ts ∧ b ≠ g
  grown : V.grownBy wr o
  lt : g < wr.heap.size
theorem ScSt.same {o : Option Nat} {g n : Nat} {V wr w2 : World} {x : Int} {ts : List Int} (h : ScSt o g V wr x ts n) (hs : Same wr w2) : ScSt o g V w2 x ts n := by
  obtain ⟨m, rfl⟩ := hs
  obtain ⟨b, cb, h1, h2, h3, h4⟩ := h.sc
  exact ⟨⟨b, cb, h1, h2, h3.kept fun _ _ _ => rfl, h4⟩, ⟨h.grown.os, h.grown.tape, h.grown.output, h.grown.size, h.grown.block⟩, h.lt⟩
theorem ScSt.alloc {g n : Nat} {V wr : World} {x : Int} {ts : List Int} (h : ScSt none g V wr x ts n) (ob : Obj) : ScSt none g V (wr.alloc ob) x ts n := by
  obtain ⟨b, cb, h1, h2, h3, h4⟩ := h.sc
  have hb := alB wr ob
  exact ⟨⟨b, cb, (hb.block _ h.lt).trans h1, h2, h3.keepB hb (Nat.le_refl _), h4⟩, World.grownBy.trans h.grown (World.grownBy_alloc wr ob none), Nat.lt_of_lt_of_le h.lt hb.size⟩
theorem ScSt.setX {o : Option Nat} {g n : Nat} {V wr : World} {x : Int} {ts : List Int} (h : ScSt o g V wr x ts n) (hg : V.heap.size ≤ g) (x' : Int) : ScSt o g V (wr.setCell ⟨g, 0, none⟩ (.int .i64 x')) x' ts n := by
  obtain ⟨b, cb, h1, h2, h3, h4⟩ := h.sc
  refine ⟨⟨b, cb, heap_set wr g 0 _ h1, h2, own_atS h3 (fun y hy => ?_), h4⟩, ⟨h.grown.os, h.grown.tape, h.grown.output, by simp [World.setCell]; exact h.grown.size, fun i hi hne => (heap_set_ne wr g 0 i _ (by omega)).trans (h.grown.block i hi hne)⟩, by simp [World.setCell]; exact h.lt⟩
  injection hy with hy; subst hy
  exact heap_set_ne wr g 0 b _ h4
theorem ScSt.below {g n : Nat} {V wr : World} {x : Int} {ts : List Int} (h : ScSt none g V wr x ts n) : Below V.heap.size V wr := (Below.refl _ _).grown h.grown (Nat.le_refl _) (fun j hj => by cases hj)
theorem ScSt.len {o : Option Nat} {g n : Nat} {V wr : World} {x : Int} {ts : List Int} (h : ScSt o g V wr x ts n) : ts.length = n := by obtain ⟨b, cb, h1, h2, h3, h4⟩ := h.sc; exact h2
theorem sc_mid {w2 W w7 : World} {b g : Nat} (hW : Below w2.heap.size w2 W) (hg : W.grownBy w7 (some b)) (hlt : g < w2.heap.size) (hbg : b ≠ g) : w7.heap[g]? = w2.heap[g]? :=
  (hg.block g (Nat.lt_of_lt_of_le hlt hW.size) (by intro e; injection e with e; omega)).trans (hW.block g hlt)
theorem mk_bs {wx W w7 : World} {o : Option Nat} (_ : W.grownBy w7 o) (h : Below wx.heap.size wx W) : Hid (Below wx.heap.size wx W) := h
/-- behind an append to what was told -/
theorem sc_app {o : Option Nat} {g k k' b b5 cb cb5 : Nat} {V w2 W w5 : World} {x : Int} {ys : List Int} (ho : ∀ j, o = some j → j < V.heap.size) (hg : V.heap.size ≤ g) (hg2 : V.grownBy w2 o) (hlt : g < w2.heap.size)
    (hb : V.heap.size ≤ b) (hbg : b ≠ g) (hc : w2.heap[g]? = some (.cells #[.int .i64 x, .slice (some ⟨b, 0, none⟩) k cb] 26 (0, 0)))
    (hW : Below w2.heap.size w2 W) (hg5 : W.grownBy w5 (some b)) (h5 : b5 = b ∨ b5 = W.heap.size) (hl : ys.length = k') (hown : w5.ownsRow V.heap.size 3 1 (.slice (some ⟨b5, 0, none⟩) k' cb5) k' (vals ys)) :
    ScSt o g V (w5.setCell ⟨g, 1, none⟩ (.slice (some ⟨b5, 0, none⟩) k' cb5)) x ys k' := by
  have s0 := hg2.size
  have s1 := hW.size
  have s2 := hg5.size
  have hb5 : b5 ≠ g := by rcases h5 with h | h <;> omega
  have hk : ∀ i, i < w2.heap.size → i ≠ b → w5.heap[i]? = w2.heap[i]? := fun i h1 h2 => (hg5.block i (by omega) (by intro e; injection e with e; omega)).trans (hW.block i h1)
  have hg' : w5.heap[g]? = some (.cells #[.int .i64 x, .slice (some ⟨b, 0, none⟩) k cb] 26 (0, 0)) := (hk g hlt (by omega)).trans hc
  have ho5 : OwnI w5 V.heap.size (some ⟨b5, 0, none⟩) cb5 ys := by unfold OwnI; rw [hl]; exact hown
  refine ⟨⟨b5, cb5, (heap_set w5 g 1 _ hg').trans rfl, hl, ?_, hb5⟩, ⟨hg5.os.trans (hW.os.trans hg2.os), hg5.tape.trans (hW.tape.trans hg2.tape), hg5.output.trans (hW.output.trans hg2.output), by simp [World.setCell]; omega, fun i hi hne => (heap_set_ne w5 g 1 i _ (by omega)).trans ((hk i (by omega) (by omega)).trans (hg2.block i hi hne))⟩, by simp [World.setCell]; omega⟩
  refine own_atS ho5 (fun y hy => ?_)
  injection hy with hy; subst hy
  exact heap_set_ne w5 g 1 b5 _ hb5
/-- .. elsewhere -/
theorem sc_off {g k' b b5 cb5 i : Nat} {w2 W w5 : World} (hW : Below w2.heap.size w2 W) (hg5 : W.grownBy w5 (some b)) (hi : i < w2.heap.size) (hib : i ≠ b) (hig : i ≠ g) :
    (w5.setCell ⟨g, 1, none⟩ (.slice (some ⟨b5, 0, none⟩) k' cb5)).heap[i]? = w2.heap[i]? :=
  (heap_set_ne w5 g 1 i _ hig).trans ((hg5.block i (Nat.lt_of_lt_of_le hi hW.size) (by intro e; injection e with e; omega)).trans (hW.block i hi))

set_option maxRecDepth 20000 in
set_option maxHeartbeats 2000000 in
theorem sstep1_any (al ak at_ : Option Addr) (ll cl lk ck n ct : Nat) (L : List Ls) (K : List Int) (s : Sc) (w : World) (hl : LsAt w al L) (hk : IntsAt w ak K) (ht : IntsAt w at_ s.t) (hzl : L.length = ll) (hzk : K.length = lk) (hzt : s.t.length = n) (hv : lvB L = true) (hkm : lk ≤ 1000) (hnm : n ≤ 1000) :
    Calls Try.prog 58 #[.slice al ll cl, .slice ak lk ck, .agg #[.int .i64 s.x, .slice at_ n ct]] w (NewSc (stS L K s) w) := by
  obtain ⟨x, ts⟩ := s
  simp only at *
  obtain ⟨W, hW⟩ : ∃ W, W = (w.alloc (.cells #[.int .i64 x, .slice at_ n ct] 26)).alloc (.cells #[.int .i64 0, .slice none 0 0] 26) := ⟨_, rfl⟩
  obtain ⟨hs, hB, h1, h2⟩ := two_newS hW
  have HB := Lib.hid hB
  have HW := Lib.hid hW
  have HS := Lib.hid hs
  have H1 := Lib.hid h1
  have H2 := Lib.hid h2
  have HL := Lib.hid hl
  have HK := Lib.hid hk
  have HT := Lib.hid (ht.keepB hB (Nat.le_refl _))
  have HZL := Lib.hid hzl
  have HZK := Lib.hid hzk
  have HZT := Lib.hid hzt
  have hll := lv_len hv
  rw [hzl] at hll
  have HLM : Hid (ll ≤ maxLen) := by show _ ≤ _; unfold maxLen; omega
  have hat := at_lt (by have := (lv_len hv).1; omega) (L := L) x
  have he := lv_e hv hat
  rw [hzl] at hat
  obtain ⟨c0, c1⟩ := cell2s h1
  have HBA : Hid (∀ o, Below W.heap.size W (W.alloc o)) := fun o => (Below.refl _ _).alloc (Nat.le_refl _) _
  have HV := Lib.hid hv
  have a1 : ∀ o, (W.alloc o).cell? ⟨w.heap.size, 1, none⟩ = some (.slice at_ n ct) := fun o => ((HBA.out o).cell (p := ⟨w.heap.size, 1, none⟩) (by show w.heap.size < _; omega)).trans c1
  have HOE : Hid ((W.alloc (.cells #[] 3)).ownsRow W.heap.size 3 1 (.slice (some ⟨w.heap.size + 1 + 1, 0, none⟩) 0 0) 0 []) := by
    show World.ownsRow _ _ _ _ _ _ _
    have e : w.heap.size + 1 + 1 = W.heap.size := by omega
    rw [e]; exact own_empty (heap_alloc_new W _) (Nat.le_refl _)
  clear hW hB hs h1 h2 hl hk ht hzl hzk hzt hv
  go_enter Try.func58, Try.ntmps58
  go_wp2_with (at_builtin; rw [← HW.out]; refine wl_appS _ (by rfl) _ _ (by rfl) W.heap.size (w.heap.size + 1 + 1) 0 0 [] (by rfl) HOE.out at_ n ct ts (by rfl) HZT.out (HT.out.keepB (HBA.out _) (Nat.le_refl _)) n (by omega) (by omega) (by simp) ?_; intro g5 c5 w5 hown hg5 hat5; have hz := HS.out; have hb5 := (HBA.out (.cells #[] 3)).grown hg5 (by simp) (fun k hk => by injection hk with hk; have := HS.out; omega); have h5 := (hb5.block w.heap.size (by omega)).trans H1.out; have h6 := (hb5.block (w.heap.size + 1) (by omega)).trans H2.out; have d0 : ∀ o, (w5.alloc o).cell? ⟨w.heap.size, 0, none⟩ = some (.int .i64 x) := (fun o => ((alB w5 o).cell (p := ⟨w.heap.size, 0, none⟩) (heap_lt h5)).trans (cell2s h5).1); have H5 := Lib.hid h5; have H6 := Lib.hid h6; have HO := Lib.hid hown; have HB5 := Lib.hid hb5; have HG5 : Hid (g5 = w.heap.size + 1 + 1 ∨ g5 = (W.alloc (.cells #[] 3)).heap.size) := hat5; clear h5 h6 hown hg5 hat5 hb5 hz c0 c1 a1)
  obtain ⟨w6, hw6⟩ : ∃ w6, w6 = w5.alloc (.cells #[.int .i64 64, .slice (some ⟨g5, 0, none⟩) n c5] 26) := ⟨_, rfl⟩
  obtain ⟨g, hg⟩ : ∃ g, g = w5.heap.size := ⟨_, rfl⟩
  have hz := HS.out
  have hz5 := HB5.out.size
  have hg5n : g5 ≠ g := by have h5 := HG5.out; have h6 := (own_whole HO.out HZT.out).lt; omega
  have h6g : w6.heap[g]? = some (.cells #[.int .i64 64, .slice (some ⟨g5, 0, none⟩) n c5] 26 (0, 0)) := by rw [hw6, hg]; exact heap_alloc_new w5 _
  have hb56 : Below w5.heap.size w5 w6 := by rw [hw6]; exact alB w5 _
  have HB6 : Hid (Below W.heap.size W w6) := HB5.out.trans (hb56.mono hz5)
  have ho6 : OwnI w6 W.heap.size (some ⟨g5, 0, none⟩) c5 ts := (own_whole HO.out HZT.out).keepB hb56 (Nat.le_refl _)
  have HSt6 : Hid (ScSt none g W w6 64 ts n) := ⟨⟨g5, c5, h6g, HZT.out, ho6, hg5n⟩, ⟨HB6.out.os, HB6.out.tape, HB6.out.output, HB6.out.size, fun i hi _ => HB6.out.block i hi⟩, heap_lt h6g⟩
  have HGW : Hid (W.heap.size ≤ g) := by show _ ≤ _; omega
  rw [← hw6, ← hg]
  have HBX : Hid (∀ u, Below W.heap.size W u → u.cell? ⟨w.heap.size, 0, none⟩ = some (.int .i64 x)) := fun u hu => (hu.cell (p := ⟨w.heap.size, 0, none⟩) (by show w.heap.size < _; omega)).trans (cell2s H1.out).1
  have HL6 := Lib.hid ((HL.out.keepB HB.out (Nat.le_refl _)).keepB HB6.out (Nat.le_refl _))
  clear hw6 hg h6g hb56 ho6 hg5n d0 H5 H6 HO HB5 HG5 hz hz5
  refine (sat_any al ll cl L x w6 HL6.out HZL.out HLM.out).mono ?_
  rintro e w' ⟨rfl, rfl⟩
  obtain ⟨b, off, rfl, hb0, hcells⟩ := HL6.out.at_ (i := atL L x) (by rw [HZL.out]; exact hat)
  obtain ⟨e0, e1, e2⟩ := hcells (atL L x) (by rw [HZL.out]; exact hat)
  obtain ⟨y, hy⟩ : ∃ y, y = gl L (atL L x) := ⟨_, rfl⟩
  rw [← hy] at e0 e1 e2 he
  obtain ⟨ye, yo, yu⟩ := y
  simp only at e0 e1 e2 he
  have HX : Hid (nxE L x = if x ≤ ye then ye + 1 else 64) := by show _ = _; unfold nxE ofL; rw [← hy]
  have x6 : ∀ o, (w6.alloc o).cell? ⟨w.heap.size, 0, none⟩ = some (.int .i64 x) := fun o => HBX.out _ (HB6.out.trans ((alB w6 o).mono HB6.out.size))
  have h6 := HSt6.out.sc
  obtain ⟨b6, cb6, h6, _, h6o, h6n⟩ := h6
  have x7 : ∀ o, (w6.alloc o).cell? ⟨g, 0, none⟩ = some (.int .i64 64) := fun o => ((alB w6 o).cell (p := ⟨g, 0, none⟩) (heap_lt h6)).trans (cell2s h6).1
  have f7 : ∀ o, (w6.alloc o).frozen? ⟨g, 0, none⟩ = false := fun o => ((alB w6 o).frozen (p := ⟨g, 0, none⟩) (heap_lt h6)).trans (frozen_of_cells h6 0)
  have H6 := Lib.hid h6
  clear hcells hy h6 h6o h6n
  have HK0 := Lib.hid (HK.out.keepB HB.out (Nat.le_refl _))
  by_cases hge : x ≤ ye
  case' pos =>
    have HXe : Hid (nxE L x = ye + 1) := by show _ = _; rw [HX.out, if_pos hge]
    have HSt : Hid (ScSt none g W ((w6.alloc (.cells #[.int .i64 ye, .int .i64 yo, .int .i64 yu] 36)).setCell ⟨g, 0, none⟩ (.int .i64 (ye + 1))) (nxE L x) ts n) := by
      show ScSt _ _ _ _ _ _ _
      rw [HXe.out]; exact (HSt6.out.alloc _).setX HGW.out _
    clear HXe
  case' neg =>
    have HXe : Hid (nxE L x = 64) := by show _ = _; rw [HX.out, if_neg hge]
    have HSt : Hid (ScSt none g W (w6.alloc (.cells #[.int .i64 ye, .int .i64 yo, .int .i64 yu] 36)) (nxE L x) ts n) := by
      show ScSt _ _ _ _ _ _ _
      rw [HXe.out]; exact HSt6.out.alloc _
    clear HXe
  all_goals
    have hts : ts = ts ++ btw (K.take 0) x (nxE L x) := by simp [btw]
    have hSt := HSt.out
    rw [hts] at hSt
    have HS0 := Lib.hid hSt
    clear hts hSt
    clear HSt
    go_wp2
    clear e0 e1 e2 x6 x7 f7 he
    obtain ⟨X, hXX⟩ : ∃ X, X = nxE L x := ⟨_, rfl⟩
    rw [← hXX] at HS0
    have HXX := Lib.hid hXX
    clear hXX hge
    go_loopw [9] (fun iv wr => ∃ k m : Nat, k ≤ lk ∧ m ≤ n + k ∧ iv = .int .i64 k ∧ ScSt none g W wr X (ts ++ btw (K.take k) x X) m) (fun iv _ => lk - (intOf iv).toNat)
    case atStart => exact ⟨0, n, by omega, by omega, rfl, HS0.out⟩
    case round =>
      obtain ⟨k, m, hk, hm, rfl, hst⟩ := hrel
      have HST := Lib.hid hst
      have HBW := Lib.hid hst.below
      clear hst HS0
      by_cases hlt : k < lk
      · have hx0 := HBX.out wr HBW.out
        obtain ⟨b, cb, hc, hl, hown, hbg⟩ := HST.out.sc
        obtain ⟨c0, c1⟩ := cell2s hc
        obtain ⟨bk, offk, rfl, hb0, hcells⟩ : ∃ bb off, ak = some ⟨bb, off, none⟩ ∧ bb < wr.heap.size ∧ ∀ i, i < K.length → wr.cell? ⟨bb, off + i, none⟩ = some (.int .i64 (gt K i)) := by
          rcases HK0.out.keepB HBW.out (Nat.le_refl _) with h0 | h0
          · have := HZK.out; rw [h0] at this; simp at this; omega
          · exact h0
        have hz := hcells k (by rw [HZK.out]; exact hlt)
        have HTK := Lib.hid (btw_take_s (K := K) (k := k) (by rw [HZK.out]; exact hlt) x X)
        obtain ⟨z, hzz⟩ : ∃ z, z = gt K k := ⟨_, rfl⟩
        rw [← hzz] at hz HTK
        have k0 : (0 : Int) ≤ (k : Int) := by omega
        have k1 : (k : Int) < (lk : Int) := by omega
        have HC := Lib.hid hc
        have HBG := Lib.hid hbg
        have HYL := Lib.hid hl
        have HLT := Lib.hid HST.out.lt
        have HBL := Lib.hid hown.lt
        clear hcells hzz hc hl hbg
        cases ha : decide (x ≤ z)
        · have HN : Hid (ts ++ btw (K.take (k + 1)) x X = ts ++ btw (K.take k) x X) := by show _ = _; rw [HTK.out, ha]; simp
          go_wp2_with fail
          go_quiet (fail)
          go_wp2
          go_roundw
          case rel => exact ⟨k + 1, m, by omega, by omega, by go_num, by rw [HN.out]; exact HST.out.same ⟨_, rfl⟩⟩
          case measure => simp [intOf]; omega
        cases hb : decide (z < X)
        · have HN : Hid (ts ++ btw (K.take (k + 1)) x X = ts ++ btw (K.take k) x X) := by show _ = _; rw [HTK.out, hb]; simp
          have ha' : x ≤ z := of_decide_eq_true ha
          have hb' : ¬ z < X := of_decide_eq_false hb
          clear ha hb
          go_wp2_with fail
          go_quiet (fail)
          go_wp2
          go_roundw
          case rel => exact ⟨k + 1, m, by omega, by omega, by go_num, by rw [HN.out]; exact HST.out.same ⟨_, rfl⟩⟩
          case measure => simp [intOf]; omega
        · have HN : Hid (ts ++ btw (K.take (k + 1)) x X = (ts ++ btw (K.take k) x X) ++ [z]) := by show _ = _; rw [HTK.out, ha, hb]; simp
          have ha' : x ≤ z := of_decide_eq_true ha
          have hb' : z < X := of_decide_eq_true hb
          clear ha hb
          go_wp2_with fail
          go_quiet (fail)
          go_wp2
          obtain ⟨wa, hwa⟩ : ∃ wa, wa = wr.drewN nq := ⟨_, rfl⟩
          rw [← hwa]
          have hsa : Same wr wa := ⟨nq, hwa⟩
          have hsta := HST.out.same hsa
          have HG := Lib.hid hsta.grown
          obtain ⟨b2, cb2, hc2, hl2, hown2, hbg2⟩ := hsta.sc
          have HC2 := Lib.hid hc2
          have HLT2 := Lib.hid hsta.lt
          have HBG2 := Lib.hid hbg2
          have HBL2 := Lib.hid hown2.lt
          obtain ⟨d0, d1⟩ := cell2s hc2
          have hz2 := (hsa.cell _).trans hz
          obtain ⟨Y, hY⟩ : ∃ Y, Y = ts ++ btw (K.take k) x X := ⟨_, rfl⟩
          rw [← hY] at HYL HN hown2
          have HOW : Hid (∀ U, Below wa.heap.size wa U → U.ownsRow W.heap.size 3 1 (.slice (some ⟨b2, 0, none⟩) m cb2) m (vals Y)) := fun U hU => by
            have h := hown2.keepB hU (Nat.le_refl _)
            unfold OwnI at h; rw [HYL.out] at h; exact h
          have HSB : Hid (∀ U, Below wa.heap.size wa U → W.heap.size ≤ U.heap.size) := fun U hU => Nat.le_trans HG.out.size hU.size
          have d1a : ∀ o, (wa.alloc o).cell? ⟨g, 1, none⟩ = some (.slice (some ⟨b2, 0, none⟩) m cb2) := fun o => (World.cell?_of_block (a := ⟨g, 1, none⟩) (Below.heap_alloc _ _ _ HLT2.out)).trans d1
          have d1b : ∀ o, (wa.drew.alloc o).cell? ⟨g, 1, none⟩ = some (.slice (some ⟨b2, 0, none⟩) m cb2) := fun o => (World.cell?_of_block (a := ⟨g, 1, none⟩) (Below.heap_alloc wa.drew _ _ HLT2.out)).trans d1
          clear hwa hsa hsta hc2 hl2 hown2 hbg2 hx0 c0 c1 hz hY hown
          go_region_law ((first
            | (refine step_app (o := ⟨some 60, _, _, _, _, _⟩) _ (by rfl) (.tmp 54) (.tmp 59) (by rfl) W.heap.size b2 m cb2 (vals Y) (by rfl) (HOW.out _ (by repeat (first | exact Below.refl _ _ | apply Below.drew | (refine Below.alloc ?_ (by first | exact Nat.le_refl _ | (simp; done) | (simp; omega) | omega) _)))) ⟨_, 0, none⟩ 1 1 [.int .i64 z] (by rfl) rfl (src_one (by exact heap_alloc_new _ _)) (by simp [Value.oneCell']) (m + 1) (vals (Y ++ [z])) rfl (by simp [vals]) (by omega) (HSB.out _ (by repeat (first | exact Below.refl _ _ | apply Below.drew | (refine Below.alloc ?_ (by first | exact Nat.le_refl _ | (simp; done) | (simp; omega) | omega) _)))) ?_
               intro b5 cb5 w7 hown7 hg7 hat7
               have HBW7 := mk_bs (wx := wa) hg7 (by repeat (first | exact Below.refl _ _ | apply Below.drew | (refine Below.alloc ?_ (by first | exact Nat.le_refl _ | (simp; done) | (simp; omega) | omega) _)))
               have HG7 := Lib.hid hg7
               have HO7 := Lib.hid hown7
               have HT7 := Lib.hid hat7
               have hc7 := cell2s ((sc_mid HBW7.out HG7.out HLT2.out HBG2.out).trans HC2.out)
               have f7 := frozen_of_cells ((sc_mid HBW7.out HG7.out HLT2.out HBG2.out).trans HC2.out) 1
               obtain ⟨e0, e1⟩ := hc7
               clear hown7 hg7 hat7)))
          all_goals
            go_wp2
            go_roundw
            case rel => exact ⟨k + 1, m + 1, by omega, by omega, by go_num, by rw [HN.out]; exact sc_app (fun j hj => by cases hj) HGW.out HG.out HLT2.out HBL2.out.1 HBG2.out HC2.out HBW7.out HG7.out HT7.out (by rw [List.length_append, HYL.out]; rfl) HO7.out⟩
            case measure => simp [intOf]; omega
      · obtain rfl : k = lk := by omega
        obtain ⟨b, cb, hc, hl, hown, hbg⟩ := HST.out.sc
        have HKT : Hid (K.take k = K) := by show _ = _; rw [← HZK.out, List.take_length]
        have h6r := (HBW.out.block (w.heap.size + 1) (by have := HS.out; omega)).trans H2.out
        obtain ⟨d0, d1⟩ := cell2s hc
        obtain ⟨e0, e1⟩ := cell2s h6r
        have f0 := frozen_of_cells h6r 0
        have f1 := frozen_of_cells h6r 1
        have H6R := Lib.hid h6r
        have HOW := Lib.hid hown
        have HYL := Lib.hid hl
        have hs2 := HS.out
        clear hc hl h6r hown
        go_wp2
        refine bodyPost_ret (results_cell_row rfl _ _ (w.heap.size + 1) _ #[.int .i64 X, .slice (some ⟨b, 0, none⟩) m cb] (0, 0) _ rfl (set2s H6R.out) Try.underlying26 rfl (by kernel_rfl)) rfl ?_
        have hyl := HYL.out
        have how := HOW.out
        rw [HKT.out] at hyl how
        have hbl := HOW.out.lt
        refine ⟨some ⟨b, 0, none⟩, cb, ?_, ?_, below_set2s (HB.out.trans (HBW.out.mono HB.out.size)) (by omega) _ _⟩
        · show _ = Ending.returned (.agg #[.int .i64 (nxE L x), .slice _ (ts ++ btw K x (nxE L x)).length cb])
          rw [← HXX.out, hyl]
        · show OwnI _ _ _ _ (ts ++ btw K x (nxE L x))
          rw [← HXX.out]
          exact (own_atS how (fun y hy => by injection hy with hy; subst hy; exact set2s_ne (by show b ≠ _; omega))).less (by omega)
end Go.Proofs.Ytenhaccdiamagaa
