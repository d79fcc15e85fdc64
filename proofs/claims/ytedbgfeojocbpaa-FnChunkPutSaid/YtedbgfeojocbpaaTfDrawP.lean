/- Transfers: drawing received items and a chunk. -/
import Derived.Test.YtedbgfeojocbpaaTfDraw
import Derived.Test.YtedbgfeojocbpaaTfS6
import Derived.Test.YtedbgfeojocbpaaTfP3
import Derived.Test.YtedbgfeojocbpaaAppS
import Derived.Deep.RegionHeld3
import Derived.Deep.RegionWith
namespace Go.Proofs.Ytedbgfeojocbpaa
open Go.RowKit
set_option linter.unusedVariables false

attribute [local go_sem ↓] Go.wp_at_zero Go.wp_at_succ

theorem run_max2q {P : Program} (ts : Array TypeId) (t : TypeId) (k k' : IntKind) (x y : Int) (w : World) : (Builtin.max_ ts t #[.int k x, .int k' y]).run P w = .ok (.int k (max x y)) w := by
  simp [Builtin.max_, Builtin.max2]; omega
attribute [local go_sem ↓] run_max2q

theorem bytes_keepP {w W : World} {s : Option Addr} {len cap : Nat} (h : BytesAt w s len cap) (hb : Below w.heap.size w W) : BytesAt W s len cap := by
  have hs := hb.size
  obtain ⟨h1, h2, h3⟩ := h
  refine ⟨h1, h2, ?_⟩
  rcases h3 with h3 | ⟨b, off, ha, hlt, hc⟩
  · exact .inl h3
  · refine .inr ⟨b, off, ha, by omega, fun i hi => ?_⟩
    obtain ⟨c, hc1, hc2⟩ := hc i hi
    exact ⟨c, hc1, (hb.cell (p := ⟨b, off + i, none⟩) hlt).trans hc2⟩
theorem res_tc {P : Program} {fn : Func} {p q : Tmp} {ty : TypeId} (h : fn.results = #[.tmp q, .cell p ty]) (tmps : Array Value) (w : World) (g : Nat) (t : TypeId) (cs : Array Value) (fr : Nat × Nat) (d : TypeDesc)
    (hp : tmps.getD p undef = .pointer (some ⟨g, 0, none⟩)) (hg : w.heap[g]? = some (.cells cs t fr))
    (hu : P.underlying ty = some d) (hd : (match d with | .struct _ | .array _ _ => true | _ => false) = true) (hi : (P.info? ty).map (·.size) = some cs.size) :
    (results fn tmps).run P w = .ok (.tuple #[tmps.getD q undef, .agg cs]) w := by
  have hp' : tmps[p]?.getD undef = .pointer (some ⟨g, 0, none⟩) := by simpa using hp
  simp [results, h, hp', asAddr, run_loadVar_row w g t ty cs fr d hg hu hd hi]

/-- received items and a chunk that a law drew -/
def DrewCk (w : World) (e : Ending) (w' : World) : Prop :=
  ∃ (a : Option Addr) (cap : Nat) (zs : List Int) (b : Option Addr) (cb : Nat) (c : Ck), e = .returned (.tuple #[.slice a zs.length cap, .agg #[.int .i64 c.pos, .slice b c.items.length cb]]) ∧
    IntsFrom w' w.heap.size a zs ∧ zs.length ≤ 21 ∧ zs.length ≤ cap ∧ IntsFrom w' w.heap.size b c.items ∧ c.items.length ≤ 8 ∧ c.items.length ≤ cb ∧ Below w.heap.size w w'
/-- while a chunk is drawn: it lies in block g, its items in a block of their own; V is the world ahead of it -/
structure CpSt (q K g : Nat) (V wr : World) (ps : Int) (k : Nat) : Prop where
  ck : ∃ (b cb : Nat) (ys : List Int), wr.heap[g]? = some (.cells #[.int .i64 ps, .slice (some ⟨b, 0, none⟩) k cb] 46 (0, 0)) ∧ ys.length = k ∧ OwnI wr V.heap.size (some ⟨b, 0, none⟩) cb ys ∧ b ≠ g
  rdy : Ready wr q K
  grown : V.grownBy wr (some q)
  lt : g < wr.heap.size
theorem CpSt.pick {q K K' g k : Nat} {V wr w2 : World} {ps : Int} (h : CpSt q K g V wr ps k) (hq : q < V.heap.size) (hg : V.heap.size ≤ g) (hk : Kept q wr w2) (hr : Ready w2 q K') : CpSt q K' g V w2 ps k := by
  obtain ⟨b, cb, ys, h1, h2, h3, h4⟩ := h.ck
  exact ⟨⟨b, cb, ys, (hk.block _ (by omega)).trans h1, h2, h3.kept (fun i h1 h2 => hk.block i (by omega)), h4⟩, hr, grown_trans h.grown hk.grown, by have := hk.size; have := h.lt; omega⟩
theorem CpSt.less {q K K' g k : Nat} {V wr : World} {ps : Int} (h : CpSt q K g V wr ps k) (hk : K' ≤ K) : CpSt q K' g V wr ps k := ⟨h.ck, h.rdy.less hk, h.grown, h.lt⟩
theorem CpSt.drew {q K g k : Nat} {V wr : World} {ps : Int} (h : CpSt q K g V wr ps k) : CpSt q K g V wr.drew ps k := by
  obtain ⟨b, cb, ys, h1, h2, h3, h4⟩ := h.ck
  exact ⟨⟨b, cb, ys, h1, h2, h3, h4⟩, h.rdy.keep (fun _ _ => rfl), ⟨h.grown.os, h.grown.tape, h.grown.output, h.grown.size, h.grown.block⟩, h.lt⟩
theorem own_atP {w w' : World} {base cap : Nat} {a : Option Addr} {zs : List Int} (h : OwnI w base a cap zs) (he : ∀ x, a = some x → w'.heap[x.block]? = w.heap[x.block]?) : OwnI w' base a cap zs := by
  refine ⟨h.1, ?_⟩
  rcases h.2 with h0 | ⟨g', cap', cur, hv, hb, hg, rest⟩
  · exact .inl h0
  · refine .inr ⟨g', cap', cur, hv, hb, ?_, rest⟩
    injection hv with hv _ _
    exact (he _ hv).trans hg
/-- behind an append to the chunk's items -/
theorem cp_app {q K g k k' b b5 cb cb5 : Nat} {V w2 W w5 : World} {ps : Int} {ys : List Int} (hq : q < V.heap.size) (hg : V.heap.size ≤ g) (hg2 : V.grownBy w2 (some q)) (hr : Ready w2 q K) (hlt : g < w2.heap.size)
    (hb : V.heap.size ≤ b) (hbg : b ≠ g) (hc : w2.heap[g]? = some (.cells #[.int .i64 ps, .slice (some ⟨b, 0, none⟩) k cb] 46 (0, 0)))
    (hW : Below w2.heap.size w2 W) (hg5 : W.grownBy w5 (some b)) (h5 : b5 = b ∨ b5 = W.heap.size) (hl : ys.length = k') (hown : w5.ownsRow V.heap.size 3 1 (.slice (some ⟨b5, 0, none⟩) k' cb5) k' (vals ys)) :
    CpSt q K g V (w5.setCell ⟨g, 1, none⟩ (.slice (some ⟨b5, 0, none⟩) k' cb5)) ps k' := by
  have s0 := hg2.size
  have s1 := hW.size
  have s2 := hg5.size
  have hb5 : b5 ≠ g := by rcases h5 with h | h <;> omega
  have hk : ∀ i, i < w2.heap.size → i ≠ b → w5.heap[i]? = w2.heap[i]? := fun i h1 h2 => (hg5.block i (by omega) (by intro e; injection e with e; omega)).trans (hW.block i h1)
  have hg' : w5.heap[g]? = some (.cells #[.int .i64 ps, .slice (some ⟨b, 0, none⟩) k cb] 46 (0, 0)) := (hk g hlt (by omega)).trans hc
  have ho : OwnI w5 V.heap.size (some ⟨b5, 0, none⟩) cb5 ys := by unfold OwnI; rw [hl]; exact hown
  refine ⟨⟨b5, cb5, ys, (heap_set w5 g 1 _ hg').trans rfl, hl, ?_, hb5⟩, hr.keep (fun i hi => (heap_set_ne w5 g 1 i _ (by omega)).trans (hk i (by omega) (by omega))), ⟨hg5.os.trans (hW.os.trans hg2.os), hg5.tape.trans (hW.tape.trans hg2.tape), hg5.output.trans (hW.output.trans hg2.output), by simp [World.setCell]; omega, fun i hi hne => (heap_set_ne w5 g 1 i _ (by omega)).trans ((hk i (by omega) (by omega)).trans (hg2.block i hi hne))⟩, by simp [World.setCell]; omega⟩
  refine own_atP ho (fun x hx => ?_)
  injection hx with hx; subst hx
  exact heap_set_ne w5 g 1 b5 _ hb5

theorem cp_mid {w2 W w7 : World} {b g : Nat} (hW : Below w2.heap.size w2 W) (hg : W.grownBy w7 (some b)) (hlt : g < w2.heap.size) (hbg : b ≠ g) : w7.heap[g]? = w2.heap[g]? :=
  (hg.block g (Nat.lt_of_lt_of_le hlt hW.size) (by intro e; injection e with e; omega)).trans (hW.block g hlt)
theorem mk_bw {wx W w7 : World} {o : Option Nat} (_ : W.grownBy w7 o) (h : Below wx.heap.size wx W) : Hid (Below wx.heap.size wx W) := h
theorem ck_end {w V wz : World} {q base n ca cb : Nat} {ps : Int} {a b : Option Addr} {zs ys : List Int} (hw : w.heap.size < q) (hqV : q < V.heap.size) (hB : Below w.heap.size w V) (hq : q < base) (hia : IntsFrom V base a zs) (hz : zs.length ≤ 21) (hzc : zs.length ≤ ca)
    (hg : V.grownBy wz (some q)) (hib : IntsFrom wz V.heap.size b ys) (hn : ys.length = n) (hn8 : n ≤ 8) (hnc : n ≤ cb) :
    DrewCk w (.returned (.tuple #[.slice a zs.length ca, .agg #[.int .i64 ps, .slice b n cb]])) ((wz.setCell ⟨w.heap.size, 0, none⟩ (.int .i64 ps)).setCell ⟨w.heap.size, 1, none⟩ (.slice b n cb)) := by
  subst hn
  have hs : ((wz.setCell ⟨w.heap.size, 0, none⟩ (.int .i64 ps)).setCell ⟨w.heap.size, 1, none⟩ (.slice b ys.length cb)).heap.size = wz.heap.size := by simp [World.setCell]
  have hgs := hg.size
  refine ⟨a, ca, zs, b, cb, ⟨ps, ys⟩, rfl, ?_, hz, hzc, ?_, hn8, hnc, below_set2 (below_of_grown hB (by omega) hB.size hg) (Nat.le_refl _) _ _⟩
  · exact ((hia.keep hgs (fun i h1 h2 => hg.block i h2 (by intro e; injection e with e; omega))).keep (Nat.le_of_eq hs.symm) (fun i h1 h2 => set2_ne (by omega))).down (by omega)
  · exact (hib.keep (Nat.le_of_eq hs.symm) (fun i h1 h2 => set2_ne (by omega))).down (by omega)

theorem ck_drew {w w' : World} {e : Ending} (h : DrewCk w e w') : DrewCk w e w'.drew := by
  obtain ⟨a, cap, zs, b, cb, c, h1, h2, h3, h4, h5, h6, h7, h8⟩ := h
  exact ⟨a, cap, zs, b, cb, c, h1, h2, h3, h4, h5, h6, h7, h8.drew⟩

set_option maxHeartbeats 2000000 in
theorem drawChunkPut (s : Option Addr) (len cap : Nat) (w : World) (h : BytesAt w s len cap) :
    Calls Try.prog 44 #[.slice s len cap] w (DrewCk w) := by
  obtain ⟨W, hW⟩ : ∃ W, W = w.alloc (.cells #[.int .i64 0, .slice none 0 0] 46) := ⟨_, rfl⟩
  have hB : Below w.heap.size w W := by rw [hW]; exact (Below.refl _ _).alloc (Nat.le_refl _) _
  have hs : W.heap.size = w.heap.size + 1 := by rw [hW]; simp
  have HR : Hid (W.heap[w.heap.size]? = some (.cells #[.int .i64 0, .slice none 0 0] 46 (0, 0))) := by show _ = _; rw [hW]; exact heap_alloc_new w _
  have HBY : Hid (BytesAt W s len cap) := bytes_keepP h hB
  have HW := Lib.hid hW
  have HS := Lib.hid hs
  have HB := Lib.hid hB
  clear h hW hB hs
  go_enter Try.func44, Try.ntmps44
  go_wp2_with fail
  rw [← HW.out]
  refine (open_any s len cap W HBY.out).mono ?_
  rintro e w0 ⟨rfl, hr0, hb0, hz0⟩
  obtain ⟨q, hq⟩ : ∃ q, q = W.heap.size := ⟨_, rfl⟩
  rw [← hq] at hr0 hz0 ⊢
  have HQ := Lib.hid hq
  have HZ := Lib.hid hz0
  have HB0 := Lib.hid hb0
  clear hz0 hb0 hq
  go_wp2_with fail
  refine (titems_any q 14 w0 (hr0.less (by omega))).mono ?_
  rintro e w1 ⟨a, cap1, zs, rfl, hi, hl, hlc, hr1, hg1⟩
  have HL := Lib.hid hl
  have HLC := Lib.hid hlc
  have hzl : (zs.length : Int) ≤ 21 := by omega
  have sw : IntKind.i64.wrap ((zs.length : Int) + 1) = (zs.length : Int) + 1 := by rw [IntKind.wrap_i64]; omega
  have HI := Lib.hid hi
  have HG1 := Lib.hid hg1
  have hr1l := hr1.lt
  have HR1 : Hid (∀ o, Ready (w1.alloc o) q 14) := fun o => hr1.keep (fun i hi => Below.heap_alloc _ _ _ (by omega))
  have HN : Hid (w.heap.size < q ∧ q < w0.heap.size ∧ w0.heap.size ≤ w1.heap.size) := ⟨by have := HQ.out; have := HS.out; omega, by have := HZ.out; omega, hg1.size⟩
  clear hi hl hg1 hr1 hr0 hr1l
  go_wp2_with fail
  refine (pick_r q 13 _ _ (HR1.out _) (by omega) (by omega)).mono ?_
  rintro e w2 ⟨x, hx0, hx1, rfl, hr2, hk2⟩
  obtain ⟨p, rfl⟩ := Int.eq_ofNat_of_zero_le hx0
  have hp : p ≤ zs.length := by omega
  have hp2 : p ≤ cap1 := by omega
  have HP := Lib.hid hp
  have hsl := fun w => run_slcH w a zs.length cap1 p hp2
  have hcl : (cutL zs ((0 : Nat) : Int) (p : Int)).length = p := by rw [cutL_len' (by omega) hp]; omega
  have HCL := Lib.hid hcl
  have hk12 : ∀ i, i < w1.heap.size → i ≠ q → w2.heap[i]? = w1.heap[i]? := fun i h1 h2 => (hk2.block i h2).trans (Below.heap_alloc _ _ _ h1)
  have hn := HN.out
  have HS2 : Hid (w2.heap.size = w1.heap.size + 1) := by have := hk2.size; simp at this; exact this
  have hI2 : IntsFrom w2 w0.heap.size a zs := HI.out.keep (by have := HS2.out; omega) (fun i h1 h2 => hk12 i h2 (by omega))
  have HI2 := Lib.hid hI2
  have HIS : Hid (IntsAt w2 (slA a cap1 0) (cutL zs ((0 : Nat) : Int) (p : Int))) := ints_slc hI2.ints (by omega) hp HLC.out
  have HE2 : Hid (w2.ownsRow w1.heap.size 3 1 (.slice (some ⟨w1.heap.size, 0, none⟩) 0 0) 0 []) := own_empty ((hk2.block _ (by omega)).trans (heap_alloc_new w1 _)) (Nat.le_refl _)
  have HG2 : Hid (w1.grownBy w2 (some q)) := ⟨hk2.os, hk2.tape, hk2.output, by have := HS2.out; omega, fun i h1 h2 => hk12 i h1 (fun e => h2 (by rw [e]))⟩
  have HR2 := Lib.hid hr2
  have hp3 : p ≤ 1000000 := by omega
  have hbs : w1.heap.size ≤ w2.heap.size := by have := HS2.out; omega
  have HBS := Lib.hid hbs
  clear hx0 hx1 hr2 hk2 hk12 hn hI2 hp hp2 hcl hbs hlc
  go_wp2_with (at_builtin; refine wl_appS _ (by rfl) _ _ (by rfl) w1.heap.size w1.heap.size 0 0 [] (by rfl) (by exact HE2.out) (slA a cap1 0) p cap1 (cutL zs ((0 : Nat) : Int) (p : Int)) (by rfl) (by exact HCL.out) (by exact HIS.out) p (by omega) (by omega) (by exact HBS.out) ?_; intro g3 cap3 w3 hown3 hg3 hat3; have HO3 := Lib.hid hown3; have HG3 := Lib.hid hg3; have HT3 := Lib.hid hat3; clear hown3 hg3 hat3)
  obtain ⟨G, hG⟩ : ∃ G, G = cutL zs ((0 : Nat) : Int) (p : Int) := ⟨_, rfl⟩
  have hGl : G.length = p := by rw [hG]; exact HCL.out
  have HGL := Lib.hid hGl
  have HO4 : Hid (OwnI w3 w1.heap.size (some ⟨g3, 0, none⟩) cap3 G) := own_whole (n := p) (by rw [hG]; exact HO3.out) hGl
  have hn := HN.out
  have hs2 := HS2.out
  have hk23 : ∀ i, i < w1.heap.size → w3.heap[i]? = w2.heap[i]? := fun i h1 => HG3.out.block i (by omega) (by intro e; injection e with e; omega)
  have hs3 := HG3.out.size
  have HI3 : Hid (IntsFrom w3 w0.heap.size a zs) := HI.out.keep (by omega) (fun i h1 h2 => (hk23 i h2).trans (HG2.out.block i h2 (by intro e; injection e with e; omega)))
  have HG4 : Hid (w0.grownBy w3 (some q)) := ⟨HG3.out.os.trans (HG2.out.os.trans HG1.out.os), HG3.out.tape.trans (HG2.out.tape.trans HG1.out.tape), HG3.out.output.trans (HG2.out.output.trans HG1.out.output), by omega, fun i h1 h2 => (hk23 i (by omega)).trans ((HG2.out.block i (by omega) h2).trans (HG1.out.block i h1 h2))⟩
  have hr3 : Ready w3 q 13 := HR2.out.keep (fun i hi => hk23 i (by omega))
  have HS3 : Hid (w1.heap.size ≤ w3.heap.size) := by show _ ≤ _; omega
  clear hsl sw hG hGl hn hs2 hs3 hk23 HE2 HIS HCL
  refine (pick_r q 12 4 w3 hr3 (by omega) (by omega)).mono ?_
  rintro e w4 ⟨x4, hx0, hx1, rfl, hr4, hk4⟩
  have s1 : IntKind.i64.wrap ((p : Int) - x4) = (p : Int) - x4 := by rw [IntKind.wrap_i64]; omega
  obtain ⟨m, hm⟩ : ∃ m : Nat, max ((p : Int) - x4) 0 = (m : Int) := ⟨((p : Int) - x4).toNat, by omega⟩
  have hml : m ≤ p := by omega
  have HK4 := Lib.hid hk4
  clear hr3 hk4
  go_wp2_with fail
  refine (pick_r q 11 8 w4 hr4 (by omega) (by omega)).mono ?_
  rintro e w5 ⟨x5, hy0, hy1, rfl, hr5, hk5⟩
  obtain ⟨d, hd, hd1⟩ : ∃ d : Nat, x5.tdiv 7 = (d : Int) ∧ d ≤ 1 := by
    rw [Int.tdiv_eq_ediv_of_nonneg hy0]
    exact ⟨(x5 / 7).toNat, by omega, by omega⟩
  obtain ⟨A, hA⟩ : ∃ A, A = m + d := ⟨_, rfl⟩
  have s2 : IntKind.i64.wrap (d : Int) = (d : Int) := by rw [IntKind.wrap_i64]; omega
  have s3 : (m : Int) + (d : Int) = (A : Int) := by omega
  have s4 : IntKind.i64.wrap (A : Int) = (A : Int) := by rw [IntKind.wrap_i64]; omega
  have hA2 : A ≤ 22 := by have := HP.out; have := HL.out; omega
  have HA2 := Lib.hid hA2
  have hk35 : ∀ i, i ≠ q → w5.heap[i]? = w3.heap[i]? := fun i hi => (hk5.block i hi).trans (HK4.out.block i hi)
  have hs5 : w5.heap.size = w3.heap.size := hk5.size.trans HK4.out.size
  have hn := HN.out
  have HI5 : Hid (IntsFrom w5 w0.heap.size a zs) := HI3.out.keep (Nat.le_of_eq hs5.symm) (fun i h1 h2 => hk35 i (by omega))
  have HO5 : Hid (OwnI w5 w1.heap.size (some ⟨g3, 0, none⟩) cap3 G) := HO4.out.kept (fun i h1 h2 => hk35 i (by omega))
  have HG5 : Hid (w0.grownBy w5 (some q)) := grown_trans HG4.out (grown_trans HK4.out.grown hk5.grown)
  have HR5 := Lib.hid hr5
  have HS5 : Hid (w1.heap.size ≤ w5.heap.size) := by have := HS3.out; show _ ≤ _; omega
  clear hr4 hr5 hk5 hk35 hs5 hn hA2 hml hA hd1
  go_wp2_with fail
  obtain ⟨g, hg⟩ : ∃ g, g = w5.heap.size + 1 := ⟨_, rfl⟩
  have H0 : Hid (CpSt q 11 g w5 ((w5.alloc (.cells #[] 3)).alloc (.cells #[.int .i64 (A : Int), .slice (some ⟨w5.heap.size, 0, none⟩) 0 0] 46)) (A : Int) 0) := by
    have hq := HR5.out.lt
    refine ⟨⟨w5.heap.size, 0, [], ?_, rfl, ?_, by omega⟩, ?_, ?_, by simp; omega⟩
    · rw [hg]; exact heap_second w5 _ _
    · exact own_empty (heap_first w5 _ _) (Nat.le_refl _)
    · exact HR5.out.keep (fun i hi => (Below.heap_alloc _ _ _ (by simp; omega)).trans (Below.heap_alloc _ _ _ (by omega)))
    · exact grown_trans (World.grownBy_alloc w5 _ _) (World.grownBy_alloc _ _ _)
  rw [← hg]
  have HGV : Hid (w5.heap.size ≤ g) := by show _ ≤ _; omega
  have HQV := Lib.hid HR5.out.lt
  clear hg hm hd s1 s2 s3 s4 hx0 hx1 hy0 hy1
  go_loopw [9] (fun i wr => ∃ k : Nat, k ≤ 4 ∧ i = .int .i64 k ∧ CpSt q (3 + 2 * (4 - k)) g w5 wr (A : Int) k) (fun i _ => 4 - (intOf i).toNat)
  case atStart => exact ⟨0, by omega, rfl, H0.out⟩
  case round =>
    obtain ⟨k, hk, rfl, hst⟩ := hrel
    have HST := Lib.hid hst
    clear hst
    go_wp2_with fail
    refine (pick_r q (2 + 2 * (4 - k)) 4 wr (HST.out.rdy.less (by omega)) (by omega) (by omega)).mono ?_
    rintro e wa ⟨x, hx0, hx1, rfl, hra, hka⟩
    have HSa := Lib.hid (HST.out.pick HQV.out HGV.out hka hra)
    have HRa := Lib.hid hra
    have s1 : IntKind.i64.wrap (1 + x) = 1 + x := by rw [IntKind.wrap_i64]; omega
    clear hra hka
    by_cases hlt : (k : Int) < 1 + x
    · obtain ⟨M, hM⟩ : ∃ M, M = A + k := ⟨_, rfl⟩
      have s2 : (A : Int) + (k : Int) = (M : Int) := by omega
      have s3 : IntKind.i64.wrap (M : Int) = (M : Int) := by have := HA2.out; rw [IntKind.wrap_i64]; omega
      have hk3 : k ≤ 3 := by omega
      obtain ⟨b, cb, ys, hc, hyl, hown, hbg⟩ := HSa.out.ck
      obtain ⟨c0, c1⟩ := cells2 hc
      have HC := Lib.hid hc
      have HBG := Lib.hid hbg
      have HYL := Lib.hid hyl
      have HLT := Lib.hid HSa.out.lt
      have HBL := Lib.hid hown.lt
      clear hM hc hyl hbg
      by_cases hMl : M < zs.length
      · have hMi : (M : Int) < (zs.length : Int) := by omega
        have hM0 : (0 : Int) ≤ (M : Int) := by omega
        obtain ⟨b0, off, x7, ha, x7c⟩ : ∃ (b0 off : Nat) (x7 : Int), a = some ⟨b0, off, none⟩ ∧ wa.cell? ⟨b0, off + M, none⟩ = some (.int .i64 x7) := by
          rcases HI5.out with h0 | ⟨b0, off, ha, h1, h2, h3⟩
          · rw [h0] at hMl; simp at hMl
          · exact ⟨b0, off, gt zs M, ha, (World.cell?_of_block (a := ⟨b0, off + M, none⟩) (HSa.out.grown.block b0 h2 (by have := HN.out; intro e; injection e with e; omega))).trans (h3 M hMl)⟩
        subst ha
        have HOW : Hid (∀ W, Below wa.heap.size wa W → W.ownsRow w5.heap.size 3 1 (.slice (some ⟨b, 0, none⟩) k cb) k (vals ys)) := fun W hb => by
          have h := hown.kept (w' := W) (fun i h1 h2 => hb.block i h2)
          unfold OwnI at h; rw [HYL.out] at h; exact h
        have HSB : Hid (∀ W, Below wa.heap.size wa W → w5.heap.size ≤ W.heap.size) := fun W hb => Nat.le_trans HSa.out.grown.size hb.size
        have c1a : ∀ o, (wa.alloc o).cell? ⟨g, 1, none⟩ = some (.slice (some ⟨b, 0, none⟩) k cb) := fun o => (World.cell?_of_block (a := ⟨g, 1, none⟩) (Below.heap_alloc _ _ _ HLT.out)).trans c1
        have c1b : ∀ o, (wa.drew.alloc o).cell? ⟨g, 1, none⟩ = some (.slice (some ⟨b, 0, none⟩) k cb) := fun o => (World.cell?_of_block (a := ⟨g, 1, none⟩) (Below.heap_alloc wa.drew _ _ HLT.out)).trans c1
        clear hown hMl
        go_wp2_with fail
        go_region_law ((first
          | (refine step_app (o := ⟨some 58, _, _, _, _, _⟩) _ (by rfl) (.tmp 50) (.tmp 57) (by rfl) w5.heap.size b k cb (vals ys) (by rfl) (HOW.out _ (by repeat (first | exact Below.refl _ _ | apply Below.drew | (refine Below.alloc ?_ (by first | exact Nat.le_refl _ | (simp; done) | (simp; omega) | omega) _)))) ⟨_, 0, none⟩ 1 1 [.int .i64 x7] (by rfl) rfl (src_one (by exact heap_alloc_new _ _)) (by simp [Value.oneCell']) (k + 1) (vals (ys ++ [x7])) rfl (by simp [vals]) (by omega) (HSB.out _ (by repeat (first | exact Below.refl _ _ | apply Below.drew | (refine Below.alloc ?_ (by first | exact Nat.le_refl _ | (simp; done) | (simp; omega) | omega) _)))) ?_
             intro b5 cb5 w7 hown7 hg7 hat7
             have HBW := mk_bw (wx := wa) hg7 (by repeat (first | exact Below.refl _ _ | apply Below.drew | (refine Below.alloc ?_ (by first | exact Nat.le_refl _ | (simp; done) | (simp; omega) | omega) _)))
             have HG7 := Lib.hid hg7
             have HO7 := Lib.hid hown7
             have HT7 := Lib.hid hat7
             have hc7 := cells2 ((cp_mid HBW.out HG7.out HLT.out HBG.out).trans HC.out)
             have f7 := frozen_of_cells ((cp_mid HBW.out HG7.out HLT.out HBG.out).trans HC.out) 1
             obtain ⟨e0, e1⟩ := hc7
             clear hown7 hg7 hat7)))
        all_goals
          go_wp2
          go_roundw
          case rel => exact ⟨k + 1, by omega, by go_num, (cp_app HQV.out HGV.out HSa.out.grown HRa.out HLT.out HBL.out.1 HBG.out HC.out HBW.out HG7.out HT7.out (by rw [List.length_append, HYL.out]; rfl) HO7.out).less (by omega)⟩
          case measure => simp [intOf]; omega
      · have hMi : ¬ (M : Int) < (zs.length : Int) := by omega
        clear hMl
        go_wp2_with fail
        go_region_law ((first
          | (refine step_app (o := ⟨some 65, _, _, _, _, _⟩) _ (by rfl) (.tmp 61) (.tmp 64) (by rfl) w5.heap.size b k cb (vals ys) (by rfl) (HOW.out _ (by repeat (first | exact Below.refl _ _ | apply Below.drew | (refine Below.alloc ?_ (by first | exact Nat.le_refl _ | (simp; done) | (simp; omega) | omega) _)))) ⟨_, 0, none⟩ 1 1 [.int .i64 x7] (by rfl) rfl (src_one (by exact heap_alloc_new _ _)) (by simp [Value.oneCell']) (k + 1) (vals (ys ++ [x7])) rfl (by simp [vals]) (by omega) (HSB.out _ (by repeat (first | exact Below.refl _ _ | apply Below.drew | (refine Below.alloc ?_ (by first | exact Nat.le_refl _ | (simp; done) | (simp; omega) | omega) _)))) ?_
             intro b5 cb5 w7 hown7 hg7 hat7
             have HBW := mk_bw (wx := wb) hg7 (by repeat (first | exact Below.refl _ _ | apply Below.drew | (refine Below.alloc ?_ (by first | exact Nat.le_refl _ | (simp; done) | (simp; omega) | omega) _)))
             have HG7 := Lib.hid hg7
             have HO7 := Lib.hid hown7
             have HT7 := Lib.hid hat7
             have hc7 := cells2 ((cp_mid HBW.out HG7.out HLB.out HBG.out).trans HCB.out)
             have f7 := frozen_of_cells ((cp_mid HBW.out HG7.out HLB.out HBG.out).trans HCB.out) 1
             obtain ⟨e0, e1⟩ := hc7
             clear hown7 hg7 hat7)
          | (go_simp
             go_at_call 59
             refine (pick_r q (1 + 2 * (4 - k)) 250 _ ?hrdy ?hp1 ?hp2).mono ?_
             case hrdy => exact (HRa.out.less (by omega)).keep (fun _ _ => rfl)
             case hp1 => omega
             case hp2 => omega
             rintro e wb ⟨x7, hx70, hx71, rfl, hrb, hkb⟩
             have HKB : Hid (Kept q wa wb) := ⟨hkb.os, hkb.tape, hkb.output, hkb.size, hkb.block⟩
             have HRB := Lib.hid hrb
             have hcb := (HKB.out.block g (by have := HGV.out; have := HQV.out; omega)).trans HC.out
             have HCB := Lib.hid hcb
             have HLB : Hid (g < wb.heap.size) := heap_lt hcb
             have c1b := (cells2 hcb).2
             have c1c : ∀ o, (wb.alloc o).cell? ⟨g, 1, none⟩ = some (.slice (some ⟨b, 0, none⟩) k cb) := fun o => (World.cell?_of_block (a := ⟨g, 1, none⟩) (Below.heap_alloc _ _ _ HLB.out)).trans c1b
             have HOW : Hid (∀ W, Below wb.heap.size wb W → W.ownsRow w5.heap.size 3 1 (.slice (some ⟨b, 0, none⟩) k cb) k (vals ys)) := (fun W hb => (by
               have h := (hown.kept (w' := wb) (fun i h1 h2 => HKB.out.block i (by have := HQV.out; omega))).kept (w' := W) (fun i h1 h2 => hb.block i h2)
               unfold OwnI at h; rw [HYL.out] at h; exact h))
             have HSB : Hid (∀ W, Below wb.heap.size wb W → w5.heap.size ≤ W.heap.size) := (fun W hb => Nat.le_trans HSa.out.grown.size (Nat.le_trans (Nat.le_of_eq HKB.out.size.symm) hb.size))
             clear hrb hkb hcb)))
        all_goals
          go_wp2
          go_roundw
          case rel => exact ⟨k + 1, by omega, by go_num, (cp_app HQV.out HGV.out (grown_trans HSa.out.grown HKB.out.grown) HRB.out HLB.out HBL.out.1 HBG.out HCB.out HBW.out HG7.out HT7.out (by rw [List.length_append, HYL.out]; rfl) HO7.out).less (by omega)⟩
          case measure => simp [intOf]; omega
    · have hk1 : 1 ≤ k := by omega
      have hn := HN.out
      have hbV : Below w.heap.size w w5 := by
        have h1 : Below w.heap.size w w0 := HB.out.trans (HB0.out.mono HB.out.size)
        exact below_of_grown h1 (by omega) h1.size HG5.out
      have HBV : Hid (w.heap.size < w5.heap.size) := by have := HQV.out; show _ < _; omega
      have HRV : Hid (w5.heap[w.heap.size]? = some (.cells #[.int .i64 0, .slice none 0 0] 46 (0, 0))) := (HG5.out.block _ (by omega) (by intro e; injection e with e; omega)).trans ((HB0.out.block _ (by have := HS.out; omega)).trans HR.out)
      have HEND : Hid (∀ (wz : World) (ps : Int) (b : Nat) (n cb : Nat) (ys : List Int), w5.grownBy wz (some q) → IntsFrom wz w5.heap.size (some ⟨b, 0, none⟩) ys → ys.length = n → n ≤ 8 → n ≤ cb →
          DrewCk w (.returned (.tuple #[.slice (some ⟨g3, 0, none⟩) p cap3, .agg #[.int .i64 ps, .slice (some ⟨b, 0, none⟩) n cb]])) ((wz.setCell ⟨w.heap.size, 0, none⟩ (.int .i64 ps)).setCell ⟨w.heap.size, 1, none⟩ (.slice (some ⟨b, 0, none⟩) n cb))) := by
        intro wz ps b n cb ys h1 h2 h3 h4 h5
        have hc := HO5.out.cap_le.1
        rw [← HGL.out]
        exact ck_end hn.1 HQV.out hbV (by omega : q < w1.heap.size) HO5.out.froms (by have := HGL.out; have := HP.out; have := HL.out; omega) hc h1 h2 h3 h4 h5
      clear hn hbV
      go_wp2_with fail
      clear s1 hlt
      refine (pick_r q (1 + 2 * (4 - k)) 12 wa (HRa.out.less (by omega)) (by omega) (by omega)).mono ?_
      rintro e we ⟨y, hy0, hy1, rfl, hre, hke⟩
      have HSe := Lib.hid (HSa.out.pick HQV.out HGV.out hke hre)
      have HRe := Lib.hid hre
      obtain ⟨b, cb, ys, hc, hyl, hown, hbg⟩ := HSe.out.ck
      obtain ⟨c0, c1⟩ := cells2 hc
      have HC := Lib.hid hc
      have HBG := Lib.hid hbg
      have HYL := Lib.hid hyl
      have HLT := Lib.hid HSe.out.lt
      have HBL := Lib.hid hown.lt
      have HCB := Lib.hid hown.cap_le.1
      have HGe := Lib.hid HSe.out.grown
      have HOe := Lib.hid hown
      have hgq : g ≠ q := by have := HGV.out; have := HQV.out; omega
      have hbq : b ≠ q := by have := HBL.out.1; have := HQV.out; omega
      clear hre hke hc hyl hown hbg hx0 hx1
      by_cases y0 : y = 0
      · subst y0
        have hk1' : (0 : Int) < (k : Int) := by omega
        go_wp2_with fail
        have HF : Hid (∀ w', Kept q we w' → w'.heap[g]? = some (.cells #[.int .i64 (A : Int), .slice (some ⟨b, 0, none⟩) k cb] 46 (0, 0)) ∧ OwnI w' w5.heap.size (some ⟨b, 0, none⟩) cb ys) := fun w' hk => ⟨(hk.block g hgq).trans HC.out, HOe.out.kept (fun i h1 h2 => hk.block i (by have := HQV.out; omega))⟩
        go_region_with ((go_at_call 59; refine (pick_r q (2 * (4 - k)) 250 _ (by exact (HRe.out.less (by omega)).keep (fun _ _ => rfl)) (by omega) (by omega)).mono ?_; rintro e w8 ⟨v, hv0, hv1, rfl, hr8, hk8⟩; have HK8 : Hid (Kept q we w8) := ⟨hk8.os, hk8.tape, hk8.output, hk8.size, hk8.block⟩; have hf8 := HF.out w8 HK8.out; have e1 := (cells2 hf8.1).2; obtain ⟨e2, e3⟩ := own_openT hf8.2 (i := 0) (by have := HYL.out; omega); clear hf8 hr8 hk8))
        all_goals
          obtain ⟨wz, hwz⟩ : ∃ wz, wz = w8.setCell ⟨b, 0, none⟩ (.int .i64 v) := ⟨_, rfl⟩
          have HF8 := Lib.hid (HF.out w8 HK8.out)
          have HZ9 : Hid (wz.heap[g]? = some (.cells #[.int .i64 (A : Int), .slice (some ⟨b, 0, none⟩) k cb] 46 (0, 0))) := by show _ = _; rw [hwz, heap_set_ne _ _ _ _ _ (Ne.symm HBG.out)]; exact HF8.out.1
          have HG9 : Hid (w5.grownBy wz (some q)) := by
            have h1 := grown_trans HGe.out HK8.out.grown
            show w5.grownBy wz _
            rw [hwz]
            exact ⟨h1.os, h1.tape, h1.output, by simpa [World.setCell] using h1.size, fun i hi hne => (heap_set_ne _ _ _ _ _ (by have := HBL.out.1; omega)).trans (h1.block i hi hne)⟩
          have HI9 : Hid (IntsFrom wz w5.heap.size (some ⟨b, 0, none⟩) (ys.set 0 v)) := by show IntsFrom wz _ _ _; rw [hwz]; exact (HF8.out.2.set (by have := HYL.out; omega) v).froms
          have HN9 : Hid ((ys.set 0 v).length = k) := by show _ = _; rw [List.length_set]; exact HYL.out
          have HC9 : Hid (k ≤ cb) := by have := HCB.out; have := HYL.out; show k ≤ cb; omega
          have HWZ := Lib.hid hwz
          clear hwz c0 c1 e1 e2 e3
          rw [← HWZ.out]
          obtain ⟨i0, i1⟩ := cells2 HZ9.out
          have HRZ := (HG9.out.block _ HBV.out (by have := HN.out; intro e; injection e with e; omega)).trans HRV.out
          obtain ⟨z0, z1⟩ := cells2 HRZ
          have z2 := frozen_of_cells HRZ 0
          have z3 := frozen_of_cells HRZ 1
          clear HRZ
          go_wp2_with fail
          go_region_with (fail)
          all_goals
            go_wp2
            refine bodyPost_ret (res_tc rfl _ _ w.heap.size _ #[.int .i64 (A : Int), .slice (some ⟨b, 0, none⟩) k cb] (0, 0) _ rfl (set2 ((HG9.out.block _ HBV.out (by have := HN.out; intro e; injection e with e; omega)).trans HRV.out)) Try.underlying46 rfl (by kernel_rfl)) rfl ?_
            exact ck_drew (HEND.out _ _ _ _ _ _ HG9.out HI9.out HN9.out (by omega) HC9.out)
      have yB0 : (y == 0) = false := by simp [y0]
      by_cases y1 : y = 1
      · subst y1
        go_wp2_with fail
        refine (pick_r q (2 * (4 - k)) 23 we (HRe.out.less (by omega)) (by omega) (by omega)).mono ?_
        rintro e w8 ⟨v, hv0, hv1, rfl, hr8, hk8⟩
        have s1 : IntKind.i64.wrap (v - 1) = v - 1 := by rw [IntKind.wrap_i64]; omega
        have hg8 : w8.heap[g]? = some (.cells #[.int .i64 (A : Int), .slice (some ⟨b, 0, none⟩) k cb] 46 (0, 0)) := (hk8.block g hgq).trans HC.out
        have HG8 := Lib.hid hg8
        obtain ⟨e0, e1⟩ := cells2 hg8
        have e2 := frozen_of_cells hg8 0
        obtain ⟨wz, hwz⟩ : ∃ wz, wz = w8.setCell ⟨g, 0, none⟩ (.int .i64 (v - 1)) := ⟨_, rfl⟩
        have HZ9 : Hid (wz.heap[g]? = some (.cells #[.int .i64 (v - 1), .slice (some ⟨b, 0, none⟩) k cb] 46 (0, 0))) := by show _ = _; rw [hwz, heap_set _ _ _ _ hg8]; rfl
        have HG9 : Hid (w5.grownBy wz (some q)) := by
          have h1 := grown_trans HGe.out hk8.grown
          show w5.grownBy wz _
          rw [hwz]
          exact ⟨h1.os, h1.tape, h1.output, by simpa [World.setCell] using h1.size, fun i hi hne => (heap_set_ne _ _ _ _ _ (by have := HGV.out; omega)).trans (h1.block i hi hne)⟩
        have HI9 : Hid (IntsFrom wz w5.heap.size (some ⟨b, 0, none⟩) ys) := by
          show IntsFrom wz _ _ _
          rw [hwz]
          refine (own_atP (HOe.out.kept (fun i h1 h2 => hk8.block i (by have := HQV.out; omega))) (fun x hx => ?_)).froms
          injection hx with hx; subst hx
          exact heap_set_ne _ _ _ _ _ HBG.out
        have HN9 : Hid (ys.length = k) := HYL.out
        have HC9 : Hid (k ≤ cb) := by have := HCB.out; have := HYL.out; show k ≤ cb; omega
        have HWZ := Lib.hid hwz
        clear hwz hg8 hr8 hk8 c0 c1
        go_wp2_with fail
        rw [← HWZ.out]
        obtain ⟨i0, i1⟩ := cells2 HZ9.out
        have HRZ := (HG9.out.block _ HBV.out (by have := HN.out; intro e; injection e with e; omega)).trans HRV.out
        obtain ⟨z0, z1⟩ := cells2 HRZ
        have z2 := frozen_of_cells HRZ 0
        have z3 := frozen_of_cells HRZ 1
        clear HRZ
        go_wp2_with fail
        go_region_with (fail)
        all_goals
          go_wp2
          refine bodyPost_ret (res_tc rfl _ _ w.heap.size _ #[.int .i64 (v - 1), .slice (some ⟨b, 0, none⟩) k cb] (0, 0) _ rfl (set2 ((HG9.out.block _ HBV.out (by have := HN.out; intro e; injection e with e; omega)).trans HRV.out)) Try.underlying46 rfl (by kernel_rfl)) rfl ?_
          exact ck_drew (HEND.out _ _ _ _ _ _ HG9.out HI9.out HN9.out (by omega) HC9.out)
      have yB1 : (y == 1) = false := by simp [y1]
      by_cases y2 : y = 2
      · subst y2
        have HOW : Hid (we.ownsRow w5.heap.size 3 1 (.slice (some ⟨b, 0, none⟩) k cb) k (vals ys)) := by
          have h := HOe.out
          unfold OwnI at h; rw [HYL.out] at h; exact h
        have HSB : Hid (w5.heap.size ≤ we.heap.size) := HGe.out.size
        have hvl : (vals ys).length = k := by rw [vals_len]; exact HYL.out
        have HVL := Lib.hid hvl
        clear hvl
        go_wp2_with (at_builtin; refine wl_app _ (by rfl) _ _ (by rfl) w5.heap.size b k cb (vals ys) (by rfl) (by exact HOW.out) ⟨b, 0, none⟩ k cb (vals ys) (by rfl) (by exact HVL.out) (src_self (by exact HOe.out)) (vals_one _) (k + k) (vals (ys ++ ys)) rfl (by simp [vals]) (by omega) (by exact HSB.out) ?_; intro b5 cb5 w7 hown7 hg7 hat7; have HO7 := Lib.hid hown7; have HG7 := Lib.hid hg7; have HT7 := Lib.hid hat7; have hc7 := (cp_mid (Below.refl _ _) HG7.out HLT.out HBG.out).trans HC.out; obtain ⟨e0, e1⟩ := cells2 hc7; have e2 := frozen_of_cells hc7 1; clear hown7 hg7 hat7 hc7)
        have hst := cp_app (K := 0) (k' := k + k) HQV.out HGV.out HGe.out (HRe.out.less (Nat.zero_le _)) HLT.out HBL.out.1 HBG.out HC.out (Below.refl _ _) HG7.out HT7.out (by rw [List.length_append, HYL.out]) HO7.out
        obtain ⟨wz, hwz⟩ : ∃ wz, wz = w7.setCell ⟨g, 1, none⟩ (.slice (some ⟨b5, 0, none⟩) (k + k) cb5) := ⟨_, rfl⟩
        rw [← hwz] at hst ⊢
        obtain ⟨b9, cb9, ys9, hz9, hyl9, hown9, hbg9⟩ := hst.ck
        have HZ9 := Lib.hid hz9
        have HG9 := Lib.hid hst.grown
        have HI9 := Lib.hid hown9.froms
        have HN9 := Lib.hid hyl9
        have HC9 : Hid (k + k ≤ cb9) := by have := hown9.cap_le.1; show _ ≤ _; omega
        clear hst hwz hz9 hyl9 hown9 hbg9 c0 c1 e0 e1 e2
        obtain ⟨i0, i1⟩ := cells2 HZ9.out
        have HRZ := (HG9.out.block _ HBV.out (by have := HN.out; intro e; injection e with e; omega)).trans HRV.out
        obtain ⟨z0, z1⟩ := cells2 HRZ
        have z2 := frozen_of_cells HRZ 0
        have z3 := frozen_of_cells HRZ 1
        clear HRZ
        go_wp2_with fail
        go_region_with (fail)
        all_goals
          go_wp2
          refine bodyPost_ret (res_tc rfl _ _ w.heap.size _ #[.int .i64 (A : Int), .slice (some ⟨b9, 0, none⟩) (k + k) cb9] (0, 0) _ rfl (set2 ((HG9.out.block _ HBV.out (by have := HN.out; intro e; injection e with e; omega)).trans HRV.out)) Try.underlying46 rfl (by kernel_rfl)) rfl ?_
          exact ck_drew (HEND.out _ _ _ _ _ _ HG9.out HI9.out HN9.out (by omega) HC9.out)
      have yB2 : (y == 2) = false := by simp [y2]
      by_cases y3 : y = 3
      · subst y3
        have hs0 := fun w => run_slc0 w b k cb
        have e2 := frozen_of_cells HC.out 1
        go_wp2_with fail
        obtain ⟨wz, hwz⟩ : ∃ wz, wz = we.setCell ⟨g, 1, none⟩ (.slice (some ⟨b, 0, none⟩) 0 cb) := ⟨_, rfl⟩
        rw [← hwz]
        have HZ9 : Hid (wz.heap[g]? = some (.cells #[.int .i64 (A : Int), .slice (some ⟨b, 0, none⟩) 0 cb] 46 (0, 0))) := by show _ = _; rw [hwz, heap_set _ _ _ _ HC.out]; rfl
        have HG9 : Hid (w5.grownBy wz (some q)) := by
          have h1 := HGe.out
          show w5.grownBy wz _
          rw [hwz]
          exact ⟨h1.os, h1.tape, h1.output, by simpa [World.setCell] using h1.size, fun i hi hne => (heap_set_ne _ _ _ _ _ (by have := HGV.out; omega)).trans (h1.block i hi hne)⟩
        have HI9 : Hid (IntsFrom wz w5.heap.size (some ⟨b, 0, none⟩) []) := .inl rfl
        have HN9 : Hid (([] : List Int).length = 0) := rfl
        have HC9 : Hid (0 ≤ cb) := Nat.zero_le _
        clear hwz c0 c1 e2 hs0
        obtain ⟨i0, i1⟩ := cells2 HZ9.out
        have HRZ := (HG9.out.block _ HBV.out (by have := HN.out; intro e; injection e with e; omega)).trans HRV.out
        obtain ⟨z0, z1⟩ := cells2 HRZ
        have z2 := frozen_of_cells HRZ 0
        have z3 := frozen_of_cells HRZ 1
        clear HRZ
        go_wp2_with fail
        go_region_with (fail)
        all_goals
          go_wp2
          refine bodyPost_ret (res_tc rfl _ _ w.heap.size _ #[.int .i64 (A : Int), .slice (some ⟨b, 0, none⟩) 0 cb] (0, 0) _ rfl (set2 ((HG9.out.block _ HBV.out (by have := HN.out; intro e; injection e with e; omega)).trans HRV.out)) Try.underlying46 rfl (by kernel_rfl)) rfl ?_
          exact ck_drew (HEND.out _ _ _ _ _ _ HG9.out HI9.out HN9.out (by omega) HC9.out)
      have yB3 : (y == 3) = false := by simp [y3]
      have HZ9 := HC
      have HG9 := HGe
      have HI9 := Lib.hid HOe.out.froms
      have HN9 := HYL
      have HC9 : Hid (k ≤ cb) := by have := HCB.out; have := HYL.out; show k ≤ cb; omega
      clear c0 c1
      obtain ⟨i0, i1⟩ := cells2 HZ9.out
      have HRZ := (HG9.out.block _ HBV.out (by have := HN.out; intro e; injection e with e; omega)).trans HRV.out
      obtain ⟨z0, z1⟩ := cells2 HRZ
      have z2 := frozen_of_cells HRZ 0
      have z3 := frozen_of_cells HRZ 1
      clear HRZ
      go_wp2_with fail
      go_region_with (fail)
      all_goals
        go_wp2
        refine bodyPost_ret (res_tc rfl _ _ w.heap.size _ #[.int .i64 (A : Int), .slice (some ⟨b, 0, none⟩) k cb] (0, 0) _ rfl (set2 ((HG9.out.block _ HBV.out (by have := HN.out; intro e; injection e with e; omega)).trans HRV.out)) Try.underlying46 rfl (by kernel_rfl)) rfl ?_
        exact ck_drew (HEND.out _ _ _ _ _ _ HG9.out HI9.out HN9.out (by omega) HC9.out)
end Go.Proofs.Ytedbgfeojocbpaa
