/- CopyS · SetS · StepMath · StepS · StepS2 · StepS3 · StepS4 · CutS · JoinMath2 · JoinS -/
import Derived.Test.YtcbbdhmloniolaaRowsN
import Derived.Test.YtcbbdhmloniolaaExactNew
import Derived.Test.YtcbbdhmloniolaaStepMath
import Derived.Deep.RegionLaw
namespace Go.Proofs.Ytcbbdhmloniolaa

/- Copies of rings in the model; a ring with another node at a place. -/

section
open Go.RowKit
set_option linter.unusedVariables false


/-- the successors of each node in a block of its own, from block lo on -/
def OwnL (w : World) (lo : Nat) (L : List (Nd × Value)) (F : Nat → Nat) : Prop :=
  (∀ i p, L[i]? = some p → (∃ c, p.2 = .slice (some ⟨F i, 0, none⟩) p.1.aft.length c ∧ p.1.aft.length ≤ c ∧ c ≤ maxLen) ∧ IntsBlk w (F i) p.1.aft ∧ lo ≤ F i) ∧ ∀ i j, i < L.length → j < L.length → F i = F j → i = j
theorem IntsBlk.lt {w : World} {f : Nat} {zs : List Int} (h : IntsBlk w f zs) : f < w.heap.size := by obtain ⟨_, h, _⟩ := h; exact heap_lt h
theorem IntsBlk.ne {w : World} {f g : Nat} {zs : List Int} {cs : Array Value} (h : IntsBlk w f zs) (hg : w.heap[g]? = some (.cells cs 28 (0, 0))) : f ≠ g := by
  intro e
  obtain ⟨_, h, _⟩ := h
  rw [e, hg] at h; injection h with h; injection h with _ h; exact absurd h (by decide)
theorem OwnL.kept {w w' : World} {lo : Nat} {L : List (Nd × Value)} {F : Nat → Nat} (h : OwnL w lo L F) (hk : ∀ i, i < L.length → w'.heap[F i]? = w.heap[F i]?) : OwnL w' lo L F := by
  refine ⟨fun i p hp => ?_, h.2⟩
  obtain ⟨h1, h2, h3⟩ := h.1 i p hp
  exact ⟨h1, h2.kept (hk i (List.getElem?_eq_some_iff.1 hp).1), h3⟩
theorem own_of_row {w : World} {lo base N cap : Nat} {L : List (Nd × Value)} {F : Nat → Nat} {r : List Nd} (h : RowL w base N cap L) (ho : OwnL w lo L F) (hr : L.map (·.1) = r) (hlo : lo ≤ N) : RingOwn w lo w.heap.size N r F := by
  obtain ⟨_, hN, cs, hb, _, _, _, hc⟩ := h.blk
  subst hr
  have hat : ∀ i, i < (L.map (·.1)).length → ∃ p, L[i]? = some p ∧ gn (L.map (·.1)) i = p.1 := fun i hi => by
    have hi' : i < L.length := by simpa using hi
    exact ⟨L[i], List.getElem?_eq_getElem hi', by rw [gn_get hi]; simp⟩
  refine ⟨⟨cs, hb, fun i hi => ?_⟩, fun i hi => ?_, ⟨hlo, hN⟩, fun i hi => ?_, fun i j hi hj => ho.2 i j (by simpa using hi) (by simpa using hj)⟩
  · obtain ⟨p, hp, e⟩ := hat i hi
    obtain ⟨f1, f2, f3⟩ := flatL_at hp
    obtain ⟨⟨c, hv, h1, h2⟩, _, _⟩ := ho.1 i p hp
    rw [e]
    exact ⟨hc _ _ f1, hc _ _ f2, c, by rw [← hv]; exact hc _ _ f3, h1, h2⟩
  · obtain ⟨p, hp, e⟩ := hat i hi
    rw [e]; exact (ho.1 i p hp).2.1
  · obtain ⟨p, hp, e⟩ := hat i hi
    obtain ⟨_, h2, h3⟩ := ho.1 i p hp
    exact ⟨h3, h2.lt, h2.ne hb⟩
theorem OwnL.add {w : World} {lo : Nat} {L : List (Nd × Value)} {F : Nat → Nat} {n : Nd} {f c : Nat} (h : OwnL w lo L F) (hi : IntsBlk w f n.aft) (hf : lo ≤ f) (hn : ∀ i, i < L.length → F i ≠ f) (h1 : n.aft.length ≤ c) (h2 : c ≤ maxLen) :
    OwnL w lo (L ++ [(n, .slice (some ⟨f, 0, none⟩) n.aft.length c)]) (fun i => if i = L.length then f else F i) := by
  refine ⟨fun i p hp => ?_, fun i j hi hj he => ?_⟩
  · by_cases e : i = L.length
    · subst e
      rw [List.getElem?_append_right (Nat.le_refl _)] at hp
      simp at hp
      subst hp
      simp only [↓reduceIte]
      exact ⟨⟨c, rfl, h1, h2⟩, hi, hf⟩
    · simp only [if_neg e]
      have hlt : i < L.length := by
        have := (List.getElem?_eq_some_iff.1 hp).1
        simp at this; omega
      rw [List.getElem?_append_left hlt] at hp
      exact h.1 i p hp
  · simp at hi hj
    by_cases e1 : i = L.length
    · by_cases e2 : j = L.length
      · omega
      · simp only [if_pos e1, if_neg e2] at he
        exact absurd he.symm (hn j (by omega))
    · by_cases e2 : j = L.length
      · simp only [if_neg e1, if_pos e2] at he
        exact absurd he (hn i (by omega))
      · simp only [if_neg e1, if_neg e2] at he
        exact h.2 i j (by omega) (by omega) he

/-- a new ring in blocks of its own -/
def NewOwn (r : List Nd) (w : World) (e : Ending) (w' : World) : Prop :=
  ∃ N cap F, e = .returned (.slice (some ⟨N, 0, none⟩) r.length cap) ∧ RingOwn w' w.heap.size w'.heap.size N r F ∧ r.length ≤ cap ∧ cap ≤ maxLen ∧ Below w.heap.size w w'
/-- at the head of the loop of l3Copy -/
def CopyAt (r : List Nd) (w : World) (k : Nat) (v : Value) (wr : World) : Prop :=
  ∃ L F, L.map (·.1) = r.take k ∧ RowSoFar L w v wr ∧ OwnL wr w.heap.size L F
theorem take_gn {r : List Nd} {k : Nat} (h : k < r.length) : r.take (k + 1) = r.take k ++ [gn r k] := by rw [List.take_succ_eq_append_getElem h, gn_get h]

theorem alloc_past (w : World) (p : Addr) (u : Value) {o : Obj} : ((w.setCell p u).alloc o).heap[w.heap.size]? = some o := by
  have h := heap_alloc_new (w.setCell p u) o
  have e : (w.setCell p u).heap.size = w.heap.size := by simp [World.setCell]
  rwa [e] at h
theorem src_two {W : World} {b o : Nat} {x y : Int} (h0 : W.cell? ⟨b, o, none⟩ = some (.int .i64 x)) (h1 : W.cell? ⟨b, o + 1, none⟩ = some (.int .i64 y)) :
    ∀ j u, (vals [x, y])[j]? = some u → W.cell? ((⟨b, o, none⟩ : Addr).add j) = some u := by
  intro j u hu
  rw [add_plain]
  rcases j with _ | _ | j
  · simp [vals] at hu; subst hu; exact h0
  · simp [vals] at hu; subst hu; exact h1
  · simp [vals] at hu
theorem own_blk {w : World} {base g n cap : Nat} {zs : List Int} (h : w.ownsRow base 3 1 (.slice (some ⟨g, 0, none⟩) n cap) n (vals zs)) (hn : zs.length = n) : IntsBlk w g zs ∧ base ≤ g ∧ n ≤ cap ∧ cap ≤ maxLen := by
  subst hn
  rcases h.2 with ⟨hn, _⟩ | ⟨g', cap', cur, hv, hb, hg, hnc, hcm, hs, ht⟩
  · cases hn
  · injection hv with hv _ hc; injection hv with hv; injection hv with hv; subst hv hc
    refine ⟨⟨cur, hg, fun j hj => ?_⟩, hb, hnc, hcm⟩
    have h1 := vals_get hj
    rw [← ht, List.getElem?_take, if_pos (by omega)] at h1
    simpa using h1

theorem IntsBlk.toOff {w : World} {f g : Nat} {x y : Int} {c : Nat} (h : IntsBlk w f [x, y]) (hg : f ≠ g) (h1 : 2 ≤ c) (h2 : c ≤ maxLen) : IntsOff w g (.slice (some ⟨f, 0, none⟩) 2 c) [x, y] := by
  obtain ⟨cs, hb, hc⟩ := h
  exact ⟨some ⟨f, 0, none⟩, c, rfl, h1, h2, .inr ⟨f, 0, rfl, hg, heap_lt hb, fun i hi => by rw [Nat.zero_add, cell_of_cells hb]; exact hc i hi⟩⟩
/-- the worlds of a round of l3Copy: wo, then the variable's block, then a new row of successors in block g3 (world w3), then the field is set (world W2) -/
theorem round_world {wo w3 : World} {o1 : Obj} {g3 cap3 : Nat} {x y : Int} {cs : Array Value} (hg3 : ((wo.alloc o1).alloc (.cells cs 3)).grownBy w3 (some (wo.heap.size + 1))) (hown3 : w3.ownsRow wo.heap.size 3 1 (.slice (some ⟨g3, 0, none⟩) 2 cap3) 2 (vals [x, y])) (hat3 : g3 = wo.heap.size + 1 ∨ g3 = wo.heap.size + 1 + 1) (u : Value) (o2 : Obj) :
    Below wo.heap.size wo ((w3.setCell ⟨wo.heap.size, 2, none⟩ u).alloc o2) ∧ IntsBlk ((w3.setCell ⟨wo.heap.size, 2, none⟩ u).alloc o2) g3 [x, y] ∧ wo.heap.size < g3 ∧ g3 < w3.heap.size ∧ 2 ≤ cap3 ∧ cap3 ≤ maxLen ∧ w3.heap[wo.heap.size]? = some o1 := by
  obtain ⟨hb, h1, h2, h3⟩ := own_blk hown3 rfl
  have h4 := hb.lt
  have hz := hg3.size
  simp at hz
  refine ⟨?_, ?_, by omega, h4, h2, h3, ?_⟩
  · have hB : Below wo.heap.size wo w3 := Below.grown (((Below.refl _ _).alloc (Nat.le_refl _) o1).alloc (by simp) _) hg3 (by simp; omega) (fun q hq => by injection hq with hq; omega)
    exact (hB.setCell (p := ⟨wo.heap.size, 2, none⟩) (Nat.le_refl _) u).alloc (by simp [World.setCell]; omega) _
  · refine hb.kept ((Below.heap_alloc _ o2 g3 (by simp [World.setCell]; exact h4)).trans (heap_set_ne _ _ _ _ _ (by omega)))
  · exact (hg3.block wo.heap.size (by simp; omega) (by intro e; injection e with e; omega)).trans (heap_first wo o1 _)
theorem copy_step {r : List Nd} {w wo W2 w5 : World} {k g gc g3 cap3 g5 cap5 : Nat} {L : List (Nd × Value)} {F : Nat → Nat} {n : Nd} {x y : Int} (hk : k < r.length) (hn : gn r k = n) (ha : n.aft = [x, y]) (hLm : L.map (·.1) = r.take k)
    (hrow : RowL wo w.heap.size g gc L) (hbel : Below w.heap.size w wo) (ho : OwnL wo w.heap.size L F) (hB : Below wo.heap.size wo W2) (hi : IntsBlk W2 g3 [x, y]) (h3 : wo.heap.size < g3) (h31 : 2 ≤ cap3) (h32 : cap3 ≤ maxLen)
    (hg5 : W2.grownBy w5 (some g)) (hrow5 : RowL w5 w.heap.size g5 cap5 (L ++ [(n, .slice (some ⟨g3, 0, none⟩) 2 cap3)])) : CopyAt r w (k + 1) (.slice (some ⟨g5, 0, none⟩) (L.length + 1) cap5) w5 := by
  obtain ⟨hg1, hg2, cs, hgb, _⟩ := hrow.blk
  have hz := hB.size
  have hl2 : n.aft.length = 2 := by rw [ha]; rfl
  have hF : ∀ i, i < L.length → F i < wo.heap.size ∧ F i ≠ g := fun i hi => by
    obtain ⟨_, h2, _⟩ := ho.1 i _ (List.getElem?_eq_getElem hi)
    exact ⟨h2.lt, h2.ne hgb⟩
  have ho5 : OwnL w5 w.heap.size L F := ho.kept (fun i hi => (hg5.block _ (by have := (hF i hi).1; omega) (by intro e; injection e with e; exact (hF i hi).2 e)).trans (hB.block _ (hF i hi).1))
  have hi5 : IntsBlk w5 g3 n.aft := by rw [ha]; exact hi.kept (hg5.block _ hi.lt (by intro e; injection e with e; omega))
  have hadd := ho5.add (c := cap3) hi5 (by have := hbel.size; omega) (fun i hi => by have := (hF i hi).1; omega) (by omega) h32
  rw [hl2] at hadd
  refine ⟨_, _, ?_, ⟨g5, cap5, by rw [List.length_append]; rfl, hrow5, ?_⟩, hadd⟩
  · rw [List.map_append, hLm, take_gn hk, hn]; rfl
  · exact (hbel.trans (hB.mono hbel.size)).grown hg5 (by have := hbel.size; omega) (fun q hq => by injection hq with hq; omega)

set_option maxHeartbeats 2000000 in
theorem copy_any (a : Option Addr) (len cap : Nat) (r : List Nd) (w : World) (h : RingAt w a r) (hz : r.length = len) (hv : rvB r = true) :
    Calls Try.prog 41 #[.slice a len cap] w (NewOwn r w) := by
  have hm := rv_len hv
  rw [hz] at hm
  have HI := Lib.hid h
  have HZ := Lib.hid hz
  have HV := Lib.hid hv
  clear h hz hv
  go_enter Try.func41, Try.ntmps41
  go_wp2
  go_loopw [3, 4] (fun o i wr => ∃ k : Nat, k ≤ len ∧ i = .int .i64 k ∧ CopyAt r w k o wr) (fun _ i _ => len - (intOf i).toNat)
  case atStart => exact ⟨0, by omega, rfl, [], fun _ => 0, by simp, rowfar_new w _ rfl, fun i p hp => by simp at hp, fun i j hi => absurd hi (by simp)⟩
  case round =>
    obtain ⟨k, hk, rfl, L, F, hLm, ⟨g, gc, rfl, hrow, hbel⟩, hown⟩ := hrel
    have hLl : L.length = k := by have := congrArg List.length hLm; simp at this; rw [HZ.out] at this; omega
    have HLM := Lib.hid hLm
    have HLL := Lib.hid hLl
    rw [hLl]
    clear hLm hLl
    by_cases hlt : k < len
    · have hkr : k < r.length := by rw [HZ.out]; exact hlt
      obtain ⟨b, off, rfl, hb0, hnodes⟩ := (HI.out.keepB hbel (Nat.le_refl _)).at_ hkr
      obtain ⟨sa, sc, hc0, hc1, hc2, hl, hmx, hints⟩ := node_open (hnodes k hkr)
      obtain ⟨x, y, haft, _⟩ := aft_two (rv_nd HV.out hkr)
      rw [haft] at hints hc2 hl
      simp only [List.length_cons, List.length_nil, Nat.zero_add] at hc2 hl
      obtain ⟨b3, o3, rfl, hb3, hx3, hy3⟩ := ints_two hints
      have HA := Lib.hid haft
      clear hnodes hints haft hmx
      obtain ⟨wo, rfl⟩ : ∃ x, x = wr := ⟨_, rfl⟩
      have HR := Lib.hid hrow
      have HO := Lib.hid hown
      have hgl := hrow.blk
      have hz0 := hbel.size
      clear hrow hown
      have HX3 : Hid (∀ p q, ((wo.alloc p).alloc q).cell? ⟨b3, o3, none⟩ = some (.int .i64 x)) := fun p q => ((((Below.refl _ _).alloc (Nat.le_refl _) p).alloc (by simp) q : Below wo.heap.size wo _).cell (p := ⟨b3, o3, none⟩) hb3).trans hx3
      have HY3 : Hid (∀ p q, ((wo.alloc p).alloc q).cell? ⟨b3, o3 + 1, none⟩ = some (.int .i64 y)) := fun p q => ((((Below.refl _ _).alloc (Nat.le_refl _) p).alloc (by simp) q : Below wo.heap.size wo _).cell (p := ⟨b3, o3 + 1, none⟩) hb3).trans hy3
      clear hx3 hy3
      go_wp2_with (at_builtin; first
        | (refine wl_app _ (by rfl) _ _ (by rfl) wo.heap.size (wo.heap.size + 1) 0 0 [] (by rfl) (own_empty (heap_second wo _ _) (by omega)) ⟨b3, o3, none⟩ 2 sc (vals [x, y]) (by rfl) rfl (src_two (HX3.out _ _) (HY3.out _ _)) (vals_one _) 2 (vals [x, y]) rfl (by simp) (by omega) (by simp; omega) ?_
           intro g3 cap3 w3 hown3 hg3 hat3
           have RW := Lib.hid (fun u o2 => round_world hg3 hown3 (by simpa using hat3) u o2)
           have hV := (RW.out (.int .i64 0) (.cells #[] 0)).2.2.2.2.2.2
           have y0 : w3.cell? ⟨wo.heap.size, 0, none⟩ = some (.int .i64 (gn r k).pos) := by rw [cell_of_cells hV]; rfl
           have y1 : w3.cell? ⟨wo.heap.size, 1, none⟩ = some (.int .i64 (gn r k).bef) := by rw [cell_of_cells hV]; rfl
           have y2 : w3.cell? ⟨wo.heap.size, 2, none⟩ = some (.slice (some ⟨b3, o3, none⟩) 2 sc) := by rw [cell_of_cells hV]; rfl
           have yf : ∀ i, w3.frozen? ⟨wo.heap.size, i, none⟩ = false := fun i => frozen_of_cells hV i
           clear hV hown3 hg3 hat3)
        | (refine wl_appN _ (by rfl) _ _ (by rfl) w.heap.size g k gc L [(⟨(gn r k).pos, (gn r k).bef, [x, y]⟩, .slice (some ⟨g3, 0, none⟩) 2 cap3)] (by rfl) (HR.out.keepB (RW.out _ _).1 (Nat.le_refl _)) HLL.out ⟨w3.heap.size, 0, none⟩ 1 1 (by rfl) rfl (srcN_one (alloc_past _ _ _)) (fun p hp => by rw [List.mem_singleton] at hp; subst hp; exact (RW.out _ _).2.1.toOff (by have := (RW.out (.int .i64 0) (.cells #[] 0)).2.2.1; omega) (RW.out (.int .i64 0) (.cells #[] 0)).2.2.2.2.1 (RW.out (.int .i64 0) (.cells #[] 0)).2.2.2.2.2.1) (k + 1) rfl (by omega) (by simp [World.setCell]; have := (RW.out (.int .i64 0) (.cells #[] 0)).2.2.2.1; have := (RW.out (.int .i64 0) (.cells #[] 0)).2.2.1; omega) ?_
           intro g5 cap5 w5 hown5 hg5 hat5))
      go_roundw
      case rel =>
        have hfin := copy_step hkr (n := ⟨(gn r k).pos, (gn r k).bef, [x, y]⟩) (by rw [← HA.out]) rfl HLM.out HR.out hbel HO.out (RW.out _ _).1 (RW.out _ _).2.1 (RW.out (.int .i64 0) (.cells #[] 0)).2.2.1 (RW.out (.int .i64 0) (.cells #[] 0)).2.2.2.2.1 (RW.out (.int .i64 0) (.cells #[] 0)).2.2.2.2.2.1 hg5 hown5
        rw [HLL.out] at hfin
        exact ⟨k + 1, by omega, by go_num, hfin⟩
      case measure => simp [intOf]; omega
    · have hkk : k = r.length := by rw [HZ.out]; omega
      have HK := Lib.hid hkk
      have HR := Lib.hid hrow
      have HO := Lib.hid hown
      clear hkk hrow hown
      go_wp2
      go_ret
      have hfull : L.map (·.1) = r := by rw [HLM.out, HK.out, List.take_length]
      obtain ⟨h1, _, _, _, h2, h3, _⟩ := HR.out.blk
      have hrl : r.length = k := HK.out.symm
      exact ⟨g, gc, F, by rw [hrl]; rfl, own_of_row HR.out HO.out hfull h1, by rw [hrl, ← HLL.out]; exact h2, h3, hbel⟩

end

/- A ring with another node at a place (the model). -/

section
open Go.RowKit
set_option linter.unusedVariables false


theorem gn_set {r : List Nd} {k i : Nat} {n : Nd} (hi : i < r.length) : gn (r.set k n) i = if i = k then n else gn r i := by
  rw [gn_get (by simpa using hi), List.getElem_set]
  by_cases e : k = i
  · rw [if_pos e, if_pos e.symm]
  · rw [if_neg e, if_neg (Ne.symm e), gn_get hi]
/-- three cells of node k are stored -/
theorem own_set {w : World} {lo hi N k g3 c3 : Nat} {r : List Nd} {F : Nat → Nat} {n : Nd} (h : RingOwn w lo hi N r F) (hk : k < r.length) (hi3 : IntsBlk w g3 n.aft) (hg : hi ≤ g3) (hhi : hi ≤ w.heap.size) (h1 : n.aft.length ≤ c3) (h2 : c3 ≤ maxLen) :
    RingOwn (((w.setCell ⟨N, k * 3, none⟩ (.int .i64 n.pos)).setCell ⟨N, k * 3 + 1, none⟩ (.int .i64 n.bef)).setCell ⟨N, k * 3 + 2, none⟩ (.slice (some ⟨g3, 0, none⟩) n.aft.length c3)) lo w.heap.size N (r.set k n) (fun i => if i = k then g3 else F i) := by
  obtain ⟨cs, hb, hc⟩ := h.row
  have hN := h.inN
  have h3 := hi3.lt
  have hl : (r.set k n).length = r.length := by simp
  have hne : ∀ g, g ≠ N → (((w.setCell ⟨N, k * 3, none⟩ (.int .i64 n.pos)).setCell ⟨N, k * 3 + 1, none⟩ (.int .i64 n.bef)).setCell ⟨N, k * 3 + 2, none⟩ (.slice (some ⟨g3, 0, none⟩) n.aft.length c3)).heap[g]? = w.heap[g]? := fun g hg =>
    (heap_set_ne _ _ _ _ _ hg).trans ((heap_set_ne _ _ _ _ _ hg).trans (heap_set_ne _ _ _ _ _ hg))
  refine ⟨⟨_, heap_set _ _ _ _ (heap_set _ _ _ _ (heap_set _ _ _ _ hb)), fun i hi => ?_⟩, fun i hi => ?_, ⟨hN.1, by omega⟩, fun i hi => ?_, fun i j hi hj he => ?_⟩
  · rw [hl] at hi
    rw [gn_set hi]
    by_cases e : i = k
    · subst e
      simp only [↓reduceIte]
      obtain ⟨_, _, c, c2, _⟩ := hc i hi
      have z2 : i * 3 + 2 < cs.size := (Array.getElem?_eq_some_iff.1 c2).1
      refine ⟨?_, ?_, c3, ?_, h1, h2⟩
      · rw [Array.getElem?_setIfInBounds_ne (by omega), Array.getElem?_setIfInBounds_ne (by omega), Array.getElem?_setIfInBounds_self_of_lt (by omega)]
      · rw [Array.getElem?_setIfInBounds_ne (by omega), Array.getElem?_setIfInBounds_self_of_lt (by simp; omega)]
      · rw [Array.getElem?_setIfInBounds_self_of_lt (by simp; omega)]
    · simp only [if_neg e]
      exact nd_keep (nd_keep (nd_keep (d := 0) (hc i hi) e (by omega)) e (by omega)) e (by omega)
  · rw [hl] at hi
    rw [gn_set hi]
    by_cases e : i = k
    · subst e; simp only [↓reduceIte]; exact hi3.kept (hne _ (by omega))
    · simp only [if_neg e]; exact (h.inn i hi).kept (hne _ (h.inF i hi).2.2)
  · rw [hl] at hi
    by_cases e : i = k
    · simp only [if_pos e]; omega
    · simp only [if_neg e]; have := h.inF i hi; omega
  · rw [hl] at hi hj
    by_cases e1 : i = k
    · by_cases e2 : j = k
      · omega
      · simp only [if_pos e1, if_neg e2] at he
        have := h.inF j hj; omega
    · by_cases e2 : j = k
      · simp only [if_neg e1, if_pos e2] at he
        have := h.inF i hi; omega
      · simp only [if_neg e1, if_neg e2] at he
        exact h.inj i j hi hj he
theorem below_sets {B : Nat} {w w' : World} (h : Below B w w') {N i : Nat} (hN : B ≤ N) (u0 u1 u2 : Value) : Below B w (((w'.setCell ⟨N, i, none⟩ u0).setCell ⟨N, i + 1, none⟩ u1).setCell ⟨N, i + 2, none⟩ u2) :=
  ((h.setCell (p := ⟨N, i, none⟩) hN u0).setCell (p := ⟨N, i + 1, none⟩) hN u1).setCell (p := ⟨N, i + 2, none⟩) hN u2

set_option maxHeartbeats 2000000 in
theorem set_any (a : Option Addr) (len cap k : Nat) (r : List Nd) (p q x y : Int) (sa : Option Addr) (sc : Nat) (w : World) (h : RingAt w a r) (hz : r.length = len) (hv : rvB r = true) (hk : k < len) (hs : IntsAt w sa [x, y]) (hsc : 2 ≤ sc) :
    Calls Try.prog 65 #[.slice a len cap, .int .i64 k, .agg #[.int .i64 p, .int .i64 q, .slice sa 2 sc]] w (NewOwn (r.set k ⟨p, q, [x, y]⟩) w) := by
  have hm := rv_len hv
  rw [hz] at hm
  obtain ⟨b3, o3, rfl, hb3, hx3, hy3⟩ := ints_two hs
  have HI := Lib.hid h
  have HZ := Lib.hid hz
  have HV := Lib.hid hv
  clear h hz hv hs
  go_enter Try.func65, Try.ntmps65
  go_wp2_with fail
  have hb0 : ∀ o, Below w.heap.size w (w.alloc o) := fun o => (Below.refl _ _).alloc (Nat.le_refl _) _
  refine (copy_any a len cap r _ (HI.out.keepB (hb0 _) (Nat.le_refl _)) HZ.out HV.out).mono ?_
  rintro e w1 ⟨N, c1, F, rfl, ho1, hl1, hm1, hb1⟩
  have hV1 := (hb1.block w.heap.size (by simp)).trans (heap_alloc_new w _)
  have hbw : Below w.heap.size w w1 := (hb0 _).trans (hb1.mono (by simp))
  have hz1 : w.heap.size < w1.heap.size := by have := hb1.size; simp at this; omega
  have hN := ho1.inN
  simp at hN
  have HO1 := Lib.hid ho1
  have HL1 := Lib.hid hl1
  have HM1 := Lib.hid hm1
  have HV1 := Lib.hid hV1
  have HX3 : Hid (∀ o, (w1.alloc o).cell? ⟨b3, o3, none⟩ = some (.int .i64 x)) := fun o => ((hbw.alloc (by omega) o).cell (p := ⟨b3, o3, none⟩) hb3).trans hx3
  have HY3 : Hid (∀ o, (w1.alloc o).cell? ⟨b3, o3 + 1, none⟩ = some (.int .i64 y)) := fun o => ((hbw.alloc (by omega) o).cell (p := ⟨b3, o3 + 1, none⟩) hb3).trans hy3
  have z0 : w1.cell? ⟨w.heap.size, 2, none⟩ = some (.slice (some ⟨b3, o3, none⟩) 2 sc) := by rw [cell_of_cells hV1]; rfl
  have HRL : Hid (r.length = len) := HZ.out
  rw [HZ.out]
  clear ho1 hl1 hm1 hV1 hx3 hy3 hb0
  go_wp2_with (at_builtin; first
    | (refine wl_app _ (by rfl) _ _ (by rfl) w1.heap.size w1.heap.size 0 0 [] (by rfl) (own_empty (heap_alloc_new w1 _) (Nat.le_refl _)) ⟨b3, o3, none⟩ 2 sc (vals [x, y]) (by rfl) rfl (src_two (HX3.out _) (HY3.out _)) (vals_one _) 2 (vals [x, y]) rfl (by simp) (by omega) (by simp) ?_
       intro g3 cap3 w3 hown3 hg3 hat3
       obtain ⟨hI3, hg31, hc31, hc32⟩ := own_blk hown3 rfl
       have hV3 := (hg3.block w.heap.size (by simp; omega) (by intro e; injection e with e; omega)).trans ((Below.heap_alloc w1 _ w.heap.size (by omega)).trans HV1.out)
       have hB13 : Below w1.heap.size w1 w3 := Below.grown ((Below.refl _ _).alloc (Nat.le_refl _) _) hg3 (by simp) (fun q hq => by injection hq with hq; omega)
       have hO3 : RingOwn w3 (w.heap.size + 1) w1.heap.size N r F := (by simpa using HO1.out.kept (fun g _ hg => hB13.block g hg) : RingOwn w3 (w.heap.size + 1) w1.heap.size N r F)
       obtain ⟨cs, hNb, hNc⟩ := hO3.row
       obtain ⟨d0, d1, dc, d2, _⟩ := hNc k (by rw [HRL.out]; exact hk)
       have y0 : w3.cell? ⟨w.heap.size, 0, none⟩ = some (.int .i64 p) := by rw [cell_of_cells hV3]; rfl
       have y1 : w3.cell? ⟨w.heap.size, 1, none⟩ = some (.int .i64 q) := by rw [cell_of_cells hV3]; rfl
       have y2 : w3.cell? ⟨w.heap.size, 2, none⟩ = some (.slice (some ⟨b3, o3, none⟩) 2 sc) := by rw [cell_of_cells hV3]; rfl
       have yf : ∀ i, w3.frozen? ⟨w.heap.size, i, none⟩ = false := fun i => frozen_of_cells hV3 i
       have e0 := (cell_of_cells hNb (k * 3)).trans d0
       have e1 := (cell_of_cells hNb (k * 3 + 1)).trans d1
       have e2 := (cell_of_cells hNb (k * 3 + 2)).trans d2
       have ef : ∀ i, w3.frozen? ⟨N, i, none⟩ = false := fun i => frozen_of_cells hNb i
       have hNV : ¬ N = w.heap.size := by omega
       have HO3 := Lib.hid hO3
       have HI3 := Lib.hid hI3
       have HC3 := Lib.hid (And.intro hc31 hc32)
       have hg3lt := hI3.lt
       clear hV3 hown3 hg3 hat3 hO3 hNb hNc d0 d1 d2 hI3 hc31 hc32))
  go_ret
  have hne : ∀ g, g ≠ w.heap.size → (w3.setCell ⟨w.heap.size, 2, none⟩ (.slice (some ⟨g3, 0, none⟩) 2 cap3)).heap[g]? = w3.heap[g]? := fun g hg => heap_set_ne _ _ _ _ _ hg
  have hO : RingOwn (w3.setCell ⟨w.heap.size, 2, none⟩ (.slice (some ⟨g3, 0, none⟩) 2 cap3)) (w.heap.size + 1) w1.heap.size N r F := HO3.out.kept (fun g h1 _ => hne g (by omega))
  have hI := HI3.out.kept (hne g3 (by omega))
  have hz3 := hB13.size
  have hfin := own_set (n := ⟨p, q, [x, y]⟩) (k := k) hO (by rw [HRL.out]; exact hk) hI hg31 (by simp [World.setCell]; omega) HC3.out.1 HC3.out.2
  have hsz : ∀ (W : World) (P0 P1 P2 : Addr) (u0 u1 u2 : Value), (((W.setCell P0 u0).setCell P1 u1).setCell P2 u2).heap.size = W.heap.size := fun W _ _ _ _ _ _ => by simp [World.setCell]
  refine ⟨N, c1, fun i => if i = k then g3 else F i, by rw [List.length_set, HRL.out]; rfl, ?_, by rw [List.length_set]; exact HL1.out, HM1.out, ?_⟩
  · rw [hsz]; exact hfin.wide (by omega) (Nat.le_refl _)
  · have hB3 : Below w.heap.size w w3 := hbw.trans (hB13.mono (by omega))
    exact below_sets (hB3.setCell (p := ⟨w.heap.size, 2, none⟩) (Nat.le_refl _) _) (by omega) _ _ _

end

/- The steps of the model: dropping, adopting, closer successors, notifying, stabilizing. -/

section
open Go.RowKit
set_option linter.unusedVariables false


theorem NewOwn.toRB {r : List Nd} {w w' : World} {N cap : Nat} {F : Nat → Nat} {b : Bool} {w1 : World} (hb : Below w.heap.size w w1) (ho : RingOwn w' w1.heap.size w'.heap.size N r F) (h1 : r.length ≤ cap) (h2 : cap ≤ maxLen) (hB : Below w1.heap.size w1 w') :
    ∀ n, n = r.length → NewRB r b w (.returned (.tuple #[.slice (some ⟨N, 0, none⟩) n cap, .bool b])) w' := fun n hn =>
  ⟨N, cap, F, by rw [hn], ho.wide hb.size (Nat.le_refl _), h1, h2, hb.trans (hB.mono hb.size)⟩
theorem NewOwn.mono {r : List Nd} {w w1 w2 : World} {e : Ending} (h : NewOwn r w1 e w2) (hb : Below w.heap.size w w1) : NewOwn r w e w2 := by
  obtain ⟨N, cap, F, he, ho, h1, h2, hB⟩ := h
  exact ⟨N, cap, F, he, ho.wide hb.size (Nat.le_refl _), h1, h2, hb.trans (hB.mono hb.size)⟩
theorem maxOf {r : List Nd} (h : rvB r = true) : r.length ≤ maxLen := by have := rv_len h; unfold maxLen; omega

theorem vi_new {w W : World} {o1 : Obj} {x y : Int} (h : W = ((w.alloc o1).alloc (.cells #[.int .i64 x, .int .i64 y] 3)).drew) :
    Below w.heap.size w W ∧ IntsAt W (some ⟨w.heap.size + 1, 0, none⟩) [x, y] ∧ W.heap[w.heap.size]? = some o1 := by
  obtain ⟨_, h1, h2, h3⟩ := two_new (rfl : (w.alloc o1).alloc (.cells #[.int .i64 x, .int .i64 y] 3) = _)
  subst h
  refine ⟨h1.drew, .inr ⟨w.heap.size + 1, 0, rfl, heap_lt h3, fun i hi => ?_⟩, h2⟩
  have : i = 0 ∨ i = 1 := by simp at hi; omega
  rcases this with rfl | rfl
  · exact (cell_of_cells h3 0).trans rfl
  · exact (cell_of_cells h3 1).trans rfl

set_option maxHeartbeats 2000000 in
theorem sdrop_any (a : Option Addr) (len cap k : Nat) (r : List Nd) (w : World) (h : RingAt w a r) (hz : r.length = len) (hv : rvB r = true) (hk : k < len) :
    Calls Try.prog 68 #[.slice a len cap, .int .i64 k] w (NewRB (dropR r k) (dropB r k) w) := by
  have hkr : k < r.length := by rw [hz]; exact hk
  have hm := maxOf hv
  rw [hz] at hm
  obtain ⟨b, off, rfl, hb0, hnodes⟩ := h.at_ hkr
  obtain ⟨sa, sc, hc0, hc1, hc2, hl, hmx, hints⟩ := node_open (hnodes k hkr)
  obtain ⟨hp, hbf, h0, h1, ha⟩ := nd_open hv hkr
  have HP : Hid (dropS r k = r.set k ⟨(gn r k).pos, (gn r k).bef, [gt (gn r k).aft 1, (gt (gn r k).aft 1 + 1) % 64]⟩) := rfl
  have HB : Hid (dropB r k = !liveB r (gt (gn r k).aft 0)) := rfl
  have HR : Hid (dropR r k = if liveB r (gt (gn r k).aft 0) then r else dropS r k) := rfl
  rw [ha] at hints hc2 hl
  simp only [List.length_cons, List.length_nil, Nat.zero_add] at hc2 hl
  obtain ⟨b3, o3, rfl, hb3, hx3, hy3⟩ := ints_two hints
  generalize gt (gn r k).aft 0 = x at *
  generalize gt (gn r k).aft 1 = y at *
  have HI := Lib.hid h
  have HZ := Lib.hid hz
  have HV := Lib.hid hv
  have HM := Lib.hid hm
  clear h hz hv hints hnodes hmx ha
  have hb0 : ∀ o, Below w.heap.size w (w.alloc o) := fun o => (Below.refl _ _).alloc (Nat.le_refl _) _
  have HB0 := Lib.hid hb0
  clear hb0
  cases hlx : liveB r x
  · have hfd : fndI r x = -1 := fnd_dead hlx
    have HLX := Lib.hid hlx
    have HFD := Lib.hid hfd
    clear hlx hfd
    go_enter Try.func68, Try.ntmps68
    go_wp2_with fail
    refine (sfind_any _ len cap r x _ (HI.out.keepB (HB0.out _) (Nat.le_refl _)) HZ.out HM.out).mono ?_
    rintro e w1 ⟨rfl, rfl⟩
    rw [HFD.out]
    have t1 : (y + 1).tmod 64 = (y + 1) % 64 := Int.tmod_eq_emod_of_nonneg (by omega)
    go_wp2
    go_region
    generalize hW : ((w.alloc (Obj.cells #[Value.int IntKind.i64 (gn r k).pos, Value.int IntKind.i64 (gn r k).bef, Value.slice (some ⟨w.heap.size + 1, 0, none⟩) 2 2] 28)).alloc (Obj.cells #[Value.int IntKind.i64 y, Value.int IntKind.i64 ((y + 1) % 64)] 3)).drew = W
    obtain ⟨hBW, hIW, hV⟩ := vi_new hW.symm
    have y0 : W.cell? ⟨w.heap.size, 0, none⟩ = some (.int .i64 (gn r k).pos) := by rw [cell_of_cells hV]; rfl
    have y1 : W.cell? ⟨w.heap.size, 1, none⟩ = some (.int .i64 (gn r k).bef) := by rw [cell_of_cells hV]; rfl
    have y2 : W.cell? ⟨w.heap.size, 2, none⟩ = some (.slice (some ⟨w.heap.size + 1, 0, none⟩) 2 2) := by rw [cell_of_cells hV]; rfl
    have HIW := Lib.hid hIW
    clear hW hIW hV
    go_wp2_with fail
    refine (set_any _ len cap k r (gn r k).pos (gn r k).bef y ((y + 1) % 64) _ 2 W (HI.out.keepB hBW (Nat.le_refl _)) HZ.out HV.out hk HIW.out (Nat.le_refl _)).mono ?_
    rintro e w2 ⟨N, c2, F, rfl, ho, h1, h2, hB⟩
    have HO := Lib.hid ho
    have HC := Lib.hid (And.intro h1 h2)
    clear ho h1 h2
    go_wp2
    go_ret2
    rw [HB.out, HR.out, HLX.out, if_neg (by simp), HP.out]
    exact NewOwn.toRB hBW HO.out HC.out.1 HC.out.2 hB _ (by simp)
  · have hfd := idx_live hlx
    have HLX := Lib.hid hlx
    have HFD := Lib.hid hfd.2.2
    clear hlx hfd
    go_enter Try.func68, Try.ntmps68
    go_wp2_with fail
    refine (sfind_any _ len cap r x _ (HI.out.keepB (HB0.out _) (Nat.le_refl _)) HZ.out HM.out).mono ?_
    rintro e w1 ⟨rfl, rfl⟩
    rw [HFD.out]
    go_wp2_with fail
    refine (copy_any _ len cap r _ (HI.out.keepB (HB0.out _) (Nat.le_refl _)) HZ.out HV.out).mono ?_
    rintro e w2 ⟨N, c2, F, rfl, ho, h1, h2, hB⟩
    have HO := Lib.hid ho
    have HC := Lib.hid (And.intro h1 h2)
    clear ho h1 h2
    go_wp2
    go_ret2
    rw [HB.out, HR.out, HLX.out, if_pos rfl]
    exact NewOwn.toRB (HB0.out _) HO.out HC.out.1 HC.out.2 hB _ (by simp)

set_option maxHeartbeats 2000000 in
theorem sfol_any (a : Option Addr) (len cap k s : Nat) (r : List Nd) (w : World) (h : RingAt w a r) (hz : r.length = len) (hv : rvB r = true) (hk : k < len) (hs : s < len) :
    Calls Try.prog 66 #[.slice a len cap, .int .i64 k, .int .i64 s] w (NewOwn (folR r k s) w) := by
  have hkr : k < r.length := by rw [hz]; exact hk
  have hsr : s < r.length := by rw [hz]; exact hs
  have hm := maxOf hv
  rw [hz] at hm
  obtain ⟨b, off, rfl, hb0, hnodes⟩ := h.at_ hkr
  obtain ⟨sa, sc, hc0, hc1, hc2, hl, hmx, hints⟩ := node_open (hnodes k hkr)
  obtain ⟨sa', sc', hd0, hd1, hd2, hl', hmx', hints'⟩ := node_open (hnodes s hsr)
  obtain ⟨hp', hbf', h0', h1', ha'⟩ := nd_open hv hsr
  have HP : Hid (folR r k s = r.set k ⟨(gn r k).pos, (gn r k).bef, [(gn r s).pos, gt (gn r s).aft 0]⟩) := rfl
  rw [ha'] at hints' hd2 hl'
  simp only [List.length_cons, List.length_nil, Nat.zero_add] at hd2 hl'
  obtain ⟨b3, o3, rfl, hb3, hx3, hy3⟩ := ints_two hints'
  generalize gt (gn r s).aft 0 = x at *
  generalize gt (gn r s).aft 1 = y at *
  generalize (gn r s).pos = ps at *
  generalize (gn r k).aft.length = ln at *
  have HI := Lib.hid h
  have HZ := Lib.hid hz
  have HV := Lib.hid hv
  have q0 : (0 : Int) ≤ (s : Int) := by omega
  have q1 : (s : Int) < (len : Int) := by omega
  clear h hz hv hints hints' hnodes hmx hmx' ha'
  go_enter Try.func66, Try.ntmps66
  go_wp2
  go_region
  generalize hW : ((w.alloc (Obj.cells #[Value.int IntKind.i64 (gn r k).pos, Value.int IntKind.i64 (gn r k).bef, Value.slice (some ⟨w.heap.size + 1, 0, none⟩) 2 2] 28)).alloc (Obj.cells #[Value.int IntKind.i64 ps, Value.int IntKind.i64 x] 3)).drew = W
  obtain ⟨hBW, hIW, hV⟩ := vi_new hW.symm
  have y0 : W.cell? ⟨w.heap.size, 0, none⟩ = some (.int .i64 (gn r k).pos) := by rw [cell_of_cells hV]; rfl
  have y1 : W.cell? ⟨w.heap.size, 1, none⟩ = some (.int .i64 (gn r k).bef) := by rw [cell_of_cells hV]; rfl
  have y2 : W.cell? ⟨w.heap.size, 2, none⟩ = some (.slice (some ⟨w.heap.size + 1, 0, none⟩) 2 2) := by rw [cell_of_cells hV]; rfl
  have HIW := Lib.hid hIW
  clear hW hIW hV
  go_wp2_with fail
  refine (set_any _ len cap k r (gn r k).pos (gn r k).bef ps x _ 2 W (HI.out.keepB hBW (Nat.le_refl _)) HZ.out HV.out hk HIW.out (Nat.le_refl _)).mono ?_
  rintro e w2 ⟨N, c2, F, rfl, ho, h1, h2, hB⟩
  have HO := Lib.hid ho
  have HC := Lib.hid (And.intro h1 h2)
  clear ho h1 h2
  go_wp2
  go_ret
  rw [HP.out]
  exact NewOwn.mono ⟨N, c2, F, by rw [List.length_set]; rfl, HO.out, HC.out.1, HC.out.2, hB⟩ hBW

set_option maxHeartbeats 2000000 in
theorem sadopt_any (a : Option Addr) (len cap k : Nat) (r : List Nd) (w : World) (h : RingAt w a r) (hz : r.length = len) (hv : rvB r = true) (hk : k < len) :
    Calls Try.prog 69 #[.slice a len cap, .int .i64 k] w (NewRB (adoptR r k) (adoptB r k) w) := by
  have hkr : k < r.length := by rw [hz]; exact hk
  have hm := maxOf hv
  rw [hz] at hm
  obtain ⟨b, off, rfl, hb0, hnodes⟩ := h.at_ hkr
  obtain ⟨sa, sc, hc0, hc1, hc2, hl, hmx, hints⟩ := node_open (hnodes k hkr)
  obtain ⟨hp, hbf, h0, h1, ha⟩ := nd_open hv hkr
  have HB : Hid (adoptB r k = liveB r (gt (gn r k).aft 0)) := rfl
  have HR : Hid (adoptR r k = if liveB r (gt (gn r k).aft 0) then folR r k (idxR r (gt (gn r k).aft 0)) else r) := rfl
  rw [ha] at hints hc2 hl
  simp only [List.length_cons, List.length_nil, Nat.zero_add] at hc2 hl
  obtain ⟨b3, o3, rfl, hb3, hx3, hy3⟩ := ints_two hints
  generalize gt (gn r k).aft 0 = x at *
  generalize gt (gn r k).aft 1 = y at *
  have HI := Lib.hid h
  have HZ := Lib.hid hz
  have HV := Lib.hid hv
  have HM := Lib.hid hm
  clear h hz hv hints hnodes hmx ha
  cases hlx : liveB r x
  · have hfd : fndI r x = -1 := fnd_dead hlx
    have HLX := Lib.hid hlx
    have HFD := Lib.hid hfd
    clear hlx hfd
    go_enter Try.func69, Try.ntmps69
    go_wp2_with fail
    refine (sfind_any _ len cap r x _ HI.out HZ.out HM.out).mono ?_
    rintro e w1 ⟨rfl, rfl⟩
    rw [HFD.out]
    go_wp2_with fail
    refine (copy_any _ len cap r _ HI.out HZ.out HV.out).mono ?_
    rintro e w2 ⟨N, c2, F, rfl, ho, h1, h2, hB⟩
    have HO := Lib.hid ho
    have HC := Lib.hid (And.intro h1 h2)
    clear ho h1 h2
    go_wp2
    go_ret2
    rw [HB.out, HR.out, HLX.out, if_neg (by simp)]
    exact NewOwn.toRB (Below.refl _ _) HO.out HC.out.1 HC.out.2 hB _ (by simp)
  · have hfd := idx_live hlx
    have HLX := Lib.hid hlx
    have HFD := Lib.hid hfd.2.2
    have hil : idxR r x < len := by rw [← HZ.out]; exact hfd.1
    clear hlx hfd
    go_enter Try.func69, Try.ntmps69
    go_wp2_with fail
    refine (sfind_any _ len cap r x _ HI.out HZ.out HM.out).mono ?_
    rintro e w1 ⟨rfl, rfl⟩
    rw [HFD.out]
    go_wp2_with fail
    refine (sfol_any _ len cap k _ r _ HI.out HZ.out HV.out hk hil).mono ?_
    rintro e w2 ⟨N, c2, F, rfl, ho, h1, h2, hB⟩
    have HO := Lib.hid ho
    have HC := Lib.hid (And.intro h1 h2)
    clear ho h1 h2
    go_wp2
    go_ret2
    rw [HB.out, HR.out, HLX.out, if_pos rfl]
    exact NewOwn.toRB (Below.refl _ _) HO.out HC.out.1 HC.out.2 hB _ (by simp)

end

/- The steps of the model: closer successors, notifying. -/

section
open Go.RowKit
set_option linter.unusedVariables false


/-- a node of a ring in memory, opened -/
theorem ring_node {w : World} {a : Option Addr} {r : List Nd} {k : Nat} (h : RingAt w a r) (hv : rvB r = true) (hk : k < r.length) :
    ∃ b off b3 o3 sc, a = some ⟨b, off, none⟩ ∧ b < w.heap.size ∧ b3 < w.heap.size ∧ 2 ≤ sc ∧ sc ≤ maxLen ∧ w.cell? ⟨b, off + k * 3, none⟩ = some (.int .i64 (gn r k).pos) ∧ w.cell? ⟨b, off + k * 3 + 1, none⟩ = some (.int .i64 (gn r k).bef) ∧ w.cell? ⟨b, off + k * 3 + 2, none⟩ = some (.slice (some ⟨b3, o3, none⟩) 2 sc) ∧
      w.cell? ⟨b3, o3, none⟩ = some (.int .i64 (gt (gn r k).aft 0)) ∧ w.cell? ⟨b3, o3 + 1, none⟩ = some (.int .i64 (gt (gn r k).aft 1)) ∧ IntsAt w (some ⟨b3, o3, none⟩) (gn r k).aft := by
  obtain ⟨b, off, rfl, hb0, hnodes⟩ := h.at_ hk
  obtain ⟨sa, sc, hc0, hc1, hc2, hl, hmx, hints⟩ := node_open (hnodes k hk)
  obtain ⟨hp, hbf, h0, h1, ha⟩ := nd_open hv hk
  have hl2 : (gn r k).aft.length = 2 := by rw [ha]; rfl
  rw [hl2] at hc2 hl
  have hi := hints
  rw [ha] at hi
  obtain ⟨b3, o3, rfl, hb3, hx3, hy3⟩ := ints_two hi
  exact ⟨b, off, b3, o3, sc, rfl, hb0, hb3, hl, hmx, hc0, hc1, hc2, hx3, hy3, hints⟩
theorem sbetw_as (v : Bool) (a x b : Int) (w : World) (hv : btwI a x b = v) :
    Calls Try.prog 64 #[.int .i64 a, .int .i64 x, .int .i64 b] w fun e w' => e = .returned (.bool v) ∧ w = w' := by subst hv; exact sbetw_any a x b w

set_option maxHeartbeats 2000000 in
theorem scloser_any (a : Option Addr) (len cap k : Nat) (o : Int) (r : List Nd) (w : World) (h : RingAt w a r) (hz : r.length = len) (hv : rvB r = true) (hk : k < len) :
    Calls Try.prog 46 #[.slice a len cap, .int .i64 k, .int .i64 o] w (NewRB (closerR r k o) (closerB r k o) w) := by
  have hkr : k < r.length := by rw [hz]; exact hk
  have hm := maxOf hv
  rw [hz] at hm
  obtain ⟨b, off, b3, o3, sc, rfl, hb0, hb3, hsc, _, hc0, hc1, hc2, hx3, hy3, _⟩ := ring_node h hv hkr
  have HB : Hid (closerB r k o = (liveB r o && btwI (gn r k).pos o (gt (gn r k).aft 0))) := rfl
  have HR : Hid (closerR r k o = if liveB r o && btwI (gn r k).pos o (gt (gn r k).aft 0) then folR r k (idxR r o) else r) := rfl
  generalize gt (gn r k).aft 0 = x at *
  generalize gt (gn r k).aft 1 = y at *
  have HI := Lib.hid h
  have HZ := Lib.hid hz
  have HV := Lib.hid hv
  have HM := Lib.hid hm
  have q0 : (0 : Int) ≤ (k : Int) := by omega
  have q1 : (k : Int) < (len : Int) := by omega
  have q2 : (0 : Int) < ((2 : Nat) : Int) := by omega
  clear h hz hv
  cases hlo : liveB r o
  · have HLO := Lib.hid hlo
    have HFD := Lib.hid (fnd_dead hlo)
    clear hlo
    go_enter Try.func46, Try.ntmps46
    go_wp2_with fail
    refine (sfind_any _ len cap r o _ HI.out HZ.out HM.out).mono ?_
    rintro e w1 ⟨rfl, rfl⟩
    rw [HFD.out]
    have d0 : decide ((-1 : Int) < 0) = true := by decide
    go_wp2_with fail
    go_quiet (fail)
    go_wp2_with fail
    refine (copy_any _ len cap r _ (HI.out.keepB ((Same.refl w).drewN _ |>.below _) (Nat.le_refl _)) HZ.out HV.out).mono ?_
    rintro e w2 ⟨N, c2, F, rfl, ho, h1, h2, hB⟩
    have HO := Lib.hid ho
    have HC := Lib.hid (And.intro h1 h2)
    clear ho h1 h2
    go_wp2
    go_ret2
    rw [HB.out, HR.out, HLO.out, Bool.false_and, if_neg (by simp)]
    exact NewOwn.toRB ((Same.refl w).drewN _ |>.below _) HO.out HC.out.1 HC.out.2 hB _ (by simp)
  · obtain ⟨hil, _, hfd⟩ := idx_live hlo
    have HLO := Lib.hid hlo
    have HFD := Lib.hid hfd
    rw [HZ.out] at hil
    have d0 : decide ((idxR r o : Int) < 0) = false := by simp
    clear hlo hfd
    cases hbt : btwI (gn r k).pos o x
    · have HBT := Lib.hid hbt
      clear hbt
      go_enter Try.func46, Try.ntmps46
      go_wp2_with fail
      refine (sfind_any _ len cap r o _ HI.out HZ.out HM.out).mono ?_
      rintro e w1 ⟨rfl, rfl⟩
      rw [HFD.out]
      go_wp2_with fail
      go_quiet ((go_at_call 64; exact Calls.quiet_of_same (calls_flip (sbetw_as _ _ _ _ _ HBT.out))))
      go_wp2_with fail
      refine (copy_any _ len cap r _ (HI.out.keepB ((Same.refl w).drewN _ |>.below _) (Nat.le_refl _)) HZ.out HV.out).mono ?_
      rintro e w2 ⟨N, c2, F, rfl, ho, h1, h2, hB⟩
      have HO := Lib.hid ho
      have HC := Lib.hid (And.intro h1 h2)
      clear ho h1 h2
      go_wp2
      go_ret2
      rw [HB.out, HR.out, HLO.out, HBT.out, Bool.and_false, if_neg (by simp)]
      exact NewOwn.toRB ((Same.refl w).drewN _ |>.below _) HO.out HC.out.1 HC.out.2 hB _ (by simp)
    · have HBT := Lib.hid hbt
      clear hbt
      go_enter Try.func46, Try.ntmps46
      go_wp2_with fail
      refine (sfind_any _ len cap r o _ HI.out HZ.out HM.out).mono ?_
      rintro e w1 ⟨rfl, rfl⟩
      rw [HFD.out]
      go_wp2_with fail
      go_quiet ((go_at_call 64; exact Calls.quiet_of_same (calls_flip (sbetw_as _ _ _ _ _ HBT.out))))
      go_wp2_with fail
      refine (sfol_any _ len cap k _ r _ (HI.out.keepB ((Same.refl w).drewN _ |>.below _) (Nat.le_refl _)) HZ.out HV.out hk hil).mono ?_
      rintro e w2 ⟨N, c2, F, rfl, ho, h1, h2, hB⟩
      have HO := Lib.hid ho
      have HC := Lib.hid (And.intro h1 h2)
      clear ho h1 h2
      go_wp2
      go_ret2
      rw [HB.out, HR.out, HLO.out, HBT.out, Bool.and_true, if_pos rfl]
      exact NewOwn.toRB ((Same.refl w).drewN _ |>.below _) HO.out HC.out.1 HC.out.2 hB _ (by simp)

set_option maxHeartbeats 2000000 in
theorem snot_any (a : Option Addr) (len cap k : Nat) (o : Int) (r : List Nd) (w : World) (h : RingAt w a r) (hz : r.length = len) (hv : rvB r = true) (hk : k < len) :
    Calls Try.prog 42 #[.slice a len cap, .int .i64 k, .int .i64 o] w (NewRB (notR r k o) (notB r k o) w) := by
  have hkr : k < r.length := by rw [hz]; exact hk
  have hm := maxOf hv
  rw [hz] at hm
  obtain ⟨b, off, b3, o3, sc, rfl, hb0, hb3, hsc, _, hc0, hc1, hc2, hx3, hy3, hin⟩ := ring_node h hv hkr
  have ha := (nd_open hv hkr).2.2.2.2
  have HA := Lib.hid ha
  rw [ha] at hin
  have HS := Lib.hid hin
  have HI := Lib.hid h
  have HZ := Lib.hid hz
  have HV := Lib.hid hv
  have HM := Lib.hid hm
  have hb0' : ∀ o, Below w.heap.size w (w.alloc o) := fun o => (Below.refl _ _).alloc (Nat.le_refl _) _
  have HB0 := Lib.hid hb0'
  clear h hz hv hin hx3 hy3 hb0' ha
  cases hlo : liveB r o
  · have HLO := Lib.hid hlo
    have HFD := Lib.hid (fnd_dead hlo)
    clear hlo
    go_enter Try.func42, Try.ntmps42
    go_wp2_with fail
    refine (sfind_any _ len cap r o _ (HI.out.keepB (HB0.out _) (Nat.le_refl _)) HZ.out HM.out).mono ?_
    rintro e w1 ⟨rfl, rfl⟩
    rw [HFD.out]
    go_wp2_with fail
    refine (copy_any _ len cap r _ (HI.out.keepB (HB0.out _) (Nat.le_refl _)) HZ.out HV.out).mono ?_
    rintro e w2 ⟨N, c2, F, rfl, ho, h1, h2, hB⟩
    have HO := Lib.hid ho
    have HC := Lib.hid (And.intro h1 h2)
    clear ho h1 h2
    go_wp2
    go_ret2
    have e0 : notB r k o = false := by show (liveB r o && !decide (o = (gn r k).pos) && !(decide (0 ≤ (gn r k).bef) && liveB r (gn r k).bef && !btwI (gn r k).bef o (gn r k).pos)) = false; rw [HLO.out]; simp
    rw [notR, e0, if_neg (by simp)]
    exact NewOwn.toRB (HB0.out _) HO.out HC.out.1 HC.out.2 hB _ (by simp)
  obtain ⟨hil, _, hfd⟩ := idx_live hlo
  have HLO := Lib.hid hlo
  have HFD := Lib.hid hfd
  have d0 : decide ((idxR r o : Int) < 0) = false := by simp
  clear hlo hfd
  cases hop : (o == (gn r k).pos)
  rotate_left
  · have HOP : Hid (o = (gn r k).pos) := by show _ = _; simpa using hop
    go_enter Try.func42, Try.ntmps42
    go_wp2_with fail
    refine (sfind_any _ len cap r o _ (HI.out.keepB (HB0.out _) (Nat.le_refl _)) HZ.out HM.out).mono ?_
    rintro e w1 ⟨rfl, rfl⟩
    rw [HFD.out]
    go_wp2_with fail
    refine (copy_any _ len cap r _ (HI.out.keepB (HB0.out _) (Nat.le_refl _)) HZ.out HV.out).mono ?_
    rintro e w2 ⟨N, c2, F, rfl, ho, h1, h2, hB⟩
    have HO := Lib.hid ho
    have HC := Lib.hid (And.intro h1 h2)
    clear ho h1 h2
    go_wp2
    go_ret2
    have e0 : notB r k o = false := by show (liveB r o && !decide (o = (gn r k).pos) && !(decide (0 ≤ (gn r k).bef) && liveB r (gn r k).bef && !btwI (gn r k).bef o (gn r k).pos)) = false; rw [HOP.out]; simp
    rw [notR, e0, if_neg (by simp)]
    exact NewOwn.toRB (HB0.out _) HO.out HC.out.1 HC.out.2 hB _ (by simp)
  have HOP : Hid (¬ o = (gn r k).pos) := by show ¬ _; simpa using hop
  by_cases hbf : 0 ≤ (gn r k).bef
  rotate_left
  · have d1 : decide (0 ≤ (gn r k).bef) = false := by simp; omega
    have HBF := Lib.hid hbf
    clear hbf
    go_enter Try.func42, Try.ntmps42
    go_wp2_with fail
    refine (sfind_any _ len cap r o _ (HI.out.keepB (HB0.out _) (Nat.le_refl _)) HZ.out HM.out).mono ?_
    rintro e w1 ⟨rfl, rfl⟩
    rw [HFD.out]
    go_wp2_with fail
    refine (set_any _ len cap k r (gn r k).pos o (gt (gn r k).aft 0) (gt (gn r k).aft 1) _ sc _ (HI.out.keepB (HB0.out _) (Nat.le_refl _)) HZ.out HV.out hk (HS.out.keepB (HB0.out _) (Nat.le_refl _)) hsc).mono ?_
    rintro e w2 ⟨N, c2, F, rfl, ho, h1, h2, hB⟩
    have HO := Lib.hid ho
    have HC := Lib.hid (And.intro h1 h2)
    clear ho h1 h2
    go_wp2
    go_ret2
    have e0 : notB r k o = true := by show (liveB r o && !decide (o = (gn r k).pos) && !(decide (0 ≤ (gn r k).bef) && liveB r (gn r k).bef && !btwI (gn r k).bef o (gn r k).pos)) = true; rw [HLO.out, decide_eq_false HOP.out, decide_eq_false (by have := HBF.out; omega)]; simp
    rw [notR, e0, if_pos rfl, HA.out]
    exact NewOwn.toRB (HB0.out _) HO.out HC.out.1 HC.out.2 hB _ (by simp)
  have HBF := Lib.hid hbf
  have d1 : decide (0 ≤ (gn r k).bef) = true := by simp; omega
  cases hlb : liveB r (gn r k).bef
  · have HLB := Lib.hid hlb
    have HFB := Lib.hid (fnd_dead hlb)
    clear hlb
    go_enter Try.func42, Try.ntmps42
    go_wp2_with fail
    refine (sfind_any _ len cap r o _ (HI.out.keepB (HB0.out _) (Nat.le_refl _)) HZ.out HM.out).mono ?_
    rintro e w1 ⟨rfl, rfl⟩
    rw [HFD.out]
    go_wp2_with fail
    refine (sfind_any _ len cap r (gn r k).bef _ (HI.out.keepB (HB0.out _) (Nat.le_refl _)) HZ.out HM.out).mono ?_
    rintro e w1 ⟨rfl, rfl⟩
    rw [HFB.out]
    go_wp2_with fail
    refine (set_any _ len cap k r (gn r k).pos o (gt (gn r k).aft 0) (gt (gn r k).aft 1) _ sc _ (HI.out.keepB (HB0.out _) (Nat.le_refl _)) HZ.out HV.out hk (HS.out.keepB (HB0.out _) (Nat.le_refl _)) hsc).mono ?_
    rintro e w2 ⟨N, c2, F, rfl, ho, h1, h2, hB⟩
    have HO := Lib.hid ho
    have HC := Lib.hid (And.intro h1 h2)
    clear ho h1 h2
    go_wp2
    go_ret2
    have e0 : notB r k o = true := by show (liveB r o && !decide (o = (gn r k).pos) && !(decide (0 ≤ (gn r k).bef) && liveB r (gn r k).bef && !btwI (gn r k).bef o (gn r k).pos)) = true; rw [HLO.out, decide_eq_false HOP.out, HLB.out]; simp
    rw [notR, e0, if_pos rfl, HA.out]
    exact NewOwn.toRB (HB0.out _) HO.out HC.out.1 HC.out.2 hB _ (by simp)
  obtain ⟨_, _, hfb⟩ := idx_live hlb
  have HLB := Lib.hid hlb
  have HFB := Lib.hid hfb
  have d2 : decide (0 ≤ (idxR r (gn r k).bef : Int)) = true := by simp
  clear hlb hfb
  cases hbt : btwI (gn r k).bef o (gn r k).pos
  · have HBT := Lib.hid hbt
    clear hbt
    go_enter Try.func42, Try.ntmps42
    go_wp2_with fail
    refine (sfind_any _ len cap r o _ (HI.out.keepB (HB0.out _) (Nat.le_refl _)) HZ.out HM.out).mono ?_
    rintro e w1 ⟨rfl, rfl⟩
    rw [HFD.out]
    go_wp2_with fail
    refine (sfind_any _ len cap r (gn r k).bef _ (HI.out.keepB (HB0.out _) (Nat.le_refl _)) HZ.out HM.out).mono ?_
    rintro e w1 ⟨rfl, rfl⟩
    rw [HFB.out]
    go_wp2_with fail
    refine (sbetw_as _ _ _ _ _ HBT.out).mono ?_
    rintro e w1 ⟨rfl, rfl⟩
    go_wp2_with fail
    refine (copy_any _ len cap r _ (HI.out.keepB (HB0.out _) (Nat.le_refl _)) HZ.out HV.out).mono ?_
    rintro e w2 ⟨N, c2, F, rfl, ho, h1, h2, hB⟩
    have HO := Lib.hid ho
    have HC := Lib.hid (And.intro h1 h2)
    clear ho h1 h2
    go_wp2
    go_ret2
    have e0 : notB r k o = false := by show (liveB r o && !decide (o = (gn r k).pos) && !(decide (0 ≤ (gn r k).bef) && liveB r (gn r k).bef && !btwI (gn r k).bef o (gn r k).pos)) = false; rw [HLB.out, HBT.out, decide_eq_true HBF.out]; simp
    rw [notR, e0, if_neg (by simp)]
    exact NewOwn.toRB (HB0.out _) HO.out HC.out.1 HC.out.2 hB _ (by simp)
  · have HBT := Lib.hid hbt
    clear hbt
    go_enter Try.func42, Try.ntmps42
    go_wp2_with fail
    refine (sfind_any _ len cap r o _ (HI.out.keepB (HB0.out _) (Nat.le_refl _)) HZ.out HM.out).mono ?_
    rintro e w1 ⟨rfl, rfl⟩
    rw [HFD.out]
    go_wp2_with fail
    refine (sfind_any _ len cap r (gn r k).bef _ (HI.out.keepB (HB0.out _) (Nat.le_refl _)) HZ.out HM.out).mono ?_
    rintro e w1 ⟨rfl, rfl⟩
    rw [HFB.out]
    go_wp2_with fail
    refine (sbetw_as _ _ _ _ _ HBT.out).mono ?_
    rintro e w1 ⟨rfl, rfl⟩
    go_wp2_with fail
    refine (set_any _ len cap k r (gn r k).pos o (gt (gn r k).aft 0) (gt (gn r k).aft 1) _ sc _ (HI.out.keepB (HB0.out _) (Nat.le_refl _)) HZ.out HV.out hk (HS.out.keepB (HB0.out _) (Nat.le_refl _)) hsc).mono ?_
    rintro e w2 ⟨N, c2, F, rfl, ho, h1, h2, hB⟩
    have HO := Lib.hid ho
    have HC := Lib.hid (And.intro h1 h2)
    clear ho h1 h2
    go_wp2
    go_ret2
    have e0 : notB r k o = true := by show (liveB r o && !decide (o = (gn r k).pos) && !(decide (0 ≤ (gn r k).bef) && liveB r (gn r k).bef && !btwI (gn r k).bef o (gn r k).pos)) = true; rw [HLO.out, decide_eq_false HOP.out, HBT.out]; simp
    rw [notR, e0, if_pos rfl, HA.out]
    exact NewOwn.toRB (HB0.out _) HO.out HC.out.1 HC.out.2 hB _ (by simp)

def oneB (r : List Nd) (id : Int) : Bool := safeB r && ptB id
def OnePost (r : List Nd) (id : Int) (w : World) (e : Ending) (w' : World) : Prop :=
  ((oneB r id = true ∧ e = .returned (.tuple #[.int .i64 (fndI r id), .bool true])) ∨ (oneB r id = false ∧ e = .returned (.tuple #[.int .i64 (-1), .bool false]))) ∧ Below w.heap.size w w'
theorem ssafe_as (v : Bool) (a : Option Addr) (len cap : Nat) (r : List Nd) (w : World) (h : RingAt w a r) (hz : r.length = len) (hm : len ≤ maxLen) (hv : safeB r = v) :
    Calls Try.prog 22 #[.slice a len cap] w fun e w' => e = .returned (.bool v) ∧ Below w.heap.size w w' := by subst hv; exact ssafe_any a len cap r w h hz hm

set_option maxHeartbeats 1000000 in
theorem sone_any (a : Option Addr) (len cap : Nat) (id : Int) (r : List Nd) (w : World) (h : RingAt w a r) (hz : r.length = len) (hm : len ≤ maxLen) :
    Calls Try.prog 40 #[.slice a len cap, .int .i64 id] w (OnePost r id w) := by
  have HI := Lib.hid h
  have HZ := Lib.hid hz
  have HM := Lib.hid hm
  clear h hz hm
  cases hs : safeB r
  · have He : Hid (oneB r id = false) := by show oneB r id = false; simp [oneB, hs]
    have HS := Lib.hid hs
    clear hs
    go_enter Try.func40, Try.ntmps40
    go_wp2_with fail
    refine (ssafe_as _ a len cap r w HI.out HZ.out HM.out HS.out).mono ?_
    rintro e w1 ⟨rfl, hb1⟩
    go_wp2
    go_ret2
    exact ⟨.inr ⟨He.out, rfl⟩, hb1⟩
  have HS := Lib.hid hs
  cases hp : ptB id
  · have He : Hid (oneB r id = false) := by show oneB r id = false; simp [oneB, hp]
    have HP := Lib.hid hp
    clear hs hp
    go_enter Try.func40, Try.ntmps40
    go_wp2_with fail
    refine (ssafe_as _ a len cap r w HI.out HZ.out HM.out HS.out).mono ?_
    rintro e w1 ⟨rfl, hb1⟩
    go_wp2_with fail
    refine (point_as _ id _ HP.out).mono ?_
    rintro e w2 ⟨rfl, rfl⟩
    go_wp2
    go_ret2
    exact ⟨.inr ⟨He.out, rfl⟩, hb1⟩
  · have He : Hid (oneB r id = true) := by show oneB r id = true; simp [oneB, hp, hs]
    have HP := Lib.hid hp
    clear hs hp
    go_enter Try.func40, Try.ntmps40
    go_wp2_with fail
    refine (ssafe_as _ a len cap r w HI.out HZ.out HM.out HS.out).mono ?_
    rintro e w1 ⟨rfl, hb1⟩
    go_wp2_with fail
    refine (point_as _ id _ HP.out).mono ?_
    rintro e w2 ⟨rfl, rfl⟩
    go_wp2_with fail
    refine (sfind_any _ len cap r id _ (HI.out.keepB hb1 (Nat.le_refl _)) HZ.out HM.out).mono ?_
    rintro e w2 ⟨rfl, rfl⟩
    go_wp2
    go_ret2
    exact ⟨.inl ⟨He.out, rfl⟩, hb1⟩

end

/- Stabilizing (the model). -/

section
open Go.RowKit
set_option linter.unusedVariables false


/-- at the head of the loop that drops dead successors -/
def StabAt (r : List Nd) (k : Nat) (w : World) (v d i : Value) (wr : World) : Prop :=
  ∃ a c, v = .slice a r.length c ∧ Below w.heap.size w wr ∧
    ((i = .int .i64 0 ∧ d = .bool true ∧ RingAt wr a r) ∨ (i = .int .i64 1 ∧ d = .bool (dropB r k) ∧ RingAt wr a (dropR r k)) ∨ (i = .int .i64 2 ∧ (∃ b, d = .bool b) ∧ dropB r k = true ∧ RingAt wr a (dropR (dropR r k) k)))

theorem stab_case {r : List Nd} {k : Nat} {w wr : World} {v d i : Value} (h : StabAt r k w v d i wr) : ∃ a c, v = .slice a r.length c ∧ Below w.heap.size w wr ∧
    ((i = .int .i64 0 ∧ d = .bool true ∧ RingAt wr a r) ∨ (i = .int .i64 1 ∧ d = .bool true ∧ Hid (dropB r k = true) ∧ RingAt wr a (dropR r k)) ∨ (i = .int .i64 1 ∧ d = .bool false ∧ RingAt wr a (drop2 r k)) ∨ (∃ b, i = .int .i64 2 ∧ d = .bool b ∧ RingAt wr a (drop2 r k))) := by
  obtain ⟨a, c, hv, hb, hst⟩ := h
  refine ⟨a, c, hv, hb, ?_⟩
  rcases hst with ⟨h1, h2, h3⟩ | ⟨h1, h2, h3⟩ | ⟨h1, ⟨b, h2⟩, h3, h4⟩
  · exact .inl ⟨h1, h2, h3⟩
  · cases hd : dropB r k
    · refine .inr (.inr (.inl ⟨h1, by rw [h2, hd], ?_⟩))
      rw [drop2, hd, if_neg (by simp)]; exact h3
    · exact .inr (.inl ⟨h1, by rw [h2, hd], by unfold Hid; trivial, h3⟩)
  · refine .inr (.inr (.inr ⟨b, h1, h2, ?_⟩))
    rw [drop2, h3, if_pos rfl]; exact h4
/-- the rest of a stabilization: from the ring behind the loop on -/
theorem stab_lens {r : List Nd} {k : Nat} (h : safeB r = true) (hk : k < r.length) : (drop2 r k).length = r.length ∧ (stab2 r k).length = r.length ∧ (stab3 r k).length = r.length ∧ (stabR r k).length = r.length :=
  ⟨(drop_first h hk).2.len, (stab2_ok h hk).1.len, (stab3_ok h hk).1.len, (stab_ok h hk).len⟩

set_option maxHeartbeats 4000000 in
theorem sstab_any (a : Option Addr) (len cap k : Nat) (r : List Nd) (w : World) (h : RingAt w a r) (hz : r.length = len) (hs : safeB r = true) (hk : k < len) :
    Calls Try.prog 49 #[.slice a len cap, .int .i64 k] w (NewOwn (stabR r k) w) := by
  subst hz
  have hv := safe_rv hs
  have hm := maxOf hv
  obtain ⟨l1, l2, l3, l4⟩ := stab_lens hs hk
  have hd1 := drop_ok hs hk
  obtain ⟨hf1, ho1⟩ := drop_first hs hk
  obtain ⟨ho2, hf2⟩ := stab2_ok hs hk
  obtain ⟨ho3, hf3⟩ := stab3_ok hs hk
  have HS := Lib.hid hs
  have HV := Lib.hid hv
  have HM := Lib.hid hm
  have L1 := Lib.hid l1
  have L2 := Lib.hid l2
  have L3 := Lib.hid l3
  have L4 := Lib.hid l4
  have HD1 := Lib.hid hd1
  have HO1 := Lib.hid ho1
  have HO2 := Lib.hid ho2
  have HO3 := Lib.hid ho3
  have HF2 := Lib.hid hf2
  have HF3 := Lib.hid hf3
  have HI := Lib.hid h
  clear h hs hv hm l1 l2 l3 l4 hd1 hf1 ho1 ho2 ho3 hf2 hf3
  have q0 : (0 : Int) ≤ (k : Int) := by omega
  have q1 : (k : Int) < (r.length : Int) := by omega
  go_enter Try.func49, Try.ntmps49
  go_wp2
  go_loopw [0, 5, 6] (fun v d i wr => StabAt r k w v d i wr) (fun _ _ i _ => 2 - (intOf i).toNat)
  case atStart => exact ⟨a, cap, rfl, Below.refl _ _, .inl ⟨rfl, rfl, HI.out⟩⟩
  case round =>
    obtain ⟨a1, c1, rfl, hbel, hst⟩ := stab_case hrel
    rcases hst with ⟨rfl, rfl, hring⟩ | ⟨rfl, rfl, hdb, hring⟩ | ⟨rfl, rfl, hring⟩ | ⟨bb, rfl, rfl, hring⟩
    · have HR := Lib.hid hring
      clear hring
      go_wp2_with fail
      refine (sdrop_any _ _ c1 k r wr HR.out rfl HV.out hk).mono ?_
      rintro e w2 ⟨N, c2, F, rfl, ho, h1, h2, hB⟩
      have HO := Lib.hid ho.ring
      clear ho h1 h2
      rw [HD1.out.len]
      go_wp2
      go_roundw
      case rel => exact ⟨_, c2, rfl, hbel.trans (hB.mono hbel.size), .inr (.inl ⟨rfl, rfl, HO.out⟩)⟩
      case measure => simp [intOf]
    · have HR := Lib.hid hring
      clear hring
      go_wp2_with fail
      refine (sdrop_any _ _ c1 k (dropR r k) wr HR.out HD1.out.len (safe_rv HD1.out.safe) hk).mono ?_
      rintro e w2 ⟨N, c2, F, rfl, ho, h1, h2, hB⟩
      have HO := Lib.hid ho.ring
      have hl : (dropR (dropR r k) k).length = r.length := (drop_ok HD1.out.safe (by rw [HD1.out.len]; exact hk)).len.trans HD1.out.len
      rw [hl]
      clear ho h1 h2 hl
      go_wp2
      go_roundw
      case rel => exact ⟨_, c2, rfl, hbel.trans (hB.mono hbel.size), .inr (.inr ⟨rfl, ⟨_, rfl⟩, hdb.out, HO.out⟩)⟩
      case measure => simp [intOf]
    all_goals
      have HR := Lib.hid hring
      clear hring
      go_wp2_with fail
      refine (sadopt_any _ _ c1 k (drop2 r k) wr HR.out L1.out (safe_rv HO1.out.safe) hk).mono ?_
      rintro e w2 ⟨N, c2, F, rfl, ho, h1, h2, hB⟩
      have H2 : Hid (RingAt w2 (some ⟨N, 0, none⟩) (stab2 r k)) := ho.ring
      have hl : (adoptR (drop2 r k) k).length = r.length := L2.out
      have hb2 : Below w.heap.size w w2 := hbel.trans (hB.mono hbel.size)
      rw [hl]
      clear ho h1 h2 hl
      obtain ⟨b, off, b3, o3, sc, hab, _, _, hsc, _, hc0, hc1, hc2, hx3, hy3, _⟩ := ring_node H2.out (safe_rv HO2.out.safe) (k := k) (by rw [L2.out]; exact hk)
      injection hab with hab
      injection hab with hbb hoo
      subst hbb hoo
      rw [Nat.zero_add] at hc0 hc1 hc2
      obtain ⟨hil, hip, hfd⟩ := idx_live HF2.out
      have HFD : Hid (fndI (stab2 r k) (gt (gn (stab2 r k) k).aft 0) = idxR (stab2 r k) (first (stab2 r k) k)) := hfd
      rw [L2.out] at hil
      obtain ⟨b', off', b3', o3', sc', hab', _, _, _, _, hd0, hd1, hd2, _, _, _⟩ := ring_node H2.out (safe_rv HO2.out.safe) (k := idxR (stab2 r k) (first (stab2 r k) k)) (by rw [L2.out]; exact hil)
      injection hab' with hab'
      injection hab' with hbb hoo
      subst hbb hoo
      rw [Nat.zero_add] at hd0 hd1 hd2
      have H3 : Hid (stab3 r k = if 0 ≤ (gn (stab2 r k) (idxR (stab2 r k) (first (stab2 r k) k))).bef then closerR (stab2 r k) k (gn (stab2 r k) (idxR (stab2 r k) (first (stab2 r k) k))).bef else stab2 r k) := rfl
      clear hfd hip
      generalize hss : idxR (stab2 r k) (first (stab2 r k) k) = s at *
      have HSS := Lib.hid hss
      clear hss
      have z0 : (0 : Int) ≤ (s : Int) := by omega
      have z1 : (s : Int) < (r.length : Int) := by omega
      go_wp2_with fail
      refine (sfind_any _ _ c2 (stab2 r k) _ w2 H2.out L2.out HM.out).mono ?_
      rintro e w3 ⟨rfl, rfl⟩
      rw [HFD.out]
      by_cases hbf : 0 ≤ (gn (stab2 r k) s).bef
      · have HE3 : Hid (stab3 r k = closerR (stab2 r k) k (gn (stab2 r k) s).bef) := H3.out.trans (if_pos hbf)
        have d0 : decide (0 ≤ (gn (stab2 r k) s).bef) = true := by simp; omega
        clear hbf
        go_wp2_with fail
        refine (scloser_any _ _ c2 k _ (stab2 r k) w2 H2.out L2.out (safe_rv HO2.out.safe) hk).mono ?_
        rintro e w4 ⟨N4, c4, F4, rfl, ho4, h41, h42, hB4⟩
        rw [← HE3.out] at ho4 ⊢
        have R3 : Hid (RingAt w4 (some ⟨N4, 0, none⟩) (stab3 r k)) := ho4.ring
        have hb4 : Below w.heap.size w w4 := hb2.trans (hB4.mono hb2.size)
        rw [L3.out]
        clear ho4 h41 h42 hc0 hc1 hc2 hx3 hy3 hd0 hd1 hd2 d0
        obtain ⟨b, off, b3, o3, sc, hab, _, _, hsc, _, hc0, hc1, hc2, hx3, hy3, _⟩ := ring_node R3.out (safe_rv HO3.out.safe) (k := k) (by rw [L3.out]; exact hk)
        injection hab with hab
        injection hab with hbb hoo
        subst hbb hoo
        rw [Nat.zero_add] at hc0 hc1 hc2
        obtain ⟨hil3, _, hfd⟩ := idx_live HF3.out
        have HFD3 : Hid (fndI (stab3 r k) (gt (gn (stab3 r k) k).aft 0) = idxR (stab3 r k) (first (stab3 r k) k)) := hfd
        rw [L3.out] at hil3
        clear hfd
        go_wp2_with fail
        refine (sfind_any _ _ c4 (stab3 r k) _ w4 R3.out L3.out HM.out).mono ?_
        rintro e w5 ⟨rfl, rfl⟩
        rw [HFD3.out]
        go_wp2_with fail
        refine (snot_any _ _ c4 _ _ (stab3 r k) w4 R3.out L3.out (safe_rv HO3.out.safe) hil3).mono ?_
        rintro e w6 ⟨N6, c6, F6, rfl, ho6, h61, h62, hB6⟩
        have HO6 : Hid (RingOwn w6 w4.heap.size w6.heap.size N6 (stabR r k) F6) := ho6
        have HC6 : Hid ((stabR r k).length ≤ c6 ∧ c6 ≤ maxLen) := ⟨h61, h62⟩
        clear ho6 h61 h62
        have hln : (notR (stab3 r k) (idxR (stab3 r k) (first (stab3 r k) k)) (gn (stab3 r k) k).pos).length = r.length := L4.out
        rw [hln]
        clear hln
        go_wp2
        go_ret
        exact ⟨N6, c6, F6, by rw [L4.out]; rfl, HO6.out.wide hb4.size (Nat.le_refl _), HC6.out.1, HC6.out.2, hb4.trans (hB6.mono hb4.size)⟩
      · have HE3 : Hid (stab3 r k = stab2 r k) := H3.out.trans (if_neg hbf)
        have d0 : decide (0 ≤ (gn (stab2 r k) s).bef) = false := by simp; omega
        clear hbf
        go_wp2_with fail
        refine (snot_any _ _ c2 _ _ (stab2 r k) w2 H2.out L2.out (safe_rv HO2.out.safe) hil).mono ?_
        rintro e w6 ⟨N6, c6, F6, rfl, ho6, h61, h62, hB6⟩
        have hEQ : notR (stab2 r k) s (gn (stab2 r k) k).pos = stabR r k := by rw [stabR, HE3.out, HSS.out]
        rw [hEQ] at ho6 h61 ⊢
        have HO6 := Lib.hid ho6
        have HC6 := Lib.hid (And.intro h61 h62)
        clear ho6 h61 h62 hEQ
        rw [L4.out]
        go_wp2
        go_ret
        exact ⟨N6, c6, F6, by rw [L4.out]; rfl, HO6.out.wide hb2.size (Nat.le_refl _), HC6.out.1, HC6.out.2, hb2.trans (hB6.mono hb2.size)⟩

end

/- The exported steps of the model. -/

section
open Go.RowKit
set_option linter.unusedVariables false


def selR (r : List Nd) (ok : Bool) (i : Int) (f : Nat → List Nd) : List Nd := if ok then (if liveB r i then f (idxR r i) else r) else []
def selB (r : List Nd) (ok : Bool) (i : Int) (g : Nat → Bool) : Bool := ok && liveB r i && g (idxR r i)
theorem NewRB.mono {r : List Nd} {b : Bool} {w w1 w2 : World} {e : Ending} (h : NewRB r b w1 e w2) (hb : Below w.heap.size w w1) : NewRB r b w e w2 := by
  obtain ⟨N, cap, F, he, ho, h1, h2, hB⟩ := h
  exact ⟨N, cap, F, he, ho.wide hb.size (Nat.le_refl _), h1, h2, hb.trans (hB.mono hb.size)⟩
theorem bool_cases (b : Bool) : b = false ∨ b = true := by cases b <;> simp
theorem one_safe {r : List Nd} {i : Int} (h : oneB r i = true) : safeB r = true := by unfold oneB at h; simp at h; exact h.1
theorem one_rv {r : List Nd} {i : Int} (h : oneB r i = true) : rvB r = true := by unfold oneB at h; simp at h; exact safe_rv h.1

set_option maxHeartbeats 1000000 in
theorem srdrop_any (a : Option Addr) (len cap : Nat) (i : Int) (r : List Nd) (w : World) (h : RingAt w a r) (hz : r.length = len) (hm : len ≤ maxLen) :
    Calls Try.prog 97 #[.slice a len cap, .int .i64 i] w (NewRB (selR r (oneB r i) i (dropR r)) (selB r (oneB r i) i (dropB r)) w) := by
  have HI := Lib.hid h
  have HZ := Lib.hid hz
  have HM := Lib.hid hm
  clear h hz hm
  rcases bool_cases (oneB r i) with ho | ho
  · have HO1 := Lib.hid ho
    clear ho
    go_enter Try.func97, Try.ntmps97
    go_wp2_with fail
    refine (sone_any a len cap i r w HI.out HZ.out HM.out).mono ?_
    rintro e w1 ⟨⟨hh, rfl⟩ | ⟨hx, rfl⟩, hb1⟩
    · rw [HO1.out] at hh; cases hh
    clear hx
    go_wp2
    go_ret2
    have e1 : selR r (oneB r i) i (dropR r) = [] := by simp [selR, HO1.out]
    have e2 : selB r (oneB r i) i (dropB r) = false := by simp [selB, HO1.out]
    rw [e1, e2]
    exact (newRB_nil w1 _).mono hb1
  have HO1 := Lib.hid ho
  have HV := Lib.hid (one_rv ho)
  clear ho
  rcases bool_cases (liveB r i) with hli | hli
  · have HL := Lib.hid hli
    have HFD := Lib.hid (fnd_dead hli)
    clear hli
    go_enter Try.func97, Try.ntmps97
    go_wp2_with fail
    refine (sone_any a len cap i r w HI.out HZ.out HM.out).mono ?_
    rintro e w1 ⟨⟨hx, rfl⟩ | ⟨hh, rfl⟩, hb1⟩
    rotate_left
    · rw [HO1.out] at hh; cases hh
    clear hx
    rw [HFD.out]
    go_wp2_with fail
    refine (copy_any _ len cap r _ (HI.out.keepB hb1 (Nat.le_refl _)) HZ.out HV.out).mono ?_
    rintro e w2 ⟨N, c2, F, rfl, ho, h1, h2, hB⟩
    have HO := Lib.hid ho
    have HC := Lib.hid (And.intro h1 h2)
    clear ho h1 h2
    go_wp2
    go_ret2
    have e1 : selR r (oneB r i) i (dropR r) = r := by simp [selR, HO1.out, HL.out]
    have e2 : selB r (oneB r i) i (dropB r) = false := by simp [selB, HO1.out, HL.out]
    rw [e1, e2]
    exact NewOwn.toRB hb1 HO.out HC.out.1 HC.out.2 hB _ (by simp)
  · obtain ⟨hil, _, hfd⟩ := idx_live hli
    have HL := Lib.hid hli
    have HFD := Lib.hid hfd
    rw [HZ.out] at hil
    have d0 : decide ((idxR r i : Int) < 0) = false := by simp
    clear hli hfd
    go_enter Try.func97, Try.ntmps97
    go_wp2_with fail
    refine (sone_any a len cap i r w HI.out HZ.out HM.out).mono ?_
    rintro e w1 ⟨⟨hx, rfl⟩ | ⟨hh, rfl⟩, hb1⟩
    rotate_left
    · rw [HO1.out] at hh; cases hh
    clear hx
    rw [HFD.out]
    go_wp2_with fail
    refine (sdrop_any _ len cap _ r _ (HI.out.keepB hb1 (Nat.le_refl _)) HZ.out HV.out hil).mono ?_
    rintro e w2 ⟨N, c2, F, rfl, ho, h1, h2, hB⟩
    have HO := Lib.hid ho
    have HC := Lib.hid (And.intro h1 h2)
    clear ho h1 h2
    have e1 : selR r (oneB r i) i (dropR r) = (dropR r) (idxR r i) := by simp [selR, HO1.out, HL.out]
    have e2 : selB r (oneB r i) i (dropB r) = (dropB r) (idxR r i) := by simp [selB, HO1.out, HL.out]
    have E1 := Lib.hid e1
    have E2 := Lib.hid e2
    clear e1 e2
    go_wp2
    go_ret2
    rw [E1.out, E2.out]
    exact ⟨N, c2, F, rfl, HO.out.wide hb1.size (Nat.le_refl _), HC.out.1, HC.out.2, hb1.trans (hB.mono hb1.size)⟩

set_option maxHeartbeats 1000000 in
theorem sradopt_any (a : Option Addr) (len cap : Nat) (i : Int) (r : List Nd) (w : World) (h : RingAt w a r) (hz : r.length = len) (hm : len ≤ maxLen) :
    Calls Try.prog 98 #[.slice a len cap, .int .i64 i] w (NewRB (selR r (oneB r i) i (adoptR r)) (selB r (oneB r i) i (adoptB r)) w) := by
  have HI := Lib.hid h
  have HZ := Lib.hid hz
  have HM := Lib.hid hm
  clear h hz hm
  rcases bool_cases (oneB r i) with ho | ho
  · have HO1 := Lib.hid ho
    clear ho
    go_enter Try.func98, Try.ntmps98
    go_wp2_with fail
    refine (sone_any a len cap i r w HI.out HZ.out HM.out).mono ?_
    rintro e w1 ⟨⟨hh, rfl⟩ | ⟨hx, rfl⟩, hb1⟩
    · rw [HO1.out] at hh; cases hh
    clear hx
    go_wp2
    go_ret2
    have e1 : selR r (oneB r i) i (adoptR r) = [] := by simp [selR, HO1.out]
    have e2 : selB r (oneB r i) i (adoptB r) = false := by simp [selB, HO1.out]
    rw [e1, e2]
    exact (newRB_nil w1 _).mono hb1
  have HO1 := Lib.hid ho
  have HV := Lib.hid (one_rv ho)
  clear ho
  rcases bool_cases (liveB r i) with hli | hli
  · have HL := Lib.hid hli
    have HFD := Lib.hid (fnd_dead hli)
    clear hli
    go_enter Try.func98, Try.ntmps98
    go_wp2_with fail
    refine (sone_any a len cap i r w HI.out HZ.out HM.out).mono ?_
    rintro e w1 ⟨⟨hx, rfl⟩ | ⟨hh, rfl⟩, hb1⟩
    rotate_left
    · rw [HO1.out] at hh; cases hh
    clear hx
    rw [HFD.out]
    go_wp2_with fail
    refine (copy_any _ len cap r _ (HI.out.keepB hb1 (Nat.le_refl _)) HZ.out HV.out).mono ?_
    rintro e w2 ⟨N, c2, F, rfl, ho, h1, h2, hB⟩
    have HO := Lib.hid ho
    have HC := Lib.hid (And.intro h1 h2)
    clear ho h1 h2
    go_wp2
    go_ret2
    have e1 : selR r (oneB r i) i (adoptR r) = r := by simp [selR, HO1.out, HL.out]
    have e2 : selB r (oneB r i) i (adoptB r) = false := by simp [selB, HO1.out, HL.out]
    rw [e1, e2]
    exact NewOwn.toRB hb1 HO.out HC.out.1 HC.out.2 hB _ (by simp)
  · obtain ⟨hil, _, hfd⟩ := idx_live hli
    have HL := Lib.hid hli
    have HFD := Lib.hid hfd
    rw [HZ.out] at hil
    have d0 : decide ((idxR r i : Int) < 0) = false := by simp
    clear hli hfd
    go_enter Try.func98, Try.ntmps98
    go_wp2_with fail
    refine (sone_any a len cap i r w HI.out HZ.out HM.out).mono ?_
    rintro e w1 ⟨⟨hx, rfl⟩ | ⟨hh, rfl⟩, hb1⟩
    rotate_left
    · rw [HO1.out] at hh; cases hh
    clear hx
    rw [HFD.out]
    go_wp2_with fail
    refine (sadopt_any _ len cap _ r _ (HI.out.keepB hb1 (Nat.le_refl _)) HZ.out HV.out hil).mono ?_
    rintro e w2 ⟨N, c2, F, rfl, ho, h1, h2, hB⟩
    have HO := Lib.hid ho
    have HC := Lib.hid (And.intro h1 h2)
    clear ho h1 h2
    have e1 : selR r (oneB r i) i (adoptR r) = (adoptR r) (idxR r i) := by simp [selR, HO1.out, HL.out]
    have e2 : selB r (oneB r i) i (adoptB r) = (adoptB r) (idxR r i) := by simp [selB, HO1.out, HL.out]
    have E1 := Lib.hid e1
    have E2 := Lib.hid e2
    clear e1 e2
    go_wp2
    go_ret2
    rw [E1.out, E2.out]
    exact ⟨N, c2, F, rfl, HO.out.wide hb1.size (Nat.le_refl _), HC.out.1, HC.out.2, hb1.trans (hB.mono hb1.size)⟩

set_option maxHeartbeats 1000000 in
theorem srcloser_any (a : Option Addr) (len cap : Nat) (i o : Int) (r : List Nd) (w : World) (h : RingAt w a r) (hz : r.length = len) (hm : len ≤ maxLen) :
    Calls Try.prog 21 #[.slice a len cap, .int .i64 i, .int .i64 o] w (NewRB (selR r (oneB r i && ptB o) i (fun k => closerR r k o)) (selB r (oneB r i && ptB o) i (fun k => closerB r k o)) w) := by
  have HI := Lib.hid h
  have HZ := Lib.hid hz
  have HM := Lib.hid hm
  clear h hz hm
  rcases bool_cases (oneB r i) with ho | ho
  · have HO1 := Lib.hid ho
    clear ho
    go_enter Try.func21, Try.ntmps21
    go_wp2_with fail
    refine (sone_any a len cap i r w HI.out HZ.out HM.out).mono ?_
    rintro e w1 ⟨⟨hh, rfl⟩ | ⟨hx, rfl⟩, hb1⟩
    · rw [HO1.out] at hh; cases hh
    clear hx
    go_wp2
    go_ret2
    have e1 : selR r (oneB r i && ptB o) i (fun k => closerR r k o) = [] := by simp [selR, HO1.out]
    have e2 : selB r (oneB r i && ptB o) i (fun k => closerB r k o) = false := by simp [selB, HO1.out]
    rw [e1, e2]
    exact (newRB_nil w1 _).mono hb1
  have HO1 := Lib.hid ho
  have HV := Lib.hid (one_rv ho)
  clear ho
  rcases bool_cases (ptB o) with hpo | hpo
  · have HP := Lib.hid hpo
    clear hpo
    go_enter Try.func21, Try.ntmps21
    go_wp2_with fail
    refine (sone_any a len cap i r w HI.out HZ.out HM.out).mono ?_
    rintro e w1 ⟨⟨hx, rfl⟩ | ⟨hh, rfl⟩, hb1⟩
    rotate_left
    · rw [HO1.out] at hh; cases hh
    clear hx
    go_wp2_with fail
    refine (point_as _ o _ HP.out).mono ?_
    rintro e w2 ⟨rfl, rfl⟩
    go_wp2
    go_ret2
    have e1 : selR r (oneB r i && ptB o) i (fun k => closerR r k o) = [] := by simp [selR, HO1.out, HP.out]
    have e2 : selB r (oneB r i && ptB o) i (fun k => closerB r k o) = false := by simp [selB, HO1.out, HP.out]
    rw [e1, e2]
    exact (newRB_nil w1 _).mono hb1
  have HP := Lib.hid hpo
  clear hpo
  rcases bool_cases (liveB r i) with hli | hli
  · have HL := Lib.hid hli
    have HFD := Lib.hid (fnd_dead hli)
    clear hli
    go_enter Try.func21, Try.ntmps21
    go_wp2_with fail
    refine (sone_any a len cap i r w HI.out HZ.out HM.out).mono ?_
    rintro e w1 ⟨⟨hx, rfl⟩ | ⟨hh, rfl⟩, hb1⟩
    rotate_left
    · rw [HO1.out] at hh; cases hh
    clear hx
    rw [HFD.out]
    go_wp2_with fail
    refine (point_as _ o _ HP.out).mono ?_
    rintro e w2 ⟨rfl, rfl⟩
    go_wp2_with fail
    refine (copy_any _ len cap r _ (HI.out.keepB hb1 (Nat.le_refl _)) HZ.out HV.out).mono ?_
    rintro e w2 ⟨N, c2, F, rfl, ho, h1, h2, hB⟩
    have HO := Lib.hid ho
    have HC := Lib.hid (And.intro h1 h2)
    clear ho h1 h2
    go_wp2
    go_ret2
    have e1 : selR r (oneB r i && ptB o) i (fun k => closerR r k o) = r := by simp [selR, HO1.out, HL.out, HP.out]
    have e2 : selB r (oneB r i && ptB o) i (fun k => closerB r k o) = false := by simp [selB, HO1.out, HL.out, HP.out]
    rw [e1, e2]
    exact NewOwn.toRB hb1 HO.out HC.out.1 HC.out.2 hB _ (by simp)
  · obtain ⟨hil, _, hfd⟩ := idx_live hli
    have HL := Lib.hid hli
    have HFD := Lib.hid hfd
    rw [HZ.out] at hil
    have d0 : decide ((idxR r i : Int) < 0) = false := by simp
    clear hli hfd
    go_enter Try.func21, Try.ntmps21
    go_wp2_with fail
    refine (sone_any a len cap i r w HI.out HZ.out HM.out).mono ?_
    rintro e w1 ⟨⟨hx, rfl⟩ | ⟨hh, rfl⟩, hb1⟩
    rotate_left
    · rw [HO1.out] at hh; cases hh
    clear hx
    rw [HFD.out]
    go_wp2_with fail
    refine (point_as _ o _ HP.out).mono ?_
    rintro e w2 ⟨rfl, rfl⟩
    go_wp2_with fail
    refine (scloser_any _ len cap _ o r _ (HI.out.keepB hb1 (Nat.le_refl _)) HZ.out HV.out hil).mono ?_
    rintro e w2 ⟨N, c2, F, rfl, ho, h1, h2, hB⟩
    have HO := Lib.hid ho
    have HC := Lib.hid (And.intro h1 h2)
    clear ho h1 h2
    have e1 : selR r (oneB r i && ptB o) i (fun k => closerR r k o) = (fun k => closerR r k o) (idxR r i) := by simp [selR, HO1.out, HL.out, HP.out]
    have e2 : selB r (oneB r i && ptB o) i (fun k => closerB r k o) = (fun k => closerB r k o) (idxR r i) := by simp [selB, HO1.out, HL.out, HP.out]
    have E1 := Lib.hid e1
    have E2 := Lib.hid e2
    clear e1 e2
    go_wp2
    go_ret2
    rw [E1.out, E2.out]
    exact ⟨N, c2, F, rfl, HO.out.wide hb1.size (Nat.le_refl _), HC.out.1, HC.out.2, hb1.trans (hB.mono hb1.size)⟩

set_option maxHeartbeats 1000000 in
theorem srnot_any (a : Option Addr) (len cap : Nat) (i o : Int) (r : List Nd) (w : World) (h : RingAt w a r) (hz : r.length = len) (hm : len ≤ maxLen) :
    Calls Try.prog 14 #[.slice a len cap, .int .i64 i, .int .i64 o] w (NewRB (selR r (oneB r i && ptB o) i (fun k => notR r k o)) (selB r (oneB r i && ptB o) i (fun k => notB r k o)) w) := by
  have HI := Lib.hid h
  have HZ := Lib.hid hz
  have HM := Lib.hid hm
  clear h hz hm
  rcases bool_cases (oneB r i) with ho | ho
  · have HO1 := Lib.hid ho
    clear ho
    go_enter Try.func14, Try.ntmps14
    go_wp2_with fail
    refine (sone_any a len cap i r w HI.out HZ.out HM.out).mono ?_
    rintro e w1 ⟨⟨hh, rfl⟩ | ⟨hx, rfl⟩, hb1⟩
    · rw [HO1.out] at hh; cases hh
    clear hx
    go_wp2
    go_ret2
    have e1 : selR r (oneB r i && ptB o) i (fun k => notR r k o) = [] := by simp [selR, HO1.out]
    have e2 : selB r (oneB r i && ptB o) i (fun k => notB r k o) = false := by simp [selB, HO1.out]
    rw [e1, e2]
    exact (newRB_nil w1 _).mono hb1
  have HO1 := Lib.hid ho
  have HV := Lib.hid (one_rv ho)
  clear ho
  rcases bool_cases (ptB o) with hpo | hpo
  · have HP := Lib.hid hpo
    clear hpo
    go_enter Try.func14, Try.ntmps14
    go_wp2_with fail
    refine (sone_any a len cap i r w HI.out HZ.out HM.out).mono ?_
    rintro e w1 ⟨⟨hx, rfl⟩ | ⟨hh, rfl⟩, hb1⟩
    rotate_left
    · rw [HO1.out] at hh; cases hh
    clear hx
    go_wp2_with fail
    refine (point_as _ o _ HP.out).mono ?_
    rintro e w2 ⟨rfl, rfl⟩
    go_wp2
    go_ret2
    have e1 : selR r (oneB r i && ptB o) i (fun k => notR r k o) = [] := by simp [selR, HO1.out, HP.out]
    have e2 : selB r (oneB r i && ptB o) i (fun k => notB r k o) = false := by simp [selB, HO1.out, HP.out]
    rw [e1, e2]
    exact (newRB_nil w1 _).mono hb1
  have HP := Lib.hid hpo
  clear hpo
  rcases bool_cases (liveB r i) with hli | hli
  · have HL := Lib.hid hli
    have HFD := Lib.hid (fnd_dead hli)
    clear hli
    go_enter Try.func14, Try.ntmps14
    go_wp2_with fail
    refine (sone_any a len cap i r w HI.out HZ.out HM.out).mono ?_
    rintro e w1 ⟨⟨hx, rfl⟩ | ⟨hh, rfl⟩, hb1⟩
    rotate_left
    · rw [HO1.out] at hh; cases hh
    clear hx
    rw [HFD.out]
    go_wp2_with fail
    refine (point_as _ o _ HP.out).mono ?_
    rintro e w2 ⟨rfl, rfl⟩
    go_wp2_with fail
    refine (copy_any _ len cap r _ (HI.out.keepB hb1 (Nat.le_refl _)) HZ.out HV.out).mono ?_
    rintro e w2 ⟨N, c2, F, rfl, ho, h1, h2, hB⟩
    have HO := Lib.hid ho
    have HC := Lib.hid (And.intro h1 h2)
    clear ho h1 h2
    go_wp2
    go_ret2
    have e1 : selR r (oneB r i && ptB o) i (fun k => notR r k o) = r := by simp [selR, HO1.out, HL.out, HP.out]
    have e2 : selB r (oneB r i && ptB o) i (fun k => notB r k o) = false := by simp [selB, HO1.out, HL.out, HP.out]
    rw [e1, e2]
    exact NewOwn.toRB hb1 HO.out HC.out.1 HC.out.2 hB _ (by simp)
  · obtain ⟨hil, _, hfd⟩ := idx_live hli
    have HL := Lib.hid hli
    have HFD := Lib.hid hfd
    rw [HZ.out] at hil
    have d0 : decide ((idxR r i : Int) < 0) = false := by simp
    clear hli hfd
    go_enter Try.func14, Try.ntmps14
    go_wp2_with fail
    refine (sone_any a len cap i r w HI.out HZ.out HM.out).mono ?_
    rintro e w1 ⟨⟨hx, rfl⟩ | ⟨hh, rfl⟩, hb1⟩
    rotate_left
    · rw [HO1.out] at hh; cases hh
    clear hx
    rw [HFD.out]
    go_wp2_with fail
    refine (point_as _ o _ HP.out).mono ?_
    rintro e w2 ⟨rfl, rfl⟩
    go_wp2_with fail
    refine (snot_any _ len cap _ o r _ (HI.out.keepB hb1 (Nat.le_refl _)) HZ.out HV.out hil).mono ?_
    rintro e w2 ⟨N, c2, F, rfl, ho, h1, h2, hB⟩
    have HO := Lib.hid ho
    have HC := Lib.hid (And.intro h1 h2)
    clear ho h1 h2
    have e1 : selR r (oneB r i && ptB o) i (fun k => notR r k o) = (fun k => notR r k o) (idxR r i) := by simp [selR, HO1.out, HL.out, HP.out]
    have e2 : selB r (oneB r i && ptB o) i (fun k => notB r k o) = (fun k => notB r k o) (idxR r i) := by simp [selB, HO1.out, HL.out, HP.out]
    have E1 := Lib.hid e1
    have E2 := Lib.hid e2
    clear e1 e2
    go_wp2
    go_ret2
    rw [E1.out, E2.out]
    exact ⟨N, c2, F, rfl, HO.out.wide hb1.size (Nat.le_refl _), HC.out.1, HC.out.2, hb1.trans (hB.mono hb1.size)⟩

set_option maxHeartbeats 1000000 in
theorem srstab_any (a : Option Addr) (len cap : Nat) (i : Int) (r : List Nd) (w : World) (h : RingAt w a r) (hz : r.length = len) (hm : len ≤ maxLen) :
    Calls Try.prog 29 #[.slice a len cap, .int .i64 i] w (NewRB (selR r (oneB r i) i (stabR r)) (selB r (oneB r i) i (fun _ => true)) w) := by
  have HI := Lib.hid h
  have HZ := Lib.hid hz
  have HM := Lib.hid hm
  clear h hz hm
  rcases bool_cases (oneB r i) with ho | ho
  · have HO1 := Lib.hid ho
    clear ho
    go_enter Try.func29, Try.ntmps29
    go_wp2_with fail
    refine (sone_any a len cap i r w HI.out HZ.out HM.out).mono ?_
    rintro e w1 ⟨⟨hh, rfl⟩ | ⟨hx, rfl⟩, hb1⟩
    · rw [HO1.out] at hh; cases hh
    clear hx
    go_wp2
    go_ret2
    have e1 : selR r (oneB r i) i (stabR r) = [] := by simp [selR, HO1.out]
    have e2 : selB r (oneB r i) i (fun _ => true) = false := by simp [selB, HO1.out]
    rw [e1, e2]
    exact (newRB_nil w1 _).mono hb1
  have HO1 := Lib.hid ho
  have HV := Lib.hid (one_rv ho)
  clear ho
  rcases bool_cases (liveB r i) with hli | hli
  · have HL := Lib.hid hli
    have HFD := Lib.hid (fnd_dead hli)
    clear hli
    go_enter Try.func29, Try.ntmps29
    go_wp2_with fail
    refine (sone_any a len cap i r w HI.out HZ.out HM.out).mono ?_
    rintro e w1 ⟨⟨hx, rfl⟩ | ⟨hh, rfl⟩, hb1⟩
    rotate_left
    · rw [HO1.out] at hh; cases hh
    clear hx
    rw [HFD.out]
    go_wp2_with fail
    refine (copy_any _ len cap r _ (HI.out.keepB hb1 (Nat.le_refl _)) HZ.out HV.out).mono ?_
    rintro e w2 ⟨N, c2, F, rfl, ho, h1, h2, hB⟩
    have HO := Lib.hid ho
    have HC := Lib.hid (And.intro h1 h2)
    clear ho h1 h2
    go_wp2
    go_ret2
    have e1 : selR r (oneB r i) i (stabR r) = r := by simp [selR, HO1.out, HL.out]
    have e2 : selB r (oneB r i) i (fun _ => true) = false := by simp [selB, HO1.out, HL.out]
    rw [e1, e2]
    exact NewOwn.toRB hb1 HO.out HC.out.1 HC.out.2 hB _ (by simp)
  · obtain ⟨hil, _, hfd⟩ := idx_live hli
    have HL := Lib.hid hli
    have HFD := Lib.hid hfd
    rw [HZ.out] at hil
    have d0 : decide ((idxR r i : Int) < 0) = false := by simp
    clear hli hfd
    go_enter Try.func29, Try.ntmps29
    go_wp2_with fail
    refine (sone_any a len cap i r w HI.out HZ.out HM.out).mono ?_
    rintro e w1 ⟨⟨hx, rfl⟩ | ⟨hh, rfl⟩, hb1⟩
    rotate_left
    · rw [HO1.out] at hh; cases hh
    clear hx
    rw [HFD.out]
    go_wp2_with fail
    refine (sstab_any _ len cap _ r _ (HI.out.keepB hb1 (Nat.le_refl _)) HZ.out (one_safe HO1.out) hil).mono ?_
    rintro e w2 ⟨N, c2, F, rfl, ho, h1, h2, hB⟩
    have HO := Lib.hid ho
    have HC := Lib.hid (And.intro h1 h2)
    clear ho h1 h2
    have e1 : selR r (oneB r i) i (stabR r) = (stabR r) (idxR r i) := by simp [selR, HO1.out, HL.out]
    have e2 : selB r (oneB r i) i (fun _ => true) = true := by simp [selB, HO1.out, HL.out]
    have E1 := Lib.hid e1
    have E2 := Lib.hid e2
    clear e1 e2
    go_wp2
    go_ret2
    rw [E1.out, E2.out]
    exact ⟨N, c2, F, rfl, HO.out.wide hb1.size (Nat.le_refl _), HC.out.1, HC.out.2, hb1.trans (hB.mono hb1.size)⟩

end

/- A node fails (the model). -/

section
open Go.RowKit
set_option linter.unusedVariables false


/-- a ring in memory as a list of nodes with their slices -/
theorem ring_list {w : World} {a : Option Addr} {r : List Nd} (h : RingAt w a r) (hr : 0 < r.length) : ∃ b off, ∃ L : List (Nd × Value), a = some ⟨b, off, none⟩ ∧ b < w.heap.size ∧ L.map (·.1) = r ∧ (∀ j u, (flatL L)[j]? = some u → w.cell? ⟨b, off + j, none⟩ = some u) ∧ ∀ p ∈ L, IntsV w p.2 p.1.aft := by
  obtain ⟨b, off, rfl, hb0, hnodes⟩ := h.at_ hr
  have hch : ∃ V : Nat → Value, ∀ i, i < r.length → w.cell? ⟨b, off + i * 3 + 2, none⟩ = some (V i) ∧ IntsV w (V i) (gn r i).aft := by
    have : Inhabited Value := ⟨.int .i64 0⟩
    classical
    refine ⟨fun i => if hi : i < r.length then Classical.choose (hnodes i hi).2.2 else .int .i64 0, fun i hi => ?_⟩
    simp only [dif_pos hi]
    exact Classical.choose_spec (hnodes i hi).2.2
  obtain ⟨V, hV⟩ := hch
  let L : List (Nd × Value) := (List.range r.length).map fun i => (gn r i, V i)
  have hL : ∀ i, i < r.length → L[i]? = some (gn r i, V i) := fun i hi => by simp [L, hi]
  have hLl : L.length = r.length := by simp [L]
  refine ⟨b, off, L, rfl, hb0, ?_, fun j u hu => ?_, fun p hp => ?_⟩
  · refine List.ext_getElem (by simp [L]) fun i h1 h2 => ?_
    simp [L, gn_get h2]
  · have hj : j < L.length * 3 := by
      have := (List.getElem?_eq_some_iff.1 hu).1
      rw [flatL_len] at this; exact this
    have hi : j / 3 < r.length := by rw [← hLl]; omega
    obtain ⟨f0, f1, f2⟩ := flatL_at (hL _ hi)
    have hm : j = j / 3 * 3 ∨ j = j / 3 * 3 + 1 ∨ j = j / 3 * 3 + 2 := by omega
    obtain ⟨c0, c1, _⟩ := hnodes _ hi
    rcases hm with e | e | e
    · rw [e] at hu ⊢; rw [f0] at hu; rw [← hu]; exact c0
    · rw [e] at hu ⊢; rw [f1] at hu; rw [← hu]; exact c1
    · rw [e] at hu ⊢; rw [f2] at hu; rw [← hu]; exact (hV _ hi).1
  · obtain ⟨i, hi, rfl⟩ := List.mem_map.1 hp
    exact (hV i (List.mem_range.1 hi)).2
theorem flat_take {L : List (Nd × Value)} {k j : Nat} {u : Value} (h : (flatL (L.take k))[j]? = some u) : (flatL L)[j]? = some u := by
  have e : flatL L = flatL (L.take k) ++ flatL (L.drop k) := by rw [← flatL_app, List.take_append_drop]
  rw [e, List.getElem?_append_left (List.getElem?_eq_some_iff.1 h).1]; exact h
theorem flat_drop {L : List (Nd × Value)} {k j : Nat} {u : Value} (hk : k ≤ L.length) (h : (flatL (L.drop k))[j]? = some u) : (flatL L)[k * 3 + j]? = some u := by
  have e : flatL L = flatL (L.take k) ++ flatL (L.drop k) := by rw [← flatL_app, List.take_append_drop]
  have hl : (flatL (L.take k)).length = k * 3 := by rw [flatL_len, List.length_take, Nat.min_eq_left hk]
  rw [e, List.getElem?_append_right (by omega), hl, Nat.add_sub_cancel_left]; exact h

def cutR (r : List Nd) (k : Nat) : List Nd := r.take k ++ r.drop (k + 1)
theorem cut_len {r : List Nd} {k : Nat} (hk : k < r.length) : (cutR r k).length = r.length - 1 := by simp [cutR]; omega
theorem cut_at {r : List Nd} {k i : Nat} (hk : k < r.length) (hi : i < r.length - 1) : gn (cutR r k) i = if i < k then gn r i else gn r (i + 1) := by
  have hl := cut_len hk
  rw [gn_get (by omega)]
  unfold cutR
  by_cases h : i < k
  · rw [if_pos h, List.getElem_append_left (by simp; omega), gn_get (by omega)]; simp
  · rw [if_neg h, List.getElem_append_right (by simp; omega), gn_get (by omega)]; simp
    congr 1; omega
theorem cut_rv {r : List Nd} {k : Nat} (h : rvB r = true) (hk : k < r.length) : rvB (cutR r k) = true := by
  have hl := cut_len hk
  refine (rv_iff _).2 ⟨by rw [hl]; have := rv_len h; omega, fun i hi => ?_⟩
  rw [hl] at hi
  refine ⟨?_, ?_⟩
  · rw [cut_at hk hi]; split
    · exact rv_nd h (by omega)
    · exact rv_nd h (by omega)
  · by_cases h0 : i = 0
    · exact .inl h0
    · refine .inr ?_
      rw [cut_at hk hi, cut_at hk (by omega)]
      by_cases h1 : i < k
      · rw [if_pos h1, if_pos (by omega)]; exact rv_lt h (by omega) (by omega)
      · rw [if_neg h1]; split
        · exact rv_lt h (by omega) (by omega)
        · exact rv_lt h (by omega) (by omega)
def failB (r : List Nd) (i : Int) : Bool := oneB r i && liveB r i && sfB (cutR r (idxR r i))
def failR (r : List Nd) (i : Int) : List Nd := if oneB r i then (if liveB r i && sfB (cutR r (idxR r i)) then cutR r (idxR r i) else r) else []
theorem IntsV.keepB {w w' : World} {B : Nat} {v : Value} {zs : List Int} (h : IntsV w v zs) (hb : Below B w w') (hB : w.heap.size ≤ B) : IntsV w' v zs := by
  obtain ⟨a, c, hv, h1, h2, h3⟩ := h; exact ⟨a, c, hv, h1, h2, h3.keepB hb hB⟩
theorem ssf_as (v : Bool) (a : Option Addr) (len cap : Nat) (r : List Nd) (w : World) (h : RingAt w a r) (hz : r.length = len) (hv : rvB r = true) (hs : sfB r = v) :
    Calls Try.prog 47 #[.slice a len cap] w fun e w' => e = .returned (.bool v) ∧ Below w.heap.size w w' := by subst hs; exact ssf_any a len cap r w h hz hv

set_option maxHeartbeats 4000000 in
theorem sfail_any (a : Option Addr) (len cap : Nat) (i : Int) (r : List Nd) (w : World) (h : RingAt w a r) (hz : r.length = len) (hcap : len ≤ cap) (hcm : cap ≤ maxLen) :
    Calls Try.prog 96 #[.slice a len cap, .int .i64 i] w (NewRB (failR r i) (failB r i) w) := by
  have hm : len ≤ maxLen := Nat.le_trans hcap hcm
  have HI := Lib.hid h
  have HZ := Lib.hid hz
  have HM := Lib.hid hm
  unfold maxLen at hcm
  clear h hz hm
  rcases bool_cases (safeB r) with hs | hs
  · have HS := Lib.hid hs
    have HO1 : Hid (oneB r i = false) := by show oneB r i = false; simp [oneB, hs]
    clear hs
    go_enter Try.func96, Try.ntmps96
    go_wp2_with fail
    refine (ssafe_as _ a len cap r w HI.out HZ.out HM.out HS.out).mono ?_
    rintro e w1 ⟨rfl, hb1⟩
    go_wp2
    go_ret2
    have e1 : failR r i = [] := by simp [failR, HO1.out]
    have e2 : failB r i = false := by simp [failB, HO1.out]
    rw [e1, e2]
    exact (newRB_nil w1 _).mono hb1
  rcases bool_cases (ptB i) with hp | hp
  · have HS := Lib.hid hs
    have HP := Lib.hid hp
    have HO1 : Hid (oneB r i = false) := by show oneB r i = false; simp [oneB, hp]
    clear hs hp
    go_enter Try.func96, Try.ntmps96
    go_wp2_with fail
    refine (ssafe_as _ a len cap r w HI.out HZ.out HM.out HS.out).mono ?_
    rintro e w1 ⟨rfl, hb1⟩
    go_wp2_with fail
    refine (point_as _ i _ HP.out).mono ?_
    rintro e w2 ⟨rfl, rfl⟩
    go_wp2
    go_ret2
    have e1 : failR r i = [] := by simp [failR, HO1.out]
    have e2 : failB r i = false := by simp [failB, HO1.out]
    rw [e1, e2]
    exact (newRB_nil w1 _).mono hb1
  have HO1 : Hid (oneB r i = true) := by show oneB r i = true; simp [oneB, hp, hs]
  have HS := Lib.hid hs
  have HP := Lib.hid hp
  have HV := Lib.hid (safe_rv hs)
  clear hs hp
  rcases bool_cases (liveB r i) with hli | hli
  · have HL := Lib.hid hli
    have HFD := Lib.hid (fnd_dead hli)
    clear hli
    go_enter Try.func96, Try.ntmps96
    go_wp2_with fail
    refine (ssafe_as _ a len cap r w HI.out HZ.out HM.out HS.out).mono ?_
    rintro e w1 ⟨rfl, hb1⟩
    go_wp2_with fail
    refine (point_as _ i _ HP.out).mono ?_
    rintro e w2 ⟨rfl, rfl⟩
    go_wp2_with fail
    refine (sfind_any _ len cap r i _ (HI.out.keepB hb1 (Nat.le_refl _)) HZ.out HM.out).mono ?_
    rintro e w2 ⟨rfl, rfl⟩
    rw [HFD.out]
    go_wp2_with fail
    refine (copy_any _ len cap r _ (HI.out.keepB hb1 (Nat.le_refl _)) HZ.out HV.out).mono ?_
    rintro e w2 ⟨N, c2, F, rfl, ho, h1, h2, hB⟩
    have HO := Lib.hid ho
    have HC := Lib.hid (And.intro h1 h2)
    clear ho h1 h2
    go_wp2
    go_ret2
    have e1 : failR r i = r := by simp [failR, HO1.out, HL.out]
    have e2 : failB r i = false := by simp [failB, HL.out]
    rw [e1, e2]
    exact NewOwn.toRB hb1 HO.out HC.out.1 HC.out.2 hB _ (by simp)
  obtain ⟨hil, _, hfd⟩ := idx_live hli
  have HL := Lib.hid hli
  have HFD := Lib.hid hfd
  have h10 := rv_len HV.out
  have hrl : 0 < r.length := by omega
  rw [HZ.out] at hil h10
  have d0 : decide ((idxR r i : Int) < 0) = false := by simp
  clear hli hfd
  have HF1 : Hid (failR r i = if sfB (cutR r (idxR r i)) then cutR r (idxR r i) else r) := by show failR r i = _; simp [failR, HO1.out, HL.out]
  have HF2 : Hid (failB r i = sfB (cutR r (idxR r i))) := by show failB r i = _; simp [failB, HO1.out, HL.out]
  generalize idxR r i = k at *
  go_enter Try.func96, Try.ntmps96
  go_wp2_with fail
  refine (ssafe_as _ a len cap r w HI.out HZ.out HM.out HS.out).mono ?_
  rintro e w1 ⟨rfl, hb1⟩
  go_wp2_with fail
  refine (point_as _ i _ HP.out).mono ?_
  rintro e w2 ⟨rfl, rfl⟩
  go_wp2_with fail
  refine (sfind_any _ len cap r i _ (HI.out.keepB hb1 (Nat.le_refl _)) HZ.out HM.out).mono ?_
  rintro e w2 ⟨rfl, rfl⟩
  rw [HFD.out]
  have hring1 := HI.out.keepB hb1 (Nat.le_refl _)
  obtain ⟨b, off, L, rfl, hb0, hLm, hLc, hLi⟩ := ring_list hring1 hrl
  have hLl : L.length = len := by have := congrArg List.length hLm; simp at this; rw [this]; exact HZ.out
  have HLM := Lib.hid hLm
  have HLC := Lib.hid hLc
  have HLI := Lib.hid hLi
  have HLL := Lib.hid hLl
  clear hring1 hLm hLc hLi hLl
  have g0 : (0 : Int) ≤ (k : Int) := by omega
  have g1 : (k : Int) ≤ (len : Int) := by omega
  have g2 : (k : Int) ≤ (cap : Int) := by omega
  have g3 : (k : Int) + 1 ≤ (len : Int) := by omega
  have g4 : (k : Int) + 1 ≤ (cap : Int) := by omega
  have g5 : (0 : Int) ≤ (k : Int) + 1 := by omega
  have w0 : IntKind.i64.wrap ((k : Int) + 1) = k + 1 := by rw [IntKind.wrap_i64]; omega
  have HBA : Hid (∀ o, Below w1.heap.size w1 (w1.alloc o).drew) := fun o => ((Below.refl _ _).alloc (Nat.le_refl _) _).drew
  by_cases hck : cap = k + 1
  · have hlk : len = k + 1 := by omega
    subst hck
    clear g1 g3
    have g9 : (k : Int) ≤ (k : Int) + 1 := by omega
    go_wp2_with fail
    go_region_law ((first
      | (refine step_appN (o := ⟨some 28, _, _, _, _, _⟩) _ (by rfl) (.tmp 24) (.tmp 27) (by rfl) w1.heap.size w1.heap.size 0 0 [] (L.take k) (by rfl) (rowL_new w1 _ rfl) rfl ⟨b, off, none⟩ k (k + 1) (by rfl) (by rw [List.length_take, HLL.out]; omega) (fun j u hu => by rw [add_plain]; exact ((HBA.out _).cell (p := ⟨b, off + j, none⟩) hb0).trans (HLC.out j u (flat_take hu))) (fun p hp => ((HLI.out p (List.mem_of_mem_take hp)).offNew (Nat.le_refl _)).keepB (HBA.out _) (Nat.le_refl _)) k (by omega) (by omega) (by simp) ?_
         intro g3 cap3 w3 hown3 hg3 hat3
         have hB3 : Below w1.heap.size w1 w3 := (HBA.out _).grown hg3 (by simp) (fun q hq => by injection hq with hq; omega)
         have hg31 := hown3.blk.1)
      | (refine step_appN (o := ⟨some 33, _, _, _, _, _⟩) _ (by rfl) (.tmp 28) (.tmp 32) (by rfl) w1.heap.size g3 k cap3 ([] ++ L.take k) [] (by rfl) hown3 (by rw [List.nil_append, List.length_take, HLL.out]; omega) ⟨b, off, none⟩ 0 0 (by rfl) rfl (fun j u hu => by simp [flatL] at hu) (fun p hp => by cases hp) k (by omega) (by omega) hB3.size ?_
         intro g5 cap5 w5 hown5 hg5 hat5
         have hB5 : Below w1.heap.size w1 w5 := hB3.grown hg5 hB3.size (fun q hq => by injection hq with hq; omega))))
    obtain ⟨M2, hM2⟩ : ∃ M, M = L.drop (k + 1) := ⟨_, rfl⟩
    have hnil : ([] : List (Nd × Value)) = M2 := by rw [hM2, List.drop_eq_nil_of_le (by rw [HLL.out]; omega)]
    have hnil2 : (([] ++ L.take k) ++ [] : List (Nd × Value)) = ([] ++ L.take k) ++ M2 := by rw [← hnil]
    rw [hnil2] at hown5
    clear hnil hnil2
    have hB13 : Below w1.heap.size w1 w5 := hB5
    have hring5 : RingAt w5 (some ⟨g5, 0, none⟩) (cutR r k) := by
      have h5 := hown5.ring
      have em : (([] ++ L.take k) ++ M2 : List (Nd × Value)).map (fun p => p.1) = cutR r k := by rw [hM2, List.nil_append, List.map_append, List.map_take, List.map_drop, HLM.out]; rfl
      rw [em] at h5
      exact h5
    have HR5 := Lib.hid hring5
    have hb5 : Below w.heap.size w w5 := hb1.trans (hB5.mono hb1.size)
    have HCL : Hid ((cutR r k).length = k) := by show _ = _; rw [cut_len (by rw [HZ.out]; exact hil), HZ.out]; omega
    have HCV := Lib.hid (cut_rv HV.out (k := k) (by rw [HZ.out]; exact hil))
    have HM5 := Lib.hid hM2
    clear hring5 hown5 hg5 hat5 hown3 hg3 hat3 hM2
    rcases bool_cases (sfB (cutR r k)) with hsf | hsf
    · have HSF := Lib.hid hsf
      clear hsf
      go_wp2_with fail
      refine (ssf_as _ _ _ _ (cutR r k) w5 HR5.out HCL.out HCV.out HSF.out).mono ?_
      rintro e w6 ⟨rfl, hb6⟩
      have hB6 : Below w.heap.size w w6 := hb5.trans (hb6.mono hb5.size)
      go_wp2_with fail
      refine (copy_any _ _ _ r _ (HI.out.keepB hB6 (Nat.le_refl _)) (by first | exact HZ.out.trans hlk | exact HZ.out) HV.out).mono ?_
      rintro e w7 ⟨N, c2, F, rfl, ho, h1, h2, hB⟩
      have HO := Lib.hid ho
      have HC := Lib.hid (And.intro h1 h2)
      clear ho h1 h2
      go_wp2
      go_ret2
      rw [HF1.out, HF2.out, HSF.out, if_neg (by simp)]
      exact NewOwn.toRB hB6 HO.out HC.out.1 HC.out.2 hB _ (by simp)
    · have HSF := Lib.hid hsf
      clear hsf
      go_wp2_with fail
      refine (ssf_as _ _ _ _ (cutR r k) w5 HR5.out HCL.out HCV.out HSF.out).mono ?_
      rintro e w6 ⟨rfl, hb6⟩
      have hB6 : Below w.heap.size w w6 := hb5.trans (hb6.mono hb5.size)
      go_wp2_with fail
      refine (copy_any _ _ _ (cutR r k) _ (HR5.out.keepB hb6 (Nat.le_refl _)) HCL.out HCV.out).mono ?_
      rintro e w7 ⟨N, c2, F, rfl, ho, h1, h2, hB⟩
      have HO := Lib.hid ho
      have HC := Lib.hid (And.intro h1 h2)
      clear ho h1 h2
      rw [HCL.out]
      go_wp2
      go_ret2
      rw [HF1.out, HF2.out, HSF.out, if_pos rfl]
      exact NewOwn.toRB hB6 HO.out HC.out.1 HC.out.2 hB _ (by rw [HCL.out])
  · have g6 : ¬ cap = k + 1 := hck
    have g7 : k + 1 ≤ len := by omega
    have g8 : k + 1 ≤ cap := by omega
    go_wp2_with fail
    go_region_law ((first
      | (refine step_appN (o := ⟨some 28, _, _, _, _, _⟩) _ (by rfl) (.tmp 24) (.tmp 27) (by rfl) w1.heap.size w1.heap.size 0 0 [] (L.take k) (by rfl) (rowL_new w1 _ rfl) rfl ⟨b, off, none⟩ k cap (by rfl) (by rw [List.length_take, HLL.out]; omega) (fun j u hu => by rw [add_plain]; exact ((HBA.out _).cell (p := ⟨b, off + j, none⟩) hb0).trans (HLC.out j u (flat_take hu))) (fun p hp => ((HLI.out p (List.mem_of_mem_take hp)).offNew (Nat.le_refl _)).keepB (HBA.out _) (Nat.le_refl _)) k (by omega) (by omega) (by simp) ?_
         intro g3 cap3 w3 hown3 hg3 hat3
         have hB3 : Below w1.heap.size w1 w3 := (HBA.out _).grown hg3 (by simp) (fun q hq => by injection hq with hq; omega)
         have hg31 := hown3.blk.1)
      | (refine step_appN (o := ⟨some 33, _, _, _, _, _⟩) _ (by rfl) (.tmp 28) (.tmp 32) (by rfl) w1.heap.size g3 k cap3 ([] ++ L.take k) (L.drop (k + 1)) (by rfl) hown3 (by rw [List.nil_append, List.length_take, HLL.out]; omega) ⟨b, off + (k + 1) * 3, none⟩ (len - (k + 1)) (cap - (k + 1)) (by rfl) (by rw [List.length_drop, HLL.out]) (fun j u hu => by rw [add_plain, Nat.add_assoc]; exact (hB3.cell (p := ⟨b, off + ((k + 1) * 3 + j), none⟩) hb0).trans (HLC.out _ u (flat_drop (by rw [HLL.out]; omega) hu))) (fun p hp => ((HLI.out p (List.mem_of_mem_drop hp)).offNew hg31).keepB hB3 (Nat.le_refl _)) (len - 1) (by omega) (by omega) hB3.size ?_
         intro g5 cap5 w5 hown5 hg5 hat5
         have hB5 : Below w1.heap.size w1 w5 := hB3.grown hg5 hB3.size (fun q hq => by injection hq with hq; omega))))
    obtain ⟨M2, hM2⟩ : ∃ M, M = L.drop (k + 1) := ⟨_, rfl⟩
    rw [← hM2] at hown5
    have hB13 : Below w1.heap.size w1 w5 := hB5
    have hring5 : RingAt w5 (some ⟨g5, 0, none⟩) (cutR r k) := by
      have h5 := hown5.ring
      have em : (([] ++ L.take k) ++ M2 : List (Nd × Value)).map (fun p => p.1) = cutR r k := by rw [hM2, List.nil_append, List.map_append, List.map_take, List.map_drop, HLM.out]; rfl
      rw [em] at h5
      exact h5
    have HR5 := Lib.hid hring5
    have hb5 : Below w.heap.size w w5 := hb1.trans (hB5.mono hb1.size)
    have HCL : Hid ((cutR r k).length = len - 1) := by show _ = _; rw [cut_len (by rw [HZ.out]; exact hil), HZ.out]
    have HCV := Lib.hid (cut_rv HV.out (k := k) (by rw [HZ.out]; exact hil))
    have HM5 := Lib.hid hM2
    clear hring5 hown5 hg5 hat5 hown3 hg3 hat3 hM2
    rcases bool_cases (sfB (cutR r k)) with hsf | hsf
    · have HSF := Lib.hid hsf
      clear hsf
      go_wp2_with fail
      refine (ssf_as _ _ _ _ (cutR r k) w5 HR5.out HCL.out HCV.out HSF.out).mono ?_
      rintro e w6 ⟨rfl, hb6⟩
      have hB6 : Below w.heap.size w w6 := hb5.trans (hb6.mono hb5.size)
      go_wp2_with fail
      refine (copy_any _ len cap r _ (HI.out.keepB hB6 (Nat.le_refl _)) HZ.out HV.out).mono ?_
      rintro e w7 ⟨N, c2, F, rfl, ho, h1, h2, hB⟩
      have HO := Lib.hid ho
      have HC := Lib.hid (And.intro h1 h2)
      clear ho h1 h2
      go_wp2
      go_ret2
      rw [HF1.out, HF2.out, HSF.out, if_neg (by simp)]
      exact NewOwn.toRB hB6 HO.out HC.out.1 HC.out.2 hB _ (by simp)
    · have HSF := Lib.hid hsf
      clear hsf
      go_wp2_with fail
      refine (ssf_as _ _ _ _ (cutR r k) w5 HR5.out HCL.out HCV.out HSF.out).mono ?_
      rintro e w6 ⟨rfl, hb6⟩
      have hB6 : Below w.heap.size w w6 := hb5.trans (hb6.mono hb5.size)
      go_wp2_with fail
      refine (copy_any _ _ _ (cutR r k) _ (HR5.out.keepB hb6 (Nat.le_refl _)) HCL.out HCV.out).mono ?_
      rintro e w7 ⟨N, c2, F, rfl, ho, h1, h2, hB⟩
      have HO := Lib.hid ho
      have HC := Lib.hid (And.intro h1 h2)
      clear ho h1 h2
      rw [HCL.out]
      go_wp2
      go_ret2
      rw [HF1.out, HF2.out, HSF.out, if_pos rfl]
      exact NewOwn.toRB hB6 HO.out HC.out.1 HC.out.2 hB _ (by rw [HCL.out])

end

/- Joining: the mathematics. -/

section
open Go.RowKit
set_option linter.unusedVariables false


def cntR (r : List Nd) (x : Int) : Nat := (r.takeWhile (fun n => decide (n.pos < x))).length
theorem cnt_le (r : List Nd) (x : Int) : cntR r x ≤ r.length := (List.takeWhile_sublist _).length_le
theorem cnt_lt {r : List Nd} {x : Int} {i : Nat} (h : i < cntR r x) : (gn r i).pos < x := by
  have hi : i < r.length := Nat.lt_of_lt_of_le h (cnt_le r x)
  have hm : (r.takeWhile (fun n => decide (n.pos < x)))[i]'h ∈ r.takeWhile (fun n => decide (n.pos < x)) := List.getElem_mem _
  have hp := List.all_takeWhile (p := fun n : Nd => decide (n.pos < x)) (l := r)
  rw [List.all_eq_true] at hp
  have h1 := hp _ hm
  have e : (r.takeWhile (fun n => decide (n.pos < x)))[i]'h = r[i] := (List.takeWhile_prefix (fun n : Nd => decide (n.pos < x))).getElem h
  rw [e] at h1
  rw [gn_get hi]; simpa using h1
theorem cnt_ge {r : List Nd} {x : Int} {m : Nat} (hm : m ≤ r.length) (hh : ∀ j, j < m → (gn r j).pos < x) : m ≤ cntR r x := by
  have hpre : ∀ n ∈ r.take m, decide (n.pos < x) = true := by
    intro n hn
    obtain ⟨j, hj, e⟩ := List.getElem_of_mem hn
    have hj' : j < m := by simp at hj; omega
    have hjr : j < r.length := by omega
    have := hh j hj'
    rw [gn_get hjr] at this
    rw [← e]; simpa using this
  have hlen : ((r.take m ++ r.drop m).takeWhile (fun n => decide (n.pos < x))).length = (r.take m).length + ((r.drop m).takeWhile (fun n => decide (n.pos < x))).length := by
    rw [List.takeWhile_append_of_pos hpre, List.length_append]
  rw [List.take_append_drop] at hlen
  unfold cntR
  rw [hlen]
  simp; omega
theorem cnt_unique {r : List Nd} {x : Int} {m : Nat} (h1 : m ≤ r.length) (h2 : ∀ i, i < m → (gn r i).pos < x) (h3 : m < r.length → ¬ (gn r m).pos < x) : cntR r x = m := by
  have := cnt_ge h1 h2
  rcases Nat.lt_or_ge m (cntR r x) with h | h
  · exact absurd (cnt_lt h) (h3 (Nat.lt_of_lt_of_le h (cnt_le r x)))
  · omega
def insR (r : List Nd) (m : Nat) (n : Nd) : List Nd := r.take m ++ n :: r.drop m
theorem ins_len {r : List Nd} {m : Nat} {n : Nd} (hm : m ≤ r.length) : (insR r m n).length = r.length + 1 := by simp [insR]; omega
theorem ins_at {r : List Nd} {m i : Nat} {n : Nd} (hm : m ≤ r.length) (hi : i < r.length + 1) : gn (insR r m n) i = if i < m then gn r i else if i = m then n else gn r (i - 1) := by
  have hl := ins_len (n := n) hm
  rw [gn_get (by omega)]
  unfold insR
  by_cases h : i < m
  · rw [if_pos h, List.getElem_append_left (by simp; omega), gn_get (by omega)]; simp
  · rw [if_neg h, List.getElem_append_right (by simp; omega)]
    have hml : (r.take m).length = m := by simp; omega
    by_cases e : i = m
    · subst e; rw [if_pos rfl]; simp [hml]
    · rw [if_neg e, gn_get (by omega)]
      rw [List.getElem_cons]
      rw [dif_neg (by omega)]
      simp [hml]; congr 1; omega
/-- what is ahead and behind -/
def InsOk (r : List Nd) (m : Nat) (n : Nd) : Prop := m ≤ r.length ∧ (∀ i, i < m → (gn r i).pos < n.pos) ∧ ∀ i, m ≤ i → i < r.length → n.pos < (gn r i).pos
theorem ins_rv {r : List Nd} {m : Nat} {n : Nd} (h : rvB r = true) (hl : r.length < 10) (hn : ndB n = true) (ho : InsOk r m n) : rvB (insR r m n) = true := by
  obtain ⟨hm, h1, h2⟩ := ho
  have hln := ins_len (n := n) hm
  refine (rv_iff _).2 ⟨by omega, fun i hi => ?_⟩
  rw [hln] at hi
  refine ⟨?_, ?_⟩
  · rw [ins_at hm hi]; split
    · exact rv_nd h (by omega)
    · split
      · exact hn
      · exact rv_nd h (by omega)
  · by_cases h0 : i = 0
    · exact .inl h0
    · refine .inr ?_
      rw [ins_at hm hi, ins_at hm (by omega)]
      by_cases a1 : i < m
      · rw [if_pos a1, if_pos (by omega)]; exact rv_lt h (by omega) (by omega)
      · rw [if_neg a1]
        by_cases a2 : i = m
        · rw [if_pos a2, if_pos (by omega)]; exact h1 _ (by omega)
        · rw [if_neg a2, if_neg (by omega)]
          by_cases a3 : i - 1 = m
          · rw [if_pos a3]; exact h2 _ (by omega) (by omega)
          · rw [if_neg a3]; exact rv_lt h (by omega) (by omega)
theorem ins_old {r : List Nd} {m : Nat} {n : Nd} (hm : m ≤ r.length) {i : Nat} (hi : i < r.length) : ∃ j, j < r.length + 1 ∧ gn (insR r m n) j = gn r i := by
  by_cases h : i < m
  · exact ⟨i, by omega, by rw [ins_at hm (by omega), if_pos h]⟩
  · exact ⟨i + 1, by omega, by rw [ins_at hm (by omega), if_neg (by omega), if_neg (by omega)]; rfl⟩
theorem ins_all {r : List Nd} {m : Nat} {n : Nd} (hm : m ≤ r.length) {j : Nat} (hj : j < r.length + 1) : gn (insR r m n) j = n ∨ ∃ i, i < r.length ∧ gn (insR r m n) j = gn r i := by
  rw [ins_at hm hj]
  by_cases h : j < m
  · exact .inr ⟨j, by omega, by rw [if_pos h]⟩
  · rw [if_neg h]
    by_cases e : j = m
    · exact .inl (by rw [if_pos e])
    · exact .inr ⟨j - 1, by omega, by rw [if_neg e]⟩
theorem safe_ins {r : List Nd} {m : Nat} {n : Nd} (h : safeB r = true) (hl : r.length < 10) (hn : ndB n = true) (ho : InsOk r m n) (hls : lsB r n = true) (hs : ∀ p, liveB r p = true → skB n p = true → skdB r p = true) : safeB (insR r m n) = true := by
  obtain ⟨hv, hls', h3⟩ := (safe_iff r).1 h
  have hm := ho.1
  have hln := ins_len (n := n) hm
  have hlv : ∀ x, liveB r x = true → liveB (insR r m n) x = true := fun x hx => by
    obtain ⟨i, hi, e⟩ := (live_iff _ _).1 hx
    obtain ⟨j, hj, e'⟩ := ins_old (n := n) hm hi
    exact (live_iff _ _).2 ⟨j, by omega, by rw [e']; exact e⟩
  have hl2 : ∀ q, lsB r q = true → lsB (insR r m n) q = true := fun q hq => by
    unfold lsB at hq ⊢
    rcases Bool.or_eq_true _ _ ▸ hq with h' | h'
    · rw [hlv _ h']; rfl
    · rw [hlv _ h']; simp
  refine (safe_iff _).2 ⟨ins_rv hv hl hn ho, fun j hj => ?_, ?_⟩
  · rw [hln] at hj
    rcases ins_all (n := n) hm hj with e | ⟨i, hi, e⟩
    · rw [e]; exact hl2 _ hls
    · rw [e]; exact hl2 _ (hls' i hi)
  · refine Nat.le_trans h3 (sub_len _ _ (pr_nodup hv) fun q hq => ?_)
    obtain ⟨h1, h2⟩ := (mem_pr _ _).1 hq
    refine (mem_pr _ _).2 ⟨hlv _ h1, (skd_no _ _).2 fun j hj => ?_⟩
    rw [hln] at hj
    rcases ins_all (n := n) hm hj with e | ⟨i, hi, e⟩
    · rw [e]
      cases hsk : skB n q
      · rfl
      · rw [hs q h1 hsk] at h2; cases h2
    · rw [e]; exact (skd_no _ _).1 h2 i hi
def joinN (r : List Nd) (x y : Int) : Nd := ⟨x, y, (gn r (idxR r y)).aft⟩
def arg3 (r : List Nd) (x y : Int) : Bool := safeB r && ptB x && ptB y
def joinB (r : List Nd) (x y : Int) : Bool := liveB r y && !liveB r x && decide (r.length < 10) && btwI y x (first r (idxR r y))
def joinR (r : List Nd) (x y : Int) : List Nd := if arg3 r x y then (if joinB r x y then insR r (cntR r x) (joinN r x y) else r) else []
theorem join_pre {r : List Nd} {x y : Int} (ha : arg3 r x y = true) (hb : joinB r x y = true) : safeB r = true ∧ r.length < 10 ∧ ndB (joinN r x y) = true ∧ InsOk r (cntR r x) (joinN r x y) ∧ safeB (insR r (cntR r x) (joinN r x y)) = true := by
  unfold arg3 at ha; unfold joinB at hb
  simp only [Bool.and_eq_true, Bool.not_eq_true', decide_eq_true_eq] at ha hb
  obtain ⟨⟨hs, hx⟩, hy⟩ := ha
  obtain ⟨⟨⟨hly, hlx⟩, hl⟩, hbt⟩ := hb
  have hv := safe_rv hs
  obtain ⟨hi, hip, _⟩ := idx_live hly
  obtain ⟨_, hbf, h0, h1, hal⟩ := nd_open hv hi
  obtain ⟨_, hls, _⟩ := (safe_iff r).1 hs
  have hxp := (ptB_iff x).1 hx
  have hyp := (ptB_iff y).1 hy
  have hnd : ndB (joinN r x y) = true := (ndB_iff _).2 ⟨hxp, .inr hyp, _, _, hal, h0, h1⟩
  have hio : InsOk r (cntR r x) (joinN r x y) := by
    refine ⟨cnt_le _ _, fun i hi => cnt_lt hi, fun i hi hil => ?_⟩
    show x < (gn r i).pos
    have hne : (gn r i).pos ≠ x := fun e => by rw [(live_iff r x).2 ⟨i, hil, e⟩] at hlx; cases hlx
    have hge : ¬ (gn r (cntR r x)).pos < x := by
      intro hlt
      have hc : cntR r x < r.length := by omega
      have hall : ∀ j, j < cntR r x + 1 → (gn r j).pos < x := fun j hj => by
        rcases Nat.lt_or_ge j (cntR r x) with h | h
        · exact cnt_lt h
        · rw [show j = cntR r x by omega]; exact hlt
      have := cnt_ge (m := cntR r x + 1) (by omega) hall
      omega
    rcases Nat.lt_or_ge (cntR r x) i with h | h
    · have := rv_lt hv h hil; omega
    · have e : i = cntR r x := by omega
      subst e; omega
  have hjl : lsB r (joinN r x y) = true := by have := hls _ hi; unfold lsB at this ⊢; exact this
  refine ⟨hs, hl, hnd, hio, safe_ins hs hl hnd hio hjl fun p hpl hsk => skd_of hi ?_⟩
  have hpp := live_pt hv hpl
  have hsk' : (btwI x p (gt (gn r (idxR r y)).aft 0) || btwI (gt (gn r (idxR r y)).aft 0) p (gt (gn r (idxR r y)).aft 1)) = true := hsk
  unfold first at hbt
  have hpx : p ≠ x := fun e => by rw [e] at hpl; rw [hpl] at hlx; cases hlx
  rw [skB, hip]
  simp only [Bool.or_eq_true, btwI_iff] at hsk' hbt ⊢
  omega

end

/- A node joins (the model). -/

section
open Go.RowKit
set_option linter.unusedVariables false


set_option maxHeartbeats 4000000 in
theorem sjoin_any (a : Option Addr) (len cap : Nat) (x y : Int) (r : List Nd) (w : World) (h : RingAt w a r) (hz : r.length = len) (hcap : len ≤ cap) (hcm : cap ≤ maxLen) :
    Calls Try.prog 95 #[.slice a len cap, .int .i64 x, .int .i64 y] w (NewRB (joinR r x y) (arg3 r x y && joinB r x y) w) := by
  have hm : len ≤ maxLen := Nat.le_trans hcap hcm
  have HI := Lib.hid h
  have HZ := Lib.hid hz
  have HM := Lib.hid hm
  unfold maxLen at hcm
  clear h hz hm
  rcases bool_cases (safeB r) with hs | hs
  · have HS := Lib.hid hs
    clear hs
    go_enter Try.func95, Try.ntmps95
    go_wp2_with fail
    refine (ssafe_as _ a len cap r w HI.out HZ.out HM.out HS.out).mono ?_
    rintro e w1 ⟨rfl, hb1⟩
    go_wp2
    go_ret2
    have e0 : arg3 r x y = false := by unfold arg3; rw [HS.out]; rfl
    rw [joinR, e0, if_neg (by simp), Bool.false_and]
    exact (newRB_nil w1 _).mono hb1
  have HS := Lib.hid hs
  have HV := Lib.hid (safe_rv hs)
  clear hs
  rcases bool_cases (ptB x) with hx | hx
  · have HX := Lib.hid hx
    clear hx
    go_enter Try.func95, Try.ntmps95
    go_wp2_with fail
    refine (ssafe_as _ a len cap r w HI.out HZ.out HM.out HS.out).mono ?_
    rintro e w1 ⟨rfl, hb1⟩
    go_wp2_with fail
    refine (point_as _ x _ HX.out).mono ?_
    rintro e w2 ⟨rfl, rfl⟩
    go_wp2
    go_ret2
    have e0 : arg3 r x y = false := by unfold arg3; rw [HX.out]; simp
    rw [joinR, e0, if_neg (by simp), Bool.false_and]
    exact (newRB_nil w1 _).mono hb1
  have HX := Lib.hid hx
  clear hx
  rcases bool_cases (ptB y) with hy | hy
  · have HY := Lib.hid hy
    clear hy
    go_enter Try.func95, Try.ntmps95
    go_wp2_with fail
    refine (ssafe_as _ a len cap r w HI.out HZ.out HM.out HS.out).mono ?_
    rintro e w1 ⟨rfl, hb1⟩
    go_wp2_with fail
    refine (point_as _ x _ HX.out).mono ?_
    rintro e w2 ⟨rfl, rfl⟩
    go_wp2_with fail
    refine (point_as _ y _ HY.out).mono ?_
    rintro e w2 ⟨rfl, rfl⟩
    go_wp2
    go_ret2
    have e0 : arg3 r x y = false := by unfold arg3; rw [HY.out]; simp
    rw [joinR, e0, if_neg (by simp), Bool.false_and]
    exact (newRB_nil w1 _).mono hb1
  have HY := Lib.hid hy
  clear hy
  have HA : Hid (arg3 r x y = true) := by show arg3 r x y = true; unfold arg3; rw [HS.out, HX.out, HY.out]; rfl
  rcases bool_cases (liveB r y) with hl | hl
  · have HL := Lib.hid hl
    have HFY := Lib.hid (fnd_dead hl)
    clear hl
    go_enter Try.func95, Try.ntmps95
    go_wp2_with fail
    refine (ssafe_as _ a len cap r w HI.out HZ.out HM.out HS.out).mono ?_
    rintro e w1 ⟨rfl, hb1⟩
    go_wp2_with fail
    refine (point_as _ x _ HX.out).mono ?_
    rintro e w2 ⟨rfl, rfl⟩
    go_wp2_with fail
    refine (point_as _ y _ HY.out).mono ?_
    rintro e w2 ⟨rfl, rfl⟩
    go_wp2_with fail
    refine (sfind_any _ len cap r y _ (HI.out.keepB hb1 (Nat.le_refl _)) HZ.out HM.out).mono ?_
    rintro e w2 ⟨rfl, rfl⟩
    rw [HFY.out]
    go_wp2_with fail
    refine (copy_any _ len cap r _ (HI.out.keepB hb1 (Nat.le_refl _)) HZ.out HV.out).mono ?_
    rintro e w2 ⟨N, c2, F, rfl, ho, h1, h2, hB⟩
    have HO := Lib.hid ho
    have HC := Lib.hid (And.intro h1 h2)
    clear ho h1 h2
    go_wp2
    go_ret2
    have e0 : joinB r x y = false := by unfold joinB; rw [HL.out]; rfl
    rw [joinR, HA.out, e0, if_pos rfl, if_neg (by simp), Bool.and_false]
    exact NewOwn.toRB hb1 HO.out HC.out.1 HC.out.2 hB _ (by simp)
  obtain ⟨hir, _, hfy⟩ := idx_live hl
  have HL := Lib.hid hl
  have HFY := Lib.hid hfy
  have hil : idxR r y < len := by rw [← HZ.out]; exact hir
  have d0 : decide ((idxR r y : Int) < 0) = false := by simp
  have h10 := rv_len HV.out
  rw [HZ.out] at h10
  clear hl hfy
  rcases bool_cases (liveB r x) with hlx | hlx
  rotate_left
  · have HLX := Lib.hid hlx
    obtain ⟨_, _, hfx⟩ := idx_live hlx
    have HFX := Lib.hid hfx
    have d1 : decide (0 ≤ (idxR r x : Int)) = true := by simp
    clear hlx hfx
    go_enter Try.func95, Try.ntmps95
    go_wp2_with fail
    refine (ssafe_as _ a len cap r w HI.out HZ.out HM.out HS.out).mono ?_
    rintro e w1 ⟨rfl, hb1⟩
    go_wp2_with fail
    refine (point_as _ x _ HX.out).mono ?_
    rintro e w2 ⟨rfl, rfl⟩
    go_wp2_with fail
    refine (point_as _ y _ HY.out).mono ?_
    rintro e w2 ⟨rfl, rfl⟩
    go_wp2_with fail
    refine (sfind_any _ len cap r y _ (HI.out.keepB hb1 (Nat.le_refl _)) HZ.out HM.out).mono ?_
    rintro e w2 ⟨rfl, rfl⟩
    rw [HFY.out]
    go_wp2_with fail
    refine (sfind_any _ len cap r x _ (HI.out.keepB hb1 (Nat.le_refl _)) HZ.out HM.out).mono ?_
    rintro e w2 ⟨rfl, rfl⟩
    rw [HFX.out]
    go_wp2_with fail
    refine (copy_any _ len cap r _ (HI.out.keepB hb1 (Nat.le_refl _)) HZ.out HV.out).mono ?_
    rintro e w2 ⟨N, c2, F, rfl, ho, h1, h2, hB⟩
    have HO := Lib.hid ho
    have HC := Lib.hid (And.intro h1 h2)
    clear ho h1 h2
    go_wp2
    go_ret2
    have e0 : joinB r x y = false := by unfold joinB; rw [HLX.out]; simp
    rw [joinR, HA.out, e0, if_pos rfl, if_neg (by simp), Bool.and_false]
    exact NewOwn.toRB hb1 HO.out HC.out.1 HC.out.2 hB _ (by simp)
  have HLX := Lib.hid hlx
  have HFX := Lib.hid (fnd_dead hlx)
  clear hlx
  by_cases h10' : 10 ≤ len
  · have d1 : decide ((10 : Int) ≤ (len : Int)) = true := by simp; omega
    have H10 := Lib.hid h10'
    clear h10'
    go_enter Try.func95, Try.ntmps95
    go_wp2_with fail
    refine (ssafe_as _ a len cap r w HI.out HZ.out HM.out HS.out).mono ?_
    rintro e w1 ⟨rfl, hb1⟩
    go_wp2_with fail
    refine (point_as _ x _ HX.out).mono ?_
    rintro e w2 ⟨rfl, rfl⟩
    go_wp2_with fail
    refine (point_as _ y _ HY.out).mono ?_
    rintro e w2 ⟨rfl, rfl⟩
    go_wp2_with fail
    refine (sfind_any _ len cap r y _ (HI.out.keepB hb1 (Nat.le_refl _)) HZ.out HM.out).mono ?_
    rintro e w2 ⟨rfl, rfl⟩
    rw [HFY.out]
    go_wp2_with fail
    refine (sfind_any _ len cap r x _ (HI.out.keepB hb1 (Nat.le_refl _)) HZ.out HM.out).mono ?_
    rintro e w2 ⟨rfl, rfl⟩
    rw [HFX.out]
    go_wp2_with fail
    refine (copy_any _ len cap r _ (HI.out.keepB hb1 (Nat.le_refl _)) HZ.out HV.out).mono ?_
    rintro e w2 ⟨N, c2, F, rfl, ho, h1, h2, hB⟩
    have HO := Lib.hid ho
    have HC := Lib.hid (And.intro h1 h2)
    clear ho h1 h2
    go_wp2
    go_ret2
    have e0 : joinB r x y = false := by unfold joinB; rw [decide_eq_false (by have := HZ.out; have := H10.out; omega)]; simp
    rw [joinR, HA.out, e0, if_pos rfl, if_neg (by simp), Bool.and_false]
    exact NewOwn.toRB hb1 HO.out HC.out.1 HC.out.2 hB _ (by simp)
  have d1 : decide ((10 : Int) ≤ (len : Int)) = false := by simp; omega
  rcases bool_cases (btwI y x (first r (idxR r y))) with hbt | hbt
  · have HBT : Hid (btwI y x (gt (gn r (idxR r y)).aft 0) = false) := hbt
    have HBT2 := Lib.hid hbt
    clear hbt
    go_enter Try.func95, Try.ntmps95
    go_wp2_with fail
    refine (ssafe_as _ a len cap r w HI.out HZ.out HM.out HS.out).mono ?_
    rintro e w1 ⟨rfl, hb1⟩
    obtain ⟨b, off, b3, o3, sc, rfl, hb0, hb3, hsc, _, hc0, hc1, hc2, hx3, hy3, _⟩ := ring_node (HI.out.keepB hb1 (Nat.le_refl _)) HV.out hir
    go_wp2_with fail
    refine (point_as _ x _ HX.out).mono ?_
    rintro e w2 ⟨rfl, rfl⟩
    go_wp2_with fail
    refine (point_as _ y _ HY.out).mono ?_
    rintro e w2 ⟨rfl, rfl⟩
    go_wp2_with fail
    refine (sfind_any _ len cap r y _ (HI.out.keepB hb1 (Nat.le_refl _)) HZ.out HM.out).mono ?_
    rintro e w2 ⟨rfl, rfl⟩
    rw [HFY.out]
    go_wp2_with fail
    refine (sfind_any _ len cap r x _ (HI.out.keepB hb1 (Nat.le_refl _)) HZ.out HM.out).mono ?_
    rintro e w2 ⟨rfl, rfl⟩
    rw [HFX.out]
    go_wp2_with fail
    refine (sbetw_as _ _ _ _ _ HBT.out).mono ?_
    rintro e w2 ⟨rfl, rfl⟩
    go_wp2_with fail
    refine (copy_any _ len cap r _ (HI.out.keepB hb1 (Nat.le_refl _)) HZ.out HV.out).mono ?_
    rintro e w2 ⟨N, c2, F, rfl, ho, h1, h2, hB⟩
    have HO := Lib.hid ho
    have HC := Lib.hid (And.intro h1 h2)
    clear ho h1 h2
    go_wp2
    go_ret2
    have e0 : joinB r x y = false := by unfold joinB; rw [HBT2.out]; simp
    rw [joinR, HA.out, e0, if_pos rfl, if_neg (by simp), Bool.and_false]
    exact NewOwn.toRB hb1 HO.out HC.out.1 HC.out.2 hB _ (by simp)
  have HBT : Hid (btwI y x (gt (gn r (idxR r y)).aft 0) = true) := hbt
  have HJ : Hid (joinB r x y = true) := by show joinB r x y = true; unfold joinB; rw [HL.out, HLX.out, hbt, decide_eq_true (by have := HZ.out; omega)]; rfl
  clear hbt
  obtain ⟨_, _, hnd, hio, _⟩ := join_pre HA.out HJ.out
  have HND := Lib.hid hnd
  have HIO := Lib.hid hio
  clear hnd hio
  go_enter Try.func95, Try.ntmps95
  go_wp2_with fail
  refine (ssafe_as _ a len cap r w HI.out HZ.out HM.out HS.out).mono ?_
  rintro e w1 ⟨rfl, hb1⟩
  obtain ⟨b, off, b3, o3, sc, rfl, hb0, hb3, hsc, hscm, hc0, hc1, hc2, hx3, hy3, hin0⟩ := ring_node (HI.out.keepB hb1 (Nat.le_refl _)) HV.out hir
  have HIN := Lib.hid hin0
  clear hin0
  go_wp2_with fail
  refine (point_as _ x _ HX.out).mono ?_
  rintro e w2 ⟨rfl, rfl⟩
  go_wp2_with fail
  refine (point_as _ y _ HY.out).mono ?_
  rintro e w2 ⟨rfl, rfl⟩
  go_wp2_with fail
  refine (sfind_any _ len cap r y _ (HI.out.keepB hb1 (Nat.le_refl _)) HZ.out HM.out).mono ?_
  rintro e w2 ⟨rfl, rfl⟩
  rw [HFY.out]
  go_wp2_with fail
  refine (sfind_any _ len cap r x _ (HI.out.keepB hb1 (Nat.le_refl _)) HZ.out HM.out).mono ?_
  rintro e w2 ⟨rfl, rfl⟩
  rw [HFX.out]
  go_wp2_with fail
  refine (sbetw_as _ _ _ _ _ HBT.out).mono ?_
  rintro e w2 ⟨rfl, rfl⟩
  have hring1 := HI.out.keepB hb1 (Nat.le_refl _)
  obtain ⟨b', off', L, hab, _, hLm, hLc, hLi⟩ := ring_list hring1 (by omega)
  injection hab with hab
  injection hab with hbb hoo
  subst hbb hoo
  have hLl : L.length = len := by have := congrArg List.length hLm; simp at this; rw [this]; exact HZ.out
  have HLM := Lib.hid hLm
  have HLC := Lib.hid hLc
  have HLI := Lib.hid hLi
  have HLL := Lib.hid hLl
  clear hring1 hLm hLc hLi hLl
  go_wp2
  go_loopw [9, 10] (fun v q wr => ∃ j : Nat, j ≤ len ∧ q = .int .i64 j ∧ (∀ q', q' < j → (gn r q').pos < x) ∧ RowSoFar (L.take j) w1 v wr) (fun _ q _ => len - (intOf q).toNat)
  case atStart => exact ⟨0, by omega, rfl, fun q hq => absurd hq (by omega), by simpa using rowfar_new w1 _ rfl⟩
  case round =>
    obtain ⟨j, hj, rfl, hall, g, gc, rfl, hrow, hbel⟩ := hrel
    have hlj : (L.take j).length = j := by rw [List.length_take, HLL.out]; omega
    have HLJ := Lib.hid hlj
    have HALL := Lib.hid hall
    have HR := Lib.hid hrow
    have hgl := hrow.blk.1
    have hz1 := hbel.size
    rw [hlj]
    clear hlj hall hrow
    have k2 : wr.cell? ⟨b, off + idxR r y * 3 + 2, none⟩ = some (.slice (some ⟨b3, o3, none⟩) 2 sc) := (hbel.cell (p := ⟨b, off + idxR r y * 3 + 2, none⟩) hb0).trans hc2
    have hcont : (j < len ∧ (gn r j).pos < x) ∨ (cntR r x = j ∧ (j = len ∨ j < len ∧ ¬ (gn r j).pos < x)) := by
      by_cases h1 : j < len
      · by_cases h2 : (gn r j).pos < x
        · exact .inl ⟨h1, h2⟩
        · exact .inr ⟨cnt_unique (by rw [HZ.out]; exact hj) HALL.out (fun _ => h2), .inr ⟨h1, h2⟩⟩
      · exact .inr ⟨cnt_unique (by rw [HZ.out]; exact hj) HALL.out (fun h => absurd h (by rw [HZ.out]; exact h1)), .inl (by omega)⟩
    rcases hcont with ⟨hlt, hpx⟩ | ⟨hcnt, hend⟩
    · have hjr : j < r.length := by rw [HZ.out]; exact hlt
      obtain ⟨p, hp⟩ : ∃ p, L[j]? = some p := ⟨_, List.getElem?_eq_getElem (by rw [HLL.out]; exact hlt)⟩
      have hp1 : p.1 = gn r j := by
        have := congrArg (fun l : List Nd => l[j]?) HLM.out
        simp [hp] at this
        rw [gn_get hjr]
        rw [List.getElem?_eq_getElem hjr] at this
        exact Option.some.inj this
      obtain ⟨f0, f1, f2⟩ := flatL_at hp
      have e0 := (hbel.cell (p := ⟨b, off + j * 3, none⟩) hb0).trans (HLC.out _ _ f0)
      have e1 := (hbel.cell (p := ⟨b, off + (j * 3 + 1), none⟩) hb0).trans (HLC.out _ _ f1)
      have e2 := (hbel.cell (p := ⟨b, off + (j * 3 + 2), none⟩) hb0).trans (HLC.out _ _ f2)
      rw [hp1] at e0 e1
      rw [← Nat.add_assoc] at e1 e2
      have hmem := List.mem_of_getElem? hp
      have hpo : IntsOff wr g p.2 p.1.aft := ((HLI.out p hmem).offNew hgl).keepB hbel (Nat.le_refl _)
      obtain ⟨sv, cv, hsv, _⟩ := id hpo
      have hp1' : p = (gn r j, .slice sv (gn r j).aft.length cv) := by rw [← hp1, ← hsv]
      have HPO := Lib.hid hpo
      have HP := Lib.hid hp
      have HP1 := Lib.hid hp1'
      rw [hsv, hp1] at e2
      have HTK : Hid (L.take (j + 1) = L.take j ++ [p]) := by show _ = _; rw [List.take_add_one, hp]; rfl
      clear f0 f1 f2 hp hp1 hpo hsv hp1'
      have t0 : decide ((gn r j).pos < x) = true := by simp; exact hpx
      go_wp2_with (at_builtin; refine wl_appN _ (by rfl) _ _ (by rfl) w1.heap.size g j gc (L.take j) [p] (by rfl) (HR.out.keepB ((Below.refl _ _).alloc (Nat.le_refl _) _) (Nat.le_refl _)) HLJ.out ⟨wr.heap.size, 0, none⟩ 1 1 (by rfl) rfl (by rw [HP1.out]; exact srcN_one (heap_alloc_new wr _)) (fun q hq => by rw [List.mem_singleton] at hq; subst hq; exact HPO.out.keepB ((Below.refl _ _).alloc (Nat.le_refl _) _) (Nat.le_refl _)) (j + 1) rfl (by omega) (by simp; omega) ?_; intro g5 cap5 w5 hown5 hg5 hat5)
      go_roundw
      case rel =>
        refine ⟨j + 1, by omega, by go_num, fun q hq => ?_, g5, cap5, ?_, by rw [HTK.out]; exact hown5, (hbel.alloc hz1 _).grown hg5 (by simp; omega) (fun q hq => by injection hq with hq; omega)⟩
        · rcases Nat.lt_or_ge q j with h | h
          · exact HALL.out q h
          · rw [show q = j by omega]; exact hpx
        · rw [HTK.out, List.length_append, HLJ.out]; rfl
      case measure => simp [intOf]; omega
    · have HCN := Lib.hid hcnt
      have hin : IntsAt wr (some ⟨b3, o3, none⟩) (gn r (idxR r y)).aft := HIN.out.keepB hbel (Nat.le_refl _)
      have hl2 : (gn r (idxR r y)).aft.length = 2 := by rw [(nd_open HV.out (by rw [HZ.out]; exact hil)).2.2.2.2]; rfl
      have hnoff : IntsOff wr g (.slice (some ⟨b3, o3, none⟩) 2 sc) (joinN r x y).aft := by
        have hjn : (joinN r x y).aft = (gn r (idxR r y)).aft := rfl
        rw [hjn]
        have hv1 : IntsV w1 (.slice (some ⟨b3, o3, none⟩) 2 sc) (gn r (idxR r y)).aft := ⟨some ⟨b3, o3, none⟩, sc, by rw [hl2], by omega, hscm, HIN.out⟩
        exact (hv1.offNew hgl).keepB hbel (Nat.le_refl _)
      have HNO := Lib.hid hnoff
      have HJA : Hid ((joinN r x y).aft.length = 2) := hl2
      have HJL : Hid ((insR r j (joinN r x y)).length = len + 1) := by show _ = _; rw [ins_len (by rw [HZ.out]; exact hj), HZ.out]
      have HJV : Hid (rvB (insR r j (joinN r x y)) = true) := by show _ = _; rw [← hcnt]; exact ins_rv HV.out (by rw [HZ.out]; omega) HND.out HIO.out
      have HBA : Hid (∀ o, Below wr.heap.size wr (wr.alloc o)) := fun o => (Below.refl _ _).alloc (Nat.le_refl _) _
      clear hcnt hin hnoff hl2
      have s0 : (0 : Int) ≤ (j : Int) := by omega
      have s1 : (j : Int) ≤ (len : Int) := by omega
      have s2 : (j : Int) ≤ (cap : Int) := by omega
      have s3 : j ≤ len := hj
      have s4 : j ≤ cap := by omega
      have hpos : (decide ((j : Int) < (len : Int)) = false) ∨ (decide ((j : Int) < (len : Int)) = true ∧ decide ((gn r j).pos < x) = false ∧ j < len) := by
        rcases hend with h | ⟨h1, h2⟩
        · exact .inl (by simp; omega)
        · exact .inr ⟨by simp; omega, by simp; omega, h1⟩
      clear hend
      have hfin : ∀ (g5 cap5 : Nat) (w5 : World) (M : List (Nd × Value)), M.map (fun p => p.1) = r.drop j → RowL w5 w1.heap.size g5 cap5 ((L.take j ++ [(joinN r x y, .slice (some ⟨b3, o3, none⟩) 2 sc)]) ++ M) → RingAt w5 (some ⟨g5, 0, none⟩) (insR r j (joinN r x y)) := by
        intro g5 cap5 w5 M hM hrow5
        have h5 := hrow5.ring
        have em : ((L.take j ++ [(joinN r x y, .slice (some ⟨b3, o3, none⟩) 2 sc)]) ++ M : List (Nd × Value)).map (fun p => p.1) = insR r j (joinN r x y) := by
          rw [List.map_append, List.map_append, List.map_take, HLM.out, hM, List.append_assoc]; rfl
        rw [em] at h5; exact h5
      have HFIN := Lib.hid hfin
      have HDR : Hid ((L.drop j).map (fun p => p.1) = r.drop j) := by show _ = _; rw [List.map_drop, HLM.out]
      clear hfin
      rcases hpos with d3 | ⟨d3, d4, hjl⟩
      rotate_left
      · have hjr : j < r.length := by rw [HZ.out]; exact hjl
        obtain ⟨_, _, hnodes⟩ : ∃ u v, NodeAt wr b (off + j * 3) (gn r j) := by
          obtain ⟨b9, off9, hab9, hlt9, hn9⟩ := (HI.out.keepB (hb1.trans (hbel.mono hb1.size)) (Nat.le_refl _)).at_ hjr
          injection hab9 with hab9
          injection hab9 with h91 h92
          subst h91 h92
          exact ⟨0, 0, hn9 j hjr⟩
        have e0 := hnodes.1
        clear hnodes
        have hck : ¬ cap = j := by omega
        go_wp2_with (at_builtin; first
          | (refine wl_appN (o := ⟨some 92, _, _, _, _, _⟩) _ (by rfl) _ _ (by rfl) w1.heap.size g j gc (L.take j) [(joinN r x y, .slice (some ⟨b3, o3, none⟩) 2 sc)] (by rfl) (HR.out.keepB (HBA.out _) (Nat.le_refl _)) HLJ.out ⟨wr.heap.size, 0, none⟩ 1 1 (by rfl) rfl (srcN_one (heap_alloc_new wr _)) (fun q hq => by rw [List.mem_singleton] at hq; subst hq; exact HNO.out.keepB (HBA.out _) (Nat.le_refl _)) (j + 1) rfl (by omega) (by simp; omega) ?_
             intro g3 cap3 w3 hown3 hg3 hat3
             have hB3 : Below w1.heap.size w1 w3 := (hbel.alloc hz1 _).grown hg3 (by simp; omega) (fun q hq => by injection hq with hq; omega)
             have hg31 := hown3.blk.1)
          | (refine wl_appN (o := ⟨some 97, _, _, _, _, _⟩) _ (by rfl) _ _ (by rfl) w1.heap.size g3 (j + 1) cap3 (L.take j ++ [(joinN r x y, .slice (some ⟨b3, o3, none⟩) 2 sc)]) (L.drop j) (by rfl) hown3 (by rw [List.length_append, HLJ.out]; rfl) ⟨b, off + j * 3, none⟩ (len - j) (cap - j) (by rfl) (by rw [List.length_drop, HLL.out]) (fun q u hu => by rw [add_plain, Nat.add_assoc]; exact (hB3.cell (p := ⟨b, off + (j * 3 + q), none⟩) hb0).trans (HLC.out _ u (flat_drop (by rw [HLL.out]; omega) hu))) (fun p hp => ((HLI.out p (List.mem_of_mem_drop hp)).offNew hg31).keepB hB3 (Nat.le_refl _)) (len + 1) (by omega) (by omega) hB3.size ?_
             intro g5 cap5 w5 hown5 hg5 hat5
             have hB5 : Below w1.heap.size w1 w5 := hB3.grown hg5 hB3.size (fun q hq => by injection hq with hq; omega)))
        have hR5 := HFIN.out g5 cap5 w5 _ HDR.out hown5
        have HR5 := Lib.hid hR5
        have hb5 : Below w.heap.size w w5 := hb1.trans (hB5.mono hb1.size)
        clear hR5 hown5 hg5 hat5 hown3 hg3 hat3
        go_wp2_with fail
        refine (copy_any _ _ _ (insR r j (joinN r x y)) w5 HR5.out (by first | exact HJL.out | (rw [HJL.out]; omega)) HJV.out).mono ?_
        rintro e w7 ⟨N, c2, F, rfl, ho, h1, h2, hB⟩
        have HO := Lib.hid ho
        have HC := Lib.hid (And.intro h1 h2)
        clear ho h1 h2
        rw [HJL.out]
        go_wp2
        go_ret2
        rw [joinR, HA.out, HJ.out, if_pos rfl, if_pos rfl, HCN.out, Bool.and_true]
        exact NewOwn.toRB hb5 HO.out HC.out.1 HC.out.2 hB _ (by rw [HJL.out])
      · have hjl : len = j := by simp at d3; omega
        subst hjl
        clear d3 s1 s2
        have hdr : L.drop len = [] := List.drop_eq_nil_of_le (by rw [HLL.out]; omega)
        have HDR0 := Lib.hid hdr
        clear hdr
        have s5 : (len : Int) ≤ (cap : Int) := by omega
        by_cases hck : cap = len
        · go_wp2_with (at_builtin; first
            | (refine wl_appN (o := ⟨some 92, _, _, _, _, _⟩) _ (by rfl) _ _ (by rfl) w1.heap.size g len gc (L.take len) [(joinN r x y, .slice (some ⟨b3, o3, none⟩) 2 sc)] (by rfl) (HR.out.keepB (HBA.out _) (Nat.le_refl _)) HLJ.out ⟨wr.heap.size, 0, none⟩ 1 1 (by rfl) rfl (srcN_one (heap_alloc_new wr _)) (fun q hq => by rw [List.mem_singleton] at hq; subst hq; exact HNO.out.keepB (HBA.out _) (Nat.le_refl _)) (len + 1) rfl (by omega) (by simp; omega) ?_
               intro g3 cap3 w3 hown3 hg3 hat3
               have hB3 : Below w1.heap.size w1 w3 := (hbel.alloc hz1 _).grown hg3 (by simp; omega) (fun q hq => by injection hq with hq; omega)
               have hg31 := hown3.blk.1)
            | (refine wl_appN (o := ⟨some 97, _, _, _, _, _⟩) _ (by rfl) _ _ (by rfl) w1.heap.size g3 (len + 1) cap3 (L.take len ++ [(joinN r x y, .slice (some ⟨b3, o3, none⟩) 2 sc)]) [] (by rfl) hown3 (by rw [List.length_append, HLJ.out]; rfl) ⟨b, off, none⟩ 0 0 (by rfl) rfl (fun q u hu => by simp [flatL] at hu) (fun p hp => by cases hp) (len + 1) (by omega) (by omega) hB3.size ?_
               intro g5 cap5 w5 hown5 hg5 hat5
               have hB5 : Below w1.heap.size w1 w5 := hB3.grown hg5 hB3.size (fun q hq => by injection hq with hq; omega)))
          have hR5 := HFIN.out g5 cap5 w5 _ (by rw [← HDR.out, HDR0.out]) hown5
          have HR5 := Lib.hid hR5
          have hb5 : Below w.heap.size w w5 := hb1.trans (hB5.mono hb1.size)
          clear hR5 hown5 hg5 hat5 hown3 hg3 hat3
          go_wp2_with fail
          refine (copy_any _ _ _ (insR r len (joinN r x y)) w5 HR5.out (by first | exact HJL.out | (rw [HJL.out]; omega)) HJV.out).mono ?_
          rintro e w7 ⟨N, c2, F, rfl, ho, h1, h2, hB⟩
          have HO := Lib.hid ho
          have HC := Lib.hid (And.intro h1 h2)
          clear ho h1 h2
          rw [HJL.out]
          go_wp2
          go_ret2
          rw [joinR, HA.out, HJ.out, if_pos rfl, if_pos rfl, HCN.out, Bool.and_true]
          exact NewOwn.toRB hb5 HO.out HC.out.1 HC.out.2 hB _ (by rw [HJL.out])
        · go_wp2_with (at_builtin; first
            | (refine wl_appN (o := ⟨some 92, _, _, _, _, _⟩) _ (by rfl) _ _ (by rfl) w1.heap.size g len gc (L.take len) [(joinN r x y, .slice (some ⟨b3, o3, none⟩) 2 sc)] (by rfl) (HR.out.keepB (HBA.out _) (Nat.le_refl _)) HLJ.out ⟨wr.heap.size, 0, none⟩ 1 1 (by rfl) rfl (srcN_one (heap_alloc_new wr _)) (fun q hq => by rw [List.mem_singleton] at hq; subst hq; exact HNO.out.keepB (HBA.out _) (Nat.le_refl _)) (len + 1) rfl (by omega) (by simp; omega) ?_
               intro g3 cap3 w3 hown3 hg3 hat3
               have hB3 : Below w1.heap.size w1 w3 := (hbel.alloc hz1 _).grown hg3 (by simp; omega) (fun q hq => by injection hq with hq; omega)
               have hg31 := hown3.blk.1)
            | (refine wl_appN (o := ⟨some 97, _, _, _, _, _⟩) _ (by rfl) _ _ (by rfl) w1.heap.size g3 (len + 1) cap3 (L.take len ++ [(joinN r x y, .slice (some ⟨b3, o3, none⟩) 2 sc)]) [] (by rfl) hown3 (by rw [List.length_append, HLJ.out]; rfl) ⟨b, off + len * 3, none⟩ 0 (cap - len) (by rfl) rfl (fun q u hu => by simp [flatL] at hu) (fun p hp => by cases hp) (len + 1) (by omega) (by omega) hB3.size ?_
               intro g5 cap5 w5 hown5 hg5 hat5
               have hB5 : Below w1.heap.size w1 w5 := hB3.grown hg5 hB3.size (fun q hq => by injection hq with hq; omega)))
          have hR5 := HFIN.out g5 cap5 w5 _ (by rw [← HDR.out, HDR0.out]) hown5
          have HR5 := Lib.hid hR5
          have hb5 : Below w.heap.size w w5 := hb1.trans (hB5.mono hb1.size)
          clear hR5 hown5 hg5 hat5 hown3 hg3 hat3
          go_wp2_with fail
          refine (copy_any _ _ _ (insR r len (joinN r x y)) w5 HR5.out (by first | exact HJL.out | (rw [HJL.out]; omega)) HJV.out).mono ?_
          rintro e w7 ⟨N, c2, F, rfl, ho, h1, h2, hB⟩
          have HO := Lib.hid ho
          have HC := Lib.hid (And.intro h1 h2)
          clear ho h1 h2
          rw [HJL.out]
          go_wp2
          go_ret2
          rw [joinR, HA.out, HJ.out, if_pos rfl, if_pos rfl, HCN.out, Bool.and_true]
          exact NewOwn.toRB hb5 HO.out HC.out.1 HC.out.2 hB _ (by rw [HJL.out])

end

end Go.Proofs.Ytcbbdhmloniolaa
