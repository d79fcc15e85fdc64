/- Copies of rings in the model; a ring with another node at a place. -/
import Derived.Test.YtfhjmfcdogpbeaaRowsN
import Derived.Test.YtfhjmfcdogpbeaaExactNew
namespace Go.Proofs.Ytfhjmfcdogpbeaa
open Go.RowKit
set_option linter.unusedVariables false

/-- the successors of each node in a block of its own, from block lo on -/
def OwnL (w : World) (lo : Nat) (L : List (Nd × Value)) (F : Nat → Nat) : Prop :=
  (∀ i p, L[i]? = some p → (∃ c, p.2 = .slice (some ⟨F i, 0, none⟩) p.1.aft.length c ∧ p.1.aft.length ≤ c ∧ c ≤ maxLen) ∧ IntsBlk w (F i) p.1.aft ∧ lo ≤ F i) ∧ ∀ i j, i < L.length → j < L.length → F i = F j → i = j
theorem IntsBlk.lt {w : World} {f : Nat} {zs : List Int} (h : IntsBlk w f zs) : f < w.heap.size := by obtain ⟨_, h, _⟩ := h; exact heap_lt h
theorem IntsBlk.ne {w : World} {f g : Nat} {zs : List Int} {cs : Array Value} (h : IntsBlk w f zs) (hg : w.heap[g]? = some (.cells cs 30 (0, 0))) : f ≠ g := by
  intro e
  obtain ⟨_, h, _⟩ := h
  rw [e, hg] at h; injection h with h; injection h with _ h; exact absurd h (by decide)
theorem OwnL.kept {w w' : World} {lo : Nat} {L : List (Nd × Value)} {F : Nat → Nat} (h : OwnL w lo L F) (hk : ∀ i, i < L.length → w'.heap[F i]? = w.heap[F i]?) : OwnL w' lo L F := by
  refine ⟨fun i p hp => ?_, h.2⟩
  obtain ⟨h1, h2, h3⟩ := h.1 i p hp
  exact ⟨h1, h2.kept (hk i (List.getElem?_eq_some_iff.1 hp).1), h3⟩
theorem own_of_row {w : World} {lo base N cap : Nat} {L : List (Nd × Value)} {F : Nat → Nat} {r : List Nd} (h : RowL w base N cap L) (ho : OwnL w lo L F) (hr : L.map (·.1) = r) (hlo : lo ≤ N) : RingOwn w lo w.heap.size N r F := by
  obtain ⟨_, hN, cs, hb, _, _, _, hc⟩ := h.blk
  subst hr
  have hat : ∀ i, i < (L.map (·.1)).length → ∃ p, L[i]? = some p ∧ gn (L.map (·.1)) i = p.1 := fun i hi => by
    have hi' : i < L.length := by simpa using hi
    exact ⟨L[i], List.getElem?_eq_getElem hi', by rw [gn_get hi]; simp⟩
  refine ⟨⟨cs, hb, fun i hi => ?_⟩, fun i hi => ?_, ⟨hlo, hN⟩, fun i hi => ?_, fun i j hi hj => ho.2 i j (by simpa using hi) (by simpa using hj)⟩
  · obtain ⟨p, hp, e⟩ := hat i hi
    obtain ⟨f1, f2, f3⟩ := flatL_at hp
    obtain ⟨⟨c, hv, h1, h2⟩, _, _⟩ := ho.1 i p hp
    rw [e]
    exact ⟨hc _ _ f1, hc _ _ f2, c, by rw [← hv]; exact hc _ _ f3, h1, h2⟩
  · obtain ⟨p, hp, e⟩ := hat i hi
    rw [e]; exact (ho.1 i p hp).2.1
  · obtain ⟨p, hp, e⟩ := hat i hi
    obtain ⟨_, h2, h3⟩ := ho.1 i p hp
    exact ⟨h3, h2.lt, h2.ne hb⟩
theorem OwnL.add {w : World} {lo : Nat} {L : List (Nd × Value)} {F : Nat → Nat} {n : Nd} {f c : Nat} (h : OwnL w lo L F) (hi : IntsBlk w f n.aft) (hf : lo ≤ f) (hn : ∀ i, i < L.length → F i ≠ f) (h1 : n.aft.length ≤ c) (h2 : c ≤ maxLen) :
    OwnL w lo (L ++ [(n, .slice (some ⟨f, 0, none⟩) n.aft.length c)]) (fun i => if i = L.length then f else F i) := by
  refine ⟨fun i p hp => ?_, fun i j hi hj he => ?_⟩
  · by_cases e : i = L.length
    · subst e
      rw [List.getElem?_append_right (Nat.le_refl _)] at hp
      simp at hp
      subst hp
      simp only [↓reduceIte]
      exact ⟨⟨c, rfl, h1, h2⟩, hi, hf⟩
    · simp only [if_neg e]
      have hlt : i < L.length := by
        have := (List.getElem?_eq_some_iff.1 hp).1
        simp at this; omega
      rw [List.getElem?_append_left hlt] at hp
      exact h.1 i p hp
  · simp at hi hj
    by_cases e1 : i = L.length
    · by_cases e2 : j = L.length
      · omega
      · simp only [if_pos e1, if_neg e2] at he
        exact absurd he.symm (hn j (by omega))
    · by_cases e2 : j = L.length
      · simp only [if_neg e1, if_pos e2] at he
        exact absurd he (hn i (by omega))
      · simp only [if_neg e1, if_neg e2] at he
        exact h.2 i j (by omega) (by omega) he

/-- a new ring in blocks of its own -/
def NewOwn (r : List Nd) (w : World) (e : Ending) (w' : World) : Prop :=
  ∃ N cap F, e = .returned (.slice (some ⟨N, 0, none⟩) r.length cap) ∧ RingOwn w' w.heap.size w'.heap.size N r F ∧ r.length ≤ cap ∧ cap ≤ maxLen ∧ Below w.heap.size w w'
/-- at the head of the loop of l3Copy -/
def CopyAt (r : List Nd) (w : World) (k : Nat) (v : Value) (wr : World) : Prop :=
  ∃ L F, L.map (·.1) = r.take k ∧ RowSoFar L w v wr ∧ OwnL wr w.heap.size L F
theorem take_gn {r : List Nd} {k : Nat} (h : k < r.length) : r.take (k + 1) = r.take k ++ [gn r k] := by rw [List.take_succ_eq_append_getElem h, gn_get h]

theorem alloc_past (w : World) (p : Addr) (u : Value) {o : Obj} : ((w.setCell p u).alloc o).heap[w.heap.size]? = some o := by
  have h := heap_alloc_new (w.setCell p u) o
  have e : (w.setCell p u).heap.size = w.heap.size := by simp [World.setCell]
  rwa [e] at h
theorem src_two {W : World} {b o : Nat} {x y : Int} (h0 : W.cell? ⟨b, o, none⟩ = some (.int .i64 x)) (h1 : W.cell? ⟨b, o + 1, none⟩ = some (.int .i64 y)) :
    ∀ j u, (vals [x, y])[j]? = some u → W.cell? ((⟨b, o, none⟩ : Addr).add j) = some u := by
  intro j u hu
  rw [add_plain]
  rcases j with _ | _ | j
  · simp [vals] at hu; subst hu; exact h0
  · simp [vals] at hu; subst hu; exact h1
  · simp [vals] at hu
theorem own_blk {w : World} {base g n cap : Nat} {zs : List Int} (h : w.ownsRow base 3 1 (.slice (some ⟨g, 0, none⟩) n cap) n (vals zs)) (hn : zs.length = n) : IntsBlk w g zs ∧ base ≤ g ∧ n ≤ cap ∧ cap ≤ maxLen := by
  subst hn
  rcases h.2 with ⟨hn, _⟩ | ⟨g', cap', cur, hv, hb, hg, hnc, hcm, hs, ht⟩
  · cases hn
  · injection hv with hv _ hc; injection hv with hv; injection hv with hv; subst hv hc
    refine ⟨⟨cur, hg, fun j hj => ?_⟩, hb, hnc, hcm⟩
    have h1 := vals_get hj
    rw [← ht, List.getElem?_take, if_pos (by omega)] at h1
    simpa using h1

theorem IntsBlk.toOff {w : World} {f g : Nat} {x y : Int} {c : Nat} (h : IntsBlk w f [x, y]) (hg : f ≠ g) (h1 : 2 ≤ c) (h2 : c ≤ maxLen) : IntsOff w g (.slice (some ⟨f, 0, none⟩) 2 c) [x, y] := by
  obtain ⟨cs, hb, hc⟩ := h
  exact ⟨some ⟨f, 0, none⟩, c, rfl, h1, h2, .inr ⟨f, 0, rfl, hg, heap_lt hb, fun i hi => by rw [Nat.zero_add, cell_of_cells hb]; exact hc i hi⟩⟩
/-- the worlds of a round of l3Copy: wo, then the variable's block, then a new row of successors in block g3 (world w3), then the field is set (world W2) -/
theorem round_world {wo w3 : World} {o1 : Obj} {g3 cap3 : Nat} {x y : Int} {cs : Array Value} (hg3 : ((wo.alloc o1).alloc (.cells cs 3)).grownBy w3 (some (wo.heap.size + 1))) (hown3 : w3.ownsRow wo.heap.size 3 1 (.slice (some ⟨g3, 0, none⟩) 2 cap3) 2 (vals [x, y])) (hat3 : g3 = wo.heap.size + 1 ∨ g3 = wo.heap.size + 1 + 1) (u : Value) (o2 : Obj) :
    Below wo.heap.size wo ((w3.setCell ⟨wo.heap.size, 2, none⟩ u).alloc o2) ∧ IntsBlk ((w3.setCell ⟨wo.heap.size, 2, none⟩ u).alloc o2) g3 [x, y] ∧ wo.heap.size < g3 ∧ g3 < w3.heap.size ∧ 2 ≤ cap3 ∧ cap3 ≤ maxLen ∧ w3.heap[wo.heap.size]? = some o1 := by
  obtain ⟨hb, h1, h2, h3⟩ := own_blk hown3 rfl
  have h4 := hb.lt
  have hz := hg3.size
  simp at hz
  refine ⟨?_, ?_, by omega, h4, h2, h3, ?_⟩
  · have hB : Below wo.heap.size wo w3 := Below.grown (((Below.refl _ _).alloc (Nat.le_refl _) o1).alloc (by simp) _) hg3 (by simp; omega) (fun q hq => by injection hq with hq; omega)
    exact (hB.setCell (p := ⟨wo.heap.size, 2, none⟩) (Nat.le_refl _) u).alloc (by simp [World.setCell]; omega) _
  · refine hb.kept ((Below.heap_alloc _ o2 g3 (by simp [World.setCell]; exact h4)).trans (heap_set_ne _ _ _ _ _ (by omega)))
  · exact (hg3.block wo.heap.size (by simp; omega) (by intro e; injection e with e; omega)).trans (heap_first wo o1 _)
theorem copy_step {r : List Nd} {w wo W2 w5 : World} {k g gc g3 cap3 g5 cap5 : Nat} {L : List (Nd × Value)} {F : Nat → Nat} {n : Nd} {x y : Int} (hk : k < r.length) (hn : gn r k = n) (ha : n.aft = [x, y]) (hLm : L.map (·.1) = r.take k)
    (hrow : RowL wo w.heap.size g gc L) (hbel : Below w.heap.size w wo) (ho : OwnL wo w.heap.size L F) (hB : Below wo.heap.size wo W2) (hi : IntsBlk W2 g3 [x, y]) (h3 : wo.heap.size < g3) (h31 : 2 ≤ cap3) (h32 : cap3 ≤ maxLen)
    (hg5 : W2.grownBy w5 (some g)) (hrow5 : RowL w5 w.heap.size g5 cap5 (L ++ [(n, .slice (some ⟨g3, 0, none⟩) 2 cap3)])) : CopyAt r w (k + 1) (.slice (some ⟨g5, 0, none⟩) (L.length + 1) cap5) w5 := by
  obtain ⟨hg1, hg2, cs, hgb, _⟩ := hrow.blk
  have hz := hB.size
  have hl2 : n.aft.length = 2 := by rw [ha]; rfl
  have hF : ∀ i, i < L.length → F i < wo.heap.size ∧ F i ≠ g := fun i hi => by
    obtain ⟨_, h2, _⟩ := ho.1 i _ (List.getElem?_eq_getElem hi)
    exact ⟨h2.lt, h2.ne hgb⟩
  have ho5 : OwnL w5 w.heap.size L F := ho.kept (fun i hi => (hg5.block _ (by have := (hF i hi).1; omega) (by intro e; injection e with e; exact (hF i hi).2 e)).trans (hB.block _ (hF i hi).1))
  have hi5 : IntsBlk w5 g3 n.aft := by rw [ha]; exact hi.kept (hg5.block _ hi.lt (by intro e; injection e with e; omega))
  have hadd := ho5.add (c := cap3) hi5 (by have := hbel.size; omega) (fun i hi => by have := (hF i hi).1; omega) (by omega) h32
  rw [hl2] at hadd
  refine ⟨_, _, ?_, ⟨g5, cap5, by rw [List.length_append]; rfl, hrow5, ?_⟩, hadd⟩
  · rw [List.map_append, hLm, take_gn hk, hn]; rfl
  · exact (hbel.trans (hB.mono hbel.size)).grown hg5 (by have := hbel.size; omega) (fun q hq => by injection hq with hq; omega)

set_option maxHeartbeats 2000000 in
theorem copy_any (a : Option Addr) (len cap : Nat) (r : List Nd) (w : World) (h : RingAt w a r) (hz : r.length = len) (hv : rvB r = true) :
    Calls Try.prog 69 #[.slice a len cap] w (NewOwn r w) := by
  have hm := rv_len hv
  rw [hz] at hm
  have HI := Lib.hid h
  have HZ := Lib.hid hz
  have HV := Lib.hid hv
  clear h hz hv
  go_enter Try.func69, Try.ntmps69
  go_wp2
  go_loopw [3, 4] (fun o i wr => ∃ k : Nat, k ≤ len ∧ i = .int .i64 k ∧ CopyAt r w k o wr) (fun _ i _ => len - (intOf i).toNat)
  case atStart => exact ⟨0, by omega, rfl, [], fun _ => 0, by simp, rowfar_new w _ rfl, fun i p hp => by simp at hp, fun i j hi => absurd hi (by simp)⟩
  case round =>
    obtain ⟨k, hk, rfl, L, F, hLm, ⟨g, gc, rfl, hrow, hbel⟩, hown⟩ := hrel
    have hLl : L.length = k := by have := congrArg List.length hLm; simp at this; rw [HZ.out] at this; omega
    have HLM := Lib.hid hLm
    have HLL := Lib.hid hLl
    rw [hLl]
    clear hLm hLl
    by_cases hlt : k < len
    · have hkr : k < r.length := by rw [HZ.out]; exact hlt
      obtain ⟨b, off, rfl, hb0, hnodes⟩ := (HI.out.keepB hbel (Nat.le_refl _)).at_ hkr
      obtain ⟨sa, sc, hc0, hc1, hc2, hl, hmx, hints⟩ := node_open (hnodes k hkr)
      obtain ⟨x, y, haft, _⟩ := aft_two (rv_nd HV.out hkr)
      rw [haft] at hints hc2 hl
      simp only [List.length_cons, List.length_nil, Nat.zero_add] at hc2 hl
      obtain ⟨b3, o3, rfl, hb3, hx3, hy3⟩ := ints_two hints
      have HA := Lib.hid haft
      clear hnodes hints haft hmx
      obtain ⟨wo, rfl⟩ : ∃ x, x = wr := ⟨_, rfl⟩
      have HR := Lib.hid hrow
      have HO := Lib.hid hown
      have hgl := hrow.blk
      have hz0 := hbel.size
      clear hrow hown
      have HX3 : Hid (∀ p q, ((wo.alloc p).alloc q).cell? ⟨b3, o3, none⟩ = some (.int .i64 x)) := fun p q => ((((Below.refl _ _).alloc (Nat.le_refl _) p).alloc (by simp) q : Below wo.heap.size wo _).cell (p := ⟨b3, o3, none⟩) hb3).trans hx3
      have HY3 : Hid (∀ p q, ((wo.alloc p).alloc q).cell? ⟨b3, o3 + 1, none⟩ = some (.int .i64 y)) := fun p q => ((((Below.refl _ _).alloc (Nat.le_refl _) p).alloc (by simp) q : Below wo.heap.size wo _).cell (p := ⟨b3, o3 + 1, none⟩) hb3).trans hy3
      clear hx3 hy3
      go_wp2_with (at_builtin; first
        | (refine wl_app _ (by rfl) _ _ (by rfl) wo.heap.size (wo.heap.size + 1) 0 0 [] (by rfl) (own_empty (heap_second wo _ _) (by omega)) ⟨b3, o3, none⟩ 2 sc (vals [x, y]) (by rfl) rfl (src_two (HX3.out _ _) (HY3.out _ _)) (vals_one _) 2 (vals [x, y]) rfl (by simp) (by omega) (by simp; omega) ?_
           intro g3 cap3 w3 hown3 hg3 hat3
           have RW := Lib.hid (fun u o2 => round_world hg3 hown3 (by simpa using hat3) u o2)
           have hV := (RW.out (.int .i64 0) (.cells #[] 0)).2.2.2.2.2.2
           have y0 : w3.cell? ⟨wo.heap.size, 0, none⟩ = some (.int .i64 (gn r k).pos) := by rw [cell_of_cells hV]; rfl
           have y1 : w3.cell? ⟨wo.heap.size, 1, none⟩ = some (.int .i64 (gn r k).bef) := by rw [cell_of_cells hV]; rfl
           have y2 : w3.cell? ⟨wo.heap.size, 2, none⟩ = some (.slice (some ⟨b3, o3, none⟩) 2 sc) := by rw [cell_of_cells hV]; rfl
           have yf : ∀ i, w3.frozen? ⟨wo.heap.size, i, none⟩ = false := fun i => frozen_of_cells hV i
           clear hV hown3 hg3 hat3)
        | (refine wl_appN _ (by rfl) _ _ (by rfl) w.heap.size g k gc L [(⟨(gn r k).pos, (gn r k).bef, [x, y]⟩, .slice (some ⟨g3, 0, none⟩) 2 cap3)] (by rfl) (HR.out.keepB (RW.out _ _).1 (Nat.le_refl _)) HLL.out ⟨w3.heap.size, 0, none⟩ 1 1 (by rfl) rfl (srcN_one (alloc_past _ _ _)) (fun p hp => by rw [List.mem_singleton] at hp; subst hp; exact (RW.out _ _).2.1.toOff (by have := (RW.out (.int .i64 0) (.cells #[] 0)).2.2.1; omega) (RW.out (.int .i64 0) (.cells #[] 0)).2.2.2.2.1 (RW.out (.int .i64 0) (.cells #[] 0)).2.2.2.2.2.1) (k + 1) rfl (by omega) (by simp [World.setCell]; have := (RW.out (.int .i64 0) (.cells #[] 0)).2.2.2.1; have := (RW.out (.int .i64 0) (.cells #[] 0)).2.2.1; omega) ?_
           intro g5 cap5 w5 hown5 hg5 hat5))
      go_roundw
      case rel =>
        have hfin := copy_step hkr (n := ⟨(gn r k).pos, (gn r k).bef, [x, y]⟩) (by rw [← HA.out]) rfl HLM.out HR.out hbel HO.out (RW.out _ _).1 (RW.out _ _).2.1 (RW.out (.int .i64 0) (.cells #[] 0)).2.2.1 (RW.out (.int .i64 0) (.cells #[] 0)).2.2.2.2.1 (RW.out (.int .i64 0) (.cells #[] 0)).2.2.2.2.2.1 hg5 hown5
        rw [HLL.out] at hfin
        exact ⟨k + 1, by omega, by go_num, hfin⟩
      case measure => simp [intOf]; omega
    · have hkk : k = r.length := by rw [HZ.out]; omega
      have HK := Lib.hid hkk
      have HR := Lib.hid hrow
      have HO := Lib.hid hown
      clear hkk hrow hown
      go_wp2
      go_ret
      have hfull : L.map (·.1) = r := by rw [HLM.out, HK.out, List.take_length]
      obtain ⟨h1, _, _, _, h2, h3, _⟩ := HR.out.blk
      have hrl : r.length = k := HK.out.symm
      exact ⟨g, gc, F, by rw [hrl]; rfl, own_of_row HR.out HO.out hfull h1, by rw [hrl, ← HLL.out]; exact h2, h3, hbel⟩
end Go.Proofs.Ytfhjmfcdogpbeaa
