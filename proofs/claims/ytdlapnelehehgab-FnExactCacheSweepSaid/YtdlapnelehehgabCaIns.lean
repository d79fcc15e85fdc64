/- slices.Insert and slices.Delete, at entries. -/
import Derived.Test.YtdlapnelehehgabCaF
import Derived.Laws.CopyRow
import Derived.Laws.CopyOwn
import Derived.Laws.Externs
import Derived.Lib.Overlaps
import Derived.Lib.AppendZeros
namespace Go.Proofs.Ytdlapnelehehgab
open Go.RowKit
set_option linter.unusedVariables false

theorem entSize : (Try.prog.info? 38).map (·.size) = some 3 := by kernel_rfl
theorem entSizeOf (w : World) : (Go.sizeOf 38).run Try.prog w = .ok 3 w := by
  obtain ⟨i, hi, hs⟩ := Option.map_eq_some_iff.1 entSize
  simp [sizeOf, typeInfo, hi, hs]

/-- copy of leases into a row -/
theorem run_copyL (W : World) (ty : TypeId) (g o dLen dCap : Nat) (a : Addr) (sLen sCap : Nat) (cur : Array Value) (M : List Ls) (hg : W.heap[g]? = some (.cells cur 38 (0, 0))) (hn : M.length = Nat.min sLen dLen)
    (hsrc : ∀ (j : Nat) (u : Value), (flat M)[j]? = some u → W.cell? (a.add j) = some u) (hfit : o + M.length * 3 ≤ cur.size) :
    (Builtin.copy_ #[24, 24] ty #[.slice (some ⟨g, o, none⟩) dLen dCap, .slice (some a) sLen sCap]).run Try.prog W =
      .ok (goInt M.length) (W.setRow g (cur.toList.take o ++ flat M ++ cur.toList.drop (o + M.length * 3)).toArray) := by
  have hl := run_loadCells_list (P := Try.prog) W a (flat M) hsrc
  have hst := run_storeCells_at Try.prog g o 38 (flat M) 0 cur W hg (by rw [flat_len]; simpa using hfit) (flat_one M)
  obtain ⟨i, hi, hs⟩ := Option.map_eq_some_iff.1 entSize
  simp only [flat_len] at hl hst
  rw [hn] at hl hst ⊢
  simp only [Nat.add_zero] at hst
  simp [Builtin.copy_, run_underlying Try.underlying24, Builtin.lenOf, Builtin.firstCells, sizeOf, typeInfo, hi, hs, hl, hst]

theorem flat_ins (L : List Ls) (i : Nat) (x : Ls) : flat (insL L i x) = flat (L.take i) ++ lsC x ++ flat (L.drop i) := by rw [insL, flat_app, flat_cons, List.append_assoc]
/-- the cells of a row behind both copies -/
theorem ins_cells {L : List Ls} {i : Nat} {x : Ls} {cur : List Value} (hi : i < L.length) (hp : (flat L).take (i * 3) = cur.take (i * 3)) (hs : (L.length + 1) * 3 ≤ cur.length) :
    ∃ rest, ((cur.take ((i + 1) * 3) ++ flat (L.drop i) ++ cur.drop ((i + 1) * 3 + (L.drop i).length * 3)).take (i * 3) ++ flat [x] ++ (cur.take ((i + 1) * 3) ++ flat (L.drop i) ++ cur.drop ((i + 1) * 3 + (L.drop i).length * 3)).drop (i * 3 + [x].length * 3)) = flat (insL L i x) ++ rest := by
  refine ⟨cur.drop ((i + 1) * 3 + (L.drop i).length * 3), ?_⟩
  have l1 : (cur.take ((i + 1) * 3)).length = (i + 1) * 3 := by rw [List.length_take]; omega
  have t1 : (cur.take ((i + 1) * 3) ++ flat (L.drop i) ++ cur.drop ((i + 1) * 3 + (L.drop i).length * 3)).take (i * 3) = flat (L.take i) := by
    rw [List.append_assoc, List.take_append_of_le_length (by omega), List.take_take, Nat.min_eq_left (by omega), ← hp, flat_take]
  have t2 : (cur.take ((i + 1) * 3) ++ flat (L.drop i) ++ cur.drop ((i + 1) * 3 + (L.drop i).length * 3)).drop (i * 3 + [x].length * 3) = flat (L.drop i) ++ cur.drop ((i + 1) * 3 + (L.drop i).length * 3) := by
    rw [List.append_assoc, List.drop_left' (by rw [l1]; simp; omega)]
  rw [t1, t2, flat_ins]
  simp [flat]

/-- .. where the new one is laid first -/
theorem ins_cells2 {L : List Ls} {i : Nat} {x : Ls} {cur : List Value} (hi : i < L.length) (hp : cur.take (i * 3) = flat (L.take i)) (hs : (L.length + 1) * 3 ≤ cur.length) :
    ∃ rest, ((cur.take (i * 3) ++ flat [x] ++ cur.drop (i * 3 + [x].length * 3)).take ((i + 1) * 3) ++ flat (L.drop i) ++ (cur.take (i * 3) ++ flat [x] ++ cur.drop (i * 3 + [x].length * 3)).drop ((i + 1) * 3 + (L.drop i).length * 3)) = flat (insL L i x) ++ rest := by
  refine ⟨(cur.take (i * 3) ++ flat [x] ++ cur.drop (i * 3 + [x].length * 3)).drop ((i + 1) * 3 + (L.drop i).length * 3), ?_⟩
  have t1 : (cur.take (i * 3) ++ flat [x] ++ cur.drop (i * 3 + [x].length * 3)).take ((i + 1) * 3) = flat (L.take i) ++ flat [x] := by
    rw [List.take_left' (by rw [List.length_append, List.length_take, flat_len]; simp; omega), hp]
  rw [t1, flat_ins]
  simp [flat]

/-- append of zeros, where there is no room -/
theorem appL_zeros (b n c i : Nat) (L : List Ls) (w : World) (hs : ∀ (j : Nat) (u : Value), (flat (L.take i))[j]? = some u → w.drew.cell? ((⟨b, 0, none⟩ : Addr).add j) = some u) (hL : L.length = n) (ha : i < n) (hm : n ≤ 12) (hc : c ≤ n) (ty : TypeId) :
    (Builtin.append_ #[24, 3] ty #[.slice (some ⟨b, 0, none⟩) i c, .int .i64 ((n : Int) + 1 - i)]).run Try.prog w =
      .ok (.slice (some ⟨w.heap.size, 0, none⟩) (n + 1) (grownCap w (n + 1) c 38)) (w.drew.alloc (.cells ((flat (L.take i)).toArray ++ Builtin.zeroCells (Value.agg #[.int .i64 0, .int .i64 0, .int .i64 0]).cells (n + 1 - i) ++ Builtin.zeroCells (Value.agg #[.int .i64 0, .int .i64 0, .int .i64 0]).cells (grownCap w (n + 1) c 38 - (n + 1))) 38)) := by
  obtain ⟨i0, hi0, hz0, hz1, hz2⟩ := info_parts Try.infoEntry
  have hw : IntKind.i64.wrap ((n : Int) + 1 - i) = ((n + 1 - i : Nat) : Int) := by rw [IntKind.wrap_i64]; omega
  have hfo := run_firstCells_some (P := Try.prog) w.drew 3 i ⟨b, 0, none⟩ i c (flat (L.take i)) (by rw [flat_len, List.length_take]; omega) hs
  have h48 : ¬ (281474976710656 < Builtin.nextslicecap (n + 1) c * 24) := by have := growslice_fits (need := n + 1) (old := c) (bytes := 24) (by omega) (by omega); omega
  have u3 := Try.underlying3
  obtain ⟨m, hm'⟩ : ∃ m, m = n + 1 - i := ⟨_, rfl⟩
  rw [← hm'] at hw ⊢
  have e1 : i + m = n + 1 := by omega
  have c1 : ¬ ((m : Int) < 0) := by omega
  have c2 : ¬ (281474976710656 < (m : Int) * 24) := by omega
  have c4 : ¬ (m = 0) := by omega
  have c5 : ¬ (9223372036854775807 < (i : Int) + (m : Int)) := by omega
  have c6 : ¬ (n + 1 ≤ c) := by omega
  have c7 : max (m : Int) 0 = m := by omega
  simp [Builtin.append_, run_underlying Try.underlying24, run_underlying u3, sizeOf, typeInfo, zeroValue, hi0, hz0, hz1, hz2, asInt, asIntOf, hw, c1, c2, c5, c6, c7, e1, h48, hfo, Question.forced, newRow, grownCap]
  intro hc; omega
theorem zeroL_size (n : Nat) : (Builtin.zeroCells (Value.agg #[.int .i64 0, .int .i64 0, .int .i64 0]).cells n).size = n * 3 := by simp [Builtin.zeroCells, Value.cells]

/-- where a row has the cells of leases at its head -/
theorem own_app {w : World} {base g cap : Nat} {cs : List Value} {M : List Ls} {rest : List Value} (hb : w.heap[g]? = some (.cells cs.toArray 38 (0, 0))) (he : cs = flat M ++ rest) (hg : base ≤ g) (hm : cap ≤ maxLen) (hs : cs.length = cap * 3) : OwnS w base g cap M := by
  refine own_mk hb hg ?_ hm (by simpa using hs) fun j u hu => ?_
  · rw [he, List.length_append, flat_len] at hs; omega
  · rw [he]
    rw [List.getElem?_toArray, List.getElem?_append_left]
    · exact hu
    · rcases Nat.lt_or_ge j (flat M).length with h | h
      · exact h
      · rw [List.getElem?_eq_none h] at hu; cases hu

/-- what Insert leaves -/
def InsLPost (base b : Nat) (M : List Ls) (w : World) (e : Ending) (w' : World) : Prop :=
  ∃ g c, e = .returned (.slice (some ⟨g, 0, none⟩) M.length c) ∧ OwnS w' base g c M ∧ w.grownBy w' (some b)

theorem grown_setRow {w w2 : World} {b : Nat} (hg : w.grownBy w2 (some b)) (cs : Array Value) : w.grownBy (w2.setRow b cs) (some b) :=
  ⟨hg.os, hg.tape, hg.output, by simp; exact hg.size, fun k hk hn => (setRow_other _ _ _ _ (fun e => hn (by rw [e]))).trans (hg.block k hk hn)⟩
theorem grown_drew {w w2 : World} {q : Option Nat} (hg : w.grownBy w2 q) : w.grownBy w2.drew q := ⟨hg.os, hg.tape, hg.output, hg.size, hg.block⟩

set_option maxRecDepth 20000 in
set_option maxHeartbeats 4000000 in
theorem insertL_any (base b c i vb : Nat) (L : List Ls) (x : Ls) (w : World) (h : OwnS w base b c L) (hV : w.heap[vb]? = some (.cells #[.int .i64 x.e, .int .i64 x.o, .int .i64 x.u] 38 (0, 0))) (hvb : vb ≠ b) (hbase : base ≤ w.heap.size) (hl : L.length ≤ 12) (hi : i ≤ L.length) :
    Calls Try.prog 27 #[.slice (some ⟨b, 0, none⟩) L.length c, .int .i64 i, .slice (some ⟨vb, 0, none⟩) 1 1] w (InsLPost base b (insL L i x) w) := by
  have H := Lib.hid h
  have HVV := Lib.hid hV
  obtain ⟨hb1, hb2, cs, hb3, hb4, hb5, hb6, hb7⟩ := h.blk
  have hsrc : ∀ k, k ≤ L.length → ∀ (j : Nat) (u : Value), (flat (L.drop k))[j]? = some u → w.cell? ((⟨b, k * 3, none⟩ : Addr).add j) = some u := fun k hk j u hu => by
    rw [add_plain, cell_of_cells hb3]
    rw [flat_drop, List.getElem?_drop] at hu
    exact hb7 _ _ hu
  have hvsrc := srcL_one (W := w) (N := vb) (x := x) hV
  unfold maxLen at hb5
  obtain ⟨n, hn⟩ : ∃ n, n = L.length := ⟨_, rfl⟩
  have hin : i ≤ n := by omega
  have hn12 : n ≤ 12 := by omega
  have hilen : Hid ((insL L i x).length = n + 1) := by show _ = _; rw [ins_len, hn]
  rw [← hn]
  rcases Nat.lt_or_ge i n with hlt | hge
  rotate_left
  · obtain rfl : i = n := by omega
    obtain ⟨g', c', w2, hrun, ho2, hg2, hat⟩ := run_appL w 24 base b c L [x] H.out ⟨vb, 0, none⟩ 1 hvsrc (by simp; omega) hbase
    have hrun' : ∀ ty, (Builtin.append_ #[24, 24] ty #[.slice (some ⟨b, 0, none⟩) i c, .slice (some ⟨vb, 0, none⟩) 1 1]).run Try.prog w = .ok (.slice (some ⟨g', 0, none⟩) (i + 1) c') w2 := fun ty => by
      have := hrun
      rw [← hn] at this
      exact this
    have HR := Lib.hid hrun'
    have HO : Hid (OwnS w2 base g' c' (insL L i x)) := by
      show OwnS _ _ _ _ _
      have e : insL L i x = L ++ [x] := by unfold insL; rw [hn, List.take_length, List.drop_length]
      rw [e]; exact ho2
    have HG := Lib.hid hg2
    have v1 : ((i : Int) == (i : Int)) = true := by simp
    have hc1 : i ≤ c := by omega
    clear hrun hrun' ho2 hg2 hsrc hvsrc hb3 hb6 hb7 hV h hat hn
    go_enter Try.func27, Try.ntmps27
    go_wp2_with (at_builtin; refine Lib.wpList_append_run w (by rfl) _ _ 24 24 (by rfl) (.slice (some ⟨b, 0, none⟩) i c) (.slice (some ⟨vb, 0, none⟩) 1 1) (by rfl) (by rfl) _ _ (HR.out _) ?_)
    all_goals
      go_ret
      exact ⟨g', c', by rw [hilen.out]; rfl, HO.out, HG.out⟩
  have hdl : (L.drop i).length = n - i := by rw [List.length_drop, hn]
  have r0 : IntKind.i64.wrap ((i : Int) + 1) = ((i + 1 : Nat) : Int) := by rw [IntKind.wrap_i64]; omega
  have r1 : ((i + 1 : Nat) : Int) ≤ (n : Int) + 1 := by omega
  have r3 : ¬ n = i := by omega
  have r4 : (i : Int) ≤ (n : Int) := by omega
  have r5 : (0 : Int) ≤ ((i + 1 : Nat) : Int) := by omega
  have r6 : (0 : Int) ≤ (i : Int) + 1 := by omega
  have v1 : ((i : Int) == (n : Int)) = false := by simp; omega
  rcases Nat.lt_or_ge n c with hroom | hfull
  · -- in place
    have hcp1 := fun ty => run_copyL w.drew ty b ((i + 1) * 3) (n + 1 - (i + 1)) (c - (i + 1)) ⟨b, i * 3, none⟩ (n + 1 - i) (c - i) cs (L.drop i) hb3 (by rw [hdl]; simp only [Nat.min_def]; split <;> omega) (hsrc i (by omega)) (by rw [hdl, hb6]; omega)
    obtain ⟨C1, hC1⟩ : ∃ C1, C1 = cs.toList.take ((i + 1) * 3) ++ flat (L.drop i) ++ cs.toList.drop ((i + 1) * 3 + (L.drop i).length * 3) := ⟨_, rfl⟩
    rw [← hC1, hdl] at hcp1
    have hl1 : C1.length = c * 3 := by rw [hC1]; simp only [List.length_append, List.length_take, List.length_drop, flat_len, hdl, Array.length_toList, hb6]; omega
    have hh1 : (w.drew.setRow b C1.toArray).heap[b]? = some (.cells C1.toArray 38 (0, 0)) := setRow_heap w.drew b cs _ _ _ hb3
    have hcp2 : ∀ ty, (Builtin.copy_ #[24, 24] ty #[.slice (some ⟨b, i * 3, none⟩) (n + 1 - i) (c - i), .slice (some ⟨vb, 0, none⟩) 1 1]).run Try.prog (w.drew.setRow b C1.toArray) = .ok (goInt 1) ((w.drew.setRow b C1.toArray).setRow b (C1.take (i * 3) ++ flat [x] ++ C1.drop (i * 3 + 1 * 3)).toArray) := fun ty => run_copyL (w.drew.setRow b C1.toArray) ty b (i * 3) (n + 1 - i) (c - i) ⟨vb, 0, none⟩ 1 1 C1.toArray [x] hh1 (by simp only [List.length_singleton, Nat.min_def]; split <;> omega) (fun j u hu => (cell_setRow_other w.drew b C1.toArray _ (by rw [add_plain]; exact hvb)).trans (hvsrc j u hu)) (by simp only [List.length_singleton, List.size_toArray, hl1]; omega)
    have hfin : ∃ rest, (C1.take (i * 3) ++ flat [x] ++ C1.drop (i * 3 + [x].length * 3)) = flat (insL L i x) ++ rest := by
      rw [hC1]
      refine ins_cells (by omega) ?_ (by have : cs.toList.length = cs.size := Array.length_toList; omega)
      apply List.ext_getElem?
      intro j
      rcases Nat.lt_or_ge j (i * 3) with hj | hj
      · rw [List.getElem?_take_of_lt hj, List.getElem?_take_of_lt hj]
        have hjl : j < (flat L).length := by rw [flat_len]; omega
        rw [List.getElem?_eq_getElem hjl, Array.getElem?_toList]
        exact (hb7 j _ (List.getElem?_eq_getElem hjl)).symm
      · rw [List.getElem?_eq_none (by rw [List.length_take]; omega), List.getElem?_eq_none (by rw [List.length_take]; omega)]
    have hd2 : ([x] : List Ls).length = 1 := rfl
    obtain ⟨C2, hC2⟩ : ∃ C2, C2 = C1.take (i * 3) ++ flat [x] ++ C1.drop (i * 3 + 1 * 3) := ⟨_, rfl⟩
    rw [← hC2] at hcp2
    obtain ⟨rest, hrest⟩ := hfin
    rw [hd2, ← hC2] at hrest
    have hl2 : C2.length = c * 3 := by rw [hC2]; simp only [List.length_append, List.length_take, List.length_drop, flat_len, hl1]; simp; omega
    obtain ⟨W1, hW1⟩ : ∃ W1, W1 = w.drew.setRow b C1.toArray := ⟨_, rfl⟩
    rw [← hW1] at hcp1 hcp2 hh1
    obtain ⟨W2, hW2⟩ : ∃ W2, W2 = W1.setRow b C2.toArray := ⟨_, rfl⟩
    rw [← hW2] at hcp2
    have HO : Hid (OwnS W2 base b c (insL L i x)) := by
      refine own_app (cs := C2) ?_ hrest hb1 (by unfold maxLen; omega) hl2
      rw [hW2]; exact setRow_heap W1 b _ _ _ _ hh1
    have HG : Hid (w.grownBy W2 (some b)) := by
      show w.grownBy W2 _
      rw [hW2, hW1]
      exact grown_setRow (grown_setRow (grown_drew (World.grownBy.refl w _)) _) _
    have hov : ∀ lb cb, (callFunc 44 #[.slice (some ⟨vb, 0, none⟩) 1 1, .slice (some ⟨b, (i + 1) * 3, none⟩) lb cb]).run Try.prog w = .ok (.value (.bool false)) w := fun lb cb => by
      rw [run_callFunc_extern Try.func44 (by kernel_rfl) (by kernel_rfl) (by kernel_rfl) (e := Extern.SlicesOverlaps.overlaps #[24, 24] #[4]) (by kernel_rfl),
        Lib.run_overlaps_apart w 24 4 38 Try.underlying24 3 entSizeOf ⟨vb, 0, none⟩ ⟨b, (i + 1) * 3, none⟩ 1 1 lb cb hvb 38 38 3 (c * 3) (by simp [World.shape?, hV]) (by simp [World.shape?, hb3, hb6]) (by omega) (frozen_of_cells hV 0) (frozen_of_cells hV 3)]
      rfl
    have r2 : ¬ c = i + 1 := by omega
    have r7 : ¬ c = i := by omega
    have r8 : (n : Int) + 1 ≤ (c : Int) := by omega
    have r9 : (i : Int) ≤ (n : Int) + 1 := by omega
    have HC1 := Lib.hid hcp1
    have HC2 := Lib.hid hcp2
    have HOV := Lib.hid hov
    have HHL := Lib.hid hl
    clear hov hcp1 hcp2 hC1 hC2 hrest hl1 hl2 hh1 hW1 hW2 hsrc hvsrc hb3 hb6 hb7 hV h hd2 hdl hn hl
    have hmix : Try.prog.follows .mixedOrders = true := by kernel_rfl
    have hov := HOV.out
    go_enter Try.func27, Try.ntmps27
    go_wp2_with fail
    have hcp1 := HC1.out
    simp only [show n + 1 - (i + 1) = n - i by omega] at hcp1
    go_region
    all_goals
      clear hcp1
      have hcp2 := HC2.out
      go_wp2
      go_ret
      exact ⟨b, c, by rw [hilen.out]; rfl, HO.out, HG.out⟩
  · -- a new row
    have hcn : c = n := by omega
    have hz := appL_zeros b n c i L w (fun j u hu => by
      show w.cell? _ = _
      rw [add_plain, Nat.zero_add, cell_of_cells hb3]
      rw [flat_take] at hu
      rcases Nat.lt_or_ge j (i * 3) with hj | hj
      · rw [List.getElem?_take_of_lt hj] at hu; exact hb7 j u hu
      · rw [List.getElem?_eq_none (by rw [List.length_take]; omega)] at hu; cases hu) hn.symm hlt hn12 hfull
    have hge' := grownCap_ge w (n + 1) c 38
    have hle' := grownCap_le_maxLen w (n + 1) c 38 (by unfold maxLen; omega)
    unfold maxLen at hle'
    generalize grownCap w (n + 1) c 38 = K at *
    obtain ⟨C0, hC0⟩ : ∃ C0, C0 = (flat (L.take i)).toArray ++ Builtin.zeroCells (Value.agg #[.int .i64 0, .int .i64 0, .int .i64 0]).cells (n + 1 - i) ++ Builtin.zeroCells (Value.agg #[.int .i64 0, .int .i64 0, .int .i64 0]).cells (K - (n + 1)) := ⟨_, rfl⟩
    rw [← hC0] at hz
    have hft : (flat (L.take i)).length = i * 3 := by rw [flat_len, List.length_take, Nat.min_eq_left (by omega)]
    have hl0 : C0.size = K * 3 := by rw [hC0]; simp only [Array.size_append, zeroL_size, List.size_toArray, hft]; omega
    have ht0 : C0.toList.take (i * 3) = flat (L.take i) := by
      rw [hC0]; simp only [Array.toList_append, List.append_assoc]
      rw [List.take_left' hft]
    obtain ⟨W1, hW1⟩ : ∃ W1, W1 = w.drew.alloc (.cells C0 38) := ⟨_, rfl⟩
    have hh1 : W1.heap[w.heap.size]? = some (.cells C0 38 (0, 0)) := by rw [hW1]; exact heap_alloc_new w.drew _
    have hB1 : Below w.heap.size w W1 := by rw [hW1]; exact (Below.refl _ _).drew.alloc (Nat.le_refl _) _
    have hvlt := heap_lt hV
    have hcp1 : ∀ ty, (Builtin.copy_ #[24, 24] ty #[.slice (some ⟨w.heap.size, i * 3, none⟩) (n + 1 - i) (K - i), .slice (some ⟨vb, 0, none⟩) 1 1]).run Try.prog W1 = .ok (goInt 1) (W1.setRow w.heap.size (C0.toList.take (i * 3) ++ flat [x] ++ C0.toList.drop (i * 3 + 1 * 3)).toArray) := fun ty => run_copyL W1 ty w.heap.size (i * 3) (n + 1 - i) (K - i) ⟨vb, 0, none⟩ 1 1 C0 [x] hh1 (by simp only [List.length_singleton, Nat.min_def]; split <;> omega) (fun j u hu => (hB1.cell (p := (⟨vb, 0, none⟩ : Addr).add j) (by rw [add_plain]; exact hvlt)).trans (hvsrc j u hu)) (by simp only [List.length_singleton, hl0]; omega)
    obtain ⟨C1, hC1⟩ : ∃ C1, C1 = C0.toList.take (i * 3) ++ flat [x] ++ C0.toList.drop (i * 3 + 1 * 3) := ⟨_, rfl⟩
    rw [← hC1] at hcp1
    have hl1 : C1.length = K * 3 := by rw [hC1]; simp only [List.length_append, List.length_take, List.length_drop, flat_len, Array.length_toList, hl0]; simp; omega
    obtain ⟨W2, hW2⟩ : ∃ W2, W2 = W1.setRow w.heap.size C1.toArray := ⟨_, rfl⟩
    have hh2 : W2.heap[w.heap.size]? = some (.cells C1.toArray 38 (0, 0)) := by rw [hW2]; exact setRow_heap W1 _ _ _ _ _ hh1
    have hcell2 : ∀ p, W2.drew.cell? ⟨b, p, none⟩ = w.cell? ⟨b, p, none⟩ := fun p => by
      show W2.cell? _ = _
      rw [hW2]
      exact (cell_setRow_other W1 _ _ _ (by show b ≠ w.heap.size; omega)).trans (hB1.cell (p := ⟨b, p, none⟩) hb2)
    have hcp2 : ∀ ty, (Builtin.copy_ #[24, 24] ty #[.slice (some ⟨w.heap.size, (i + 1) * 3, none⟩) (n + 1 - (i + 1)) (K - (i + 1)), .slice (some ⟨b, i * 3, none⟩) (n - i) (c - i)]).run Try.prog W2.drew = .ok (goInt (n - i : Nat)) (W2.drew.setRow w.heap.size (C1.take ((i + 1) * 3) ++ flat (L.drop i) ++ C1.drop ((i + 1) * 3 + (n - i) * 3)).toArray) := fun ty => by
      have := run_copyL W2.drew ty w.heap.size ((i + 1) * 3) (n + 1 - (i + 1)) (K - (i + 1)) ⟨b, i * 3, none⟩ (n - i) (c - i) C1.toArray (L.drop i) hh2 (by rw [hdl]; simp only [Nat.min_def]; split <;> omega) (fun j u hu => by rw [add_plain, hcell2]; have := hsrc i (by omega) j u hu; rwa [add_plain] at this) (by rw [hdl]; simp only [List.size_toArray, hl1]; omega)
      rw [hdl] at this
      exact this
    obtain ⟨C2, hC2⟩ : ∃ C2, C2 = C1.take ((i + 1) * 3) ++ flat (L.drop i) ++ C1.drop ((i + 1) * 3 + (n - i) * 3) := ⟨_, rfl⟩
    rw [← hC2] at hcp2
    obtain ⟨rest, hrest⟩ := ins_cells2 (L := L) (i := i) (x := x) (cur := C0.toList) (by omega) ht0 (by have : C0.toList.length = C0.size := Array.length_toList; omega)
    have hd2 : ([x] : List Ls).length = 1 := rfl
    rw [hd2, ← hC1, hdl, ← hC2] at hrest
    have hl2 : C2.length = K * 3 := by rw [hC2]; simp only [List.length_append, List.length_take, List.length_drop, flat_len, hl1, hn]; omega
    obtain ⟨W3, hW3⟩ : ∃ W3, W3 = W2.drew.setRow w.heap.size C2.toArray := ⟨_, rfl⟩
    rw [← hW3] at hcp2
    rw [← hW2] at hcp1
    rw [← hW1] at hz
    have HO : Hid (OwnS W3 base w.heap.size K (insL L i x)) := by
      refine own_app (cs := C2) ?_ hrest hbase (by unfold maxLen; omega) hl2
      rw [hW3]; exact setRow_heap W2.drew _ _ _ _ _ hh2
    have HG : Hid (w.grownBy W3 (some b)) := by
      show w.grownBy W3 _
      have h1 : Below w.heap.size w W3 := by rw [hW3, hW2]; exact below_setRow ((below_setRow hB1 (Nat.le_refl _) _).drew) (Nat.le_refl _) _
      exact ⟨h1.os, h1.tape, h1.output, h1.size, fun k hk _ => h1.block k hk⟩
    have r2 : ¬ K = i + 1 := by omega
    have r7 : ¬ K = i := by omega
    have r8 : ¬ c = i := by omega
    have r9 : (i : Int) ≤ (n : Int) + 1 := by omega
    have r10 : (i : Int) ≤ (c : Int) := by omega
    have r11 : (c : Int) < (n : Int) + 1 := by omega
    have HC1 := Lib.hid hcp1
    have HC2 := Lib.hid hcp2
    have HZ := Lib.hid hz
    simp only [show n + 1 - (i + 1) = n - i by omega] at hcp2
    have HC2' := Lib.hid hcp2
    clear hz hcp1 hcp2 hC0 hC1 hC2 hrest hl0 hl1 hl2 hh1 hh2 hW1 hW2 hW3 hcell2 hsrc hvsrc hb3 hb6 hb7 hV h hd2 hdl hn hl ht0 hft hB1
    have hmix : Try.prog.follows .mixedOrders = true := by kernel_rfl
    subst hcn
    go_enter Try.func27, Try.ntmps27
    go_wp2_with (at_builtin; refine Lib.wpList_append_run (o := ⟨some 40, _, _, _, _, _⟩) w (by rfl) (.tmp 34) (.tmp 39) 24 3 (by rfl) (.slice (some ⟨b, 0, none⟩) i c) (.int .i64 ((c : Int) + 1 - i)) (by rfl) (by rfl) _ _ (HZ.out _) ?_; have hcp1 := HC1.out)
    have hcp2 := HC2'.out
    go_region
    all_goals
      clear hcp1 hcp2
      go_wp2
      go_ret
      exact ⟨w.heap.size, K, by rw [hilen.out]; rfl, HO.out, HG.out⟩

theorem OwnS.take {w : World} {base g c : Nat} {L : List Ls} (h : OwnS w base g c L) (k : Nat) : OwnS w base g c (L.take k) := by
  obtain ⟨h1, h2, cs, h3, h4, h5, h6, h7⟩ := h.blk
  refine own_mk h3 h1 (by rw [List.length_take]; omega) h5 h6 fun j u hu => h7 j u ?_
  rw [flat_take] at hu
  rcases Nat.lt_or_ge j (k * 3) with h' | h'
  · rwa [List.getElem?_take_of_lt h'] at hu
  · rw [List.getElem?_eq_none (by simp; omega)] at hu; cases hu
/-- an append with room -/
theorem run_fitL (W : World) (base g c : Nat) (L M : List Ls) (h : OwnS W base g c L) (ad : Addr) (c2 : Nat) (hs : ∀ (j : Nat) (u : Value), (flat M)[j]? = some u → W.cell? (ad.add j) = some u) (hr : L.length + M.length ≤ c) :
    ∃ W', (∀ ty, (Builtin.append_ #[24, 24] ty #[.slice (some ⟨g, 0, none⟩) L.length c, .slice (some ad) M.length c2]).run Try.prog W = .ok (.slice (some ⟨g, 0, none⟩) (L.length + M.length) c) W') ∧ OwnS W' base g c (L ++ M) ∧ W.grownBy W' (some g) := by
  obtain ⟨i0, hi0, hz0, hz1, hz2⟩ := info_parts Try.infoEntry
  obtain ⟨W', h1, h2, h3⟩ := run_append_fits (P := Try.prog) W base 24 24 38 i0 3 Try.underlying24 hi0 hz1 g L.length c (flat L) h ad M.length c2 (flat M) (flat_len M) hs (flat_one M) hr
  refine ⟨W', fun ty => ?_, by unfold OwnS; rw [List.length_append, flat_app]; exact h2, h3⟩
  exact h1
theorem step_appRun {t u : TypeId} {ops : Array Oper} {o : Oper} {a : Act} {K : Act → World → Prop} {Q : Exit → Act → World → Prop} {E : Prop} (W W' : World) (v : Value) (hgd : o.guard = none) (s x : Operand)
    (ho : o.op = .call { callee := .builtin .append, args := #[s, x], argTypes := #[t, u] })
    (sv xv : Value) (hs : a.eval s = sv) (hx : a.eval x = xv) (hr : ∀ ty, (Builtin.append_ #[t, u] ty #[sv, xv]).run Try.prog W = .ok v W')
    (h : K (a.put o.dst v) W') :
    if Region.wanted o (yielded ops a.tmps) = true then Oper.wp Try.prog o a W K Q else E := by
  have hw : Region.wanted o (yielded ops a.tmps) = true := by simp [Region.wanted, hgd]
  rw [if_pos hw]
  unfold Oper.wp execOp
  simp only [ho, resolve, invoke, builtin, Sem.run_bind, Sem.run_pure, Result.andThen_ok, List.map_toArray, List.map_cons, List.map_nil, hs, hx, hr]
  exact h

theorem zeroEntry (w : World) : (zeroValue 38).run Try.prog w = .ok (.agg #[.int .i64 0, .int .i64 0, .int .i64 0]) w := by
  obtain ⟨i0, hi0, hz0, hz1, hz2⟩ := info_parts Try.infoEntry
  simp [zeroValue, typeInfo, hi0, hz0]
/-- the cells behind a row are cleared -/
theorem clear_own (W : World) (t : TypeId) (ht : Try.prog.underlying t = some (.slice 38)) (base g c k n c2 : Nat) (M : List Ls) (h : OwnS W base g c M) (hk : M.length ≤ k) (hn : k + n ≤ c) :
    ∃ W', (∀ ty, (Builtin.clear_ #[t] ty #[.slice (some ⟨g, k * 3, none⟩) n c2]).run Try.prog W = .ok (.tuple #[]) W') ∧ OwnS W' base g c M ∧ W.grownBy W' (some g) := by
  obtain ⟨h1, h2, cs, h3, h4, h5, h6, h7⟩ := h.blk
  rcases Nat.eq_zero_or_pos n with h0 | h0
  · subst h0
    refine ⟨W, fun ty => ?_, h, ⟨rfl, rfl, rfl, Nat.le_refl _, fun _ _ _ => rfl⟩⟩
    simp [Builtin.clear_, run_underlying ht]
  · have hl : (Builtin.zeroCells (Value.agg #[.int .i64 0, .int .i64 0, .int .i64 0]).cells n).toList.length = n * 3 := by rw [Array.length_toList, zeroL_size]
    have h1c : ∀ v ∈ (Builtin.zeroCells (Value.agg #[.int .i64 0, .int .i64 0, .int .i64 0]).cells n).toList, v.oneCell' = true := by
      intro v hv
      obtain ⟨i, hi, rfl⟩ := List.getElem_of_mem hv
      have hm : i % 3 = 0 ∨ i % 3 = 1 ∨ i % 3 = 2 := by omega
      rcases hm with hm | hm | hm <;> simp [Builtin.zeroCells, Value.cells, hm] <;> rfl
    have hst := run_storeCells_at Try.prog g (k * 3) 38 (Builtin.zeroCells (Value.agg #[.int .i64 0, .int .i64 0, .int .i64 0]).cells n).toList 0 cs W h3 (by rw [hl, h6]; omega) h1c
    obtain ⟨Z, hZ⟩ : ∃ Z, Z = (Builtin.zeroCells (Value.agg #[.int .i64 0, .int .i64 0, .int .i64 0]).cells n).toList := ⟨_, rfl⟩
    rw [← hZ] at hl h1c hst
    refine ⟨W.setRow g (cs.toList.take (k * 3) ++ Z ++ cs.toList.drop (k * 3 + Z.length)).toArray, fun ty => ?_, ?_, ⟨rfl, rfl, rfl, by simp, fun q _ hq => setRow_other W g q _ (fun e => hq (by simp [e]))⟩⟩
    rotate_left
    · refine own_mk (setRow_heap W g cs _ _ _ h3) h1 h4 h5 ?_ fun j u hu => ?_
      · simp only [List.size_toArray, List.length_append, List.length_take, List.length_drop, hl, Array.length_toList, h6]; omega
      · have hj : j < M.length * 3 := by
          rcases Nat.lt_or_ge j (M.length * 3) with h' | h'
          · exact h'
          · rw [List.getElem?_eq_none (by rw [flat_len]; exact h')] at hu; cases hu
        have := h7 j u hu
        rw [List.getElem?_toArray, List.append_assoc, List.getElem?_append_left (by rw [List.length_take, Array.length_toList, h6]; omega), List.getElem?_take_of_lt (by omega), Array.getElem?_toList]
        exact this
    · obtain ⟨m, rfl⟩ : ∃ m, n = m + 1 := ⟨n - 1, by omega⟩
      simp only [Nat.add_zero] at hst
      simp [Builtin.clear_, run_underlying ht, ← hZ, hst]

set_option maxRecDepth 20000 in
set_option maxHeartbeats 2000000 in
theorem delE_any (base g c i r : Nat) (L : List Ls) (w : World) (h : OwnS w base g c L) (hn : L.length = r + 1) (hi : i ≤ r) (hl : r ≤ 12) :
    Calls Try.prog 31 #[.slice (some ⟨g, 0, none⟩) (r + 1) c, .int .i64 i, .int .i64 ((i : Int) + 1)] w fun e w' => e = .returned (.slice (some ⟨g, 0, none⟩) r c) ∧ OwnS w' base g c (L.take i ++ L.drop (i + 1)) ∧ w.grownBy w' (some g) := by
  obtain ⟨hb1, hb2, cs, hb3, hb4, hb5, hb6, hb7⟩ := h.blk
  unfold maxLen at hb5
  have hlt : (L.take i).length = i := by rw [List.length_take]; omega
  have hld : (L.drop (i + 1)).length = r - i := by rw [List.length_drop]; omega
  have hO1 : OwnS w.drew base g c (L.take i) := (h.take i).kept rfl
  have hsrc : ∀ (j : Nat) (u : Value), (flat (L.drop (i + 1)))[j]? = some u → w.drew.cell? ((⟨g, (i + 1) * 3, none⟩ : Addr).add j) = some u := fun j u hu => by
    show w.cell? _ = _
    rw [add_plain, cell_of_cells hb3]
    rw [flat_drop, List.getElem?_drop] at hu
    exact hb7 _ _ hu
  have key : ∀ ad : Addr, (∀ (j : Nat) (u : Value), (flat (L.drop (i + 1)))[j]? = some u → w.drew.cell? (ad.add j) = some u) → ∃ W1 W2, Hid (∀ ty, (Builtin.append_ #[24, 24] ty #[.slice (some ⟨g, 0, none⟩) i c, .slice (some ad) (r - i) (c - (i + 1))]).run Try.prog w.drew = .ok (.slice (some ⟨g, 0, none⟩) r c) W1) ∧
      Hid (∀ ty, (Builtin.clear_ #[24] ty #[.slice (some ⟨g, r * 3, none⟩) 1 (c - r)]).run Try.prog W1 = .ok (.tuple #[]) W2) ∧ Hid (OwnS W2 base g c (L.take i ++ L.drop (i + 1))) ∧ Hid (w.grownBy W2 (some g)) := fun ad had => by
    obtain ⟨W1, hr1, ho1, hg1⟩ := run_fitL w.drew base g c (L.take i) (L.drop (i + 1)) hO1 ad (c - (i + 1)) had (by omega)
    rw [hlt, hld, show i + (r - i) = r by omega] at hr1
    obtain ⟨W2, hr2, ho2, hg2⟩ := clear_own W1 24 Try.underlying24 base g c r 1 (c - r) _ ho1 (by rw [List.length_append, hlt, hld]; omega) (by omega)
    exact ⟨W1, W2, hr1, hr2, ho2, ⟨hg2.os.trans hg1.os, hg2.tape.trans hg1.tape, hg2.output.trans hg1.output, Nat.le_trans hg1.size hg2.size, fun k hk hne => (hg2.block k (Nat.lt_of_lt_of_le hk hg1.size) hne).trans (hg1.block k hk hne)⟩⟩
  have t1 : ((i : Int) == (i : Int) + 1) = false := by rw [beq_eq_false_iff_ne]; omega
  have i0 : (0 : Int) ≤ (i : Int) := by omega
  have i1 : (i : Int) + 1 ≤ (r : Int) + 1 := by omega
  have i2 : (r : Int) + 1 ≤ (c : Int) := by omega
  have i3 : (i : Int) ≤ (c : Int) := by omega
  have i4 : (0 : Int) ≤ (i : Int) + 1 := by omega
  have i5 : (i : Int) ≤ (r : Int) + 1 := by omega
  have e1 : ((i : Int) + 1).toNat = i + 1 := by omega
  have e2 : r + 1 - (i + 1) = r - i := by omega
  have j0 : (r : Int) ≤ (r : Int) + 1 := by omega
  by_cases hc : c = i + 1
  · obtain rfl : i = r := by omega
    have hemp : L.drop (i + 1) = [] := List.drop_eq_nil_of_le (by omega)
    obtain ⟨W1, W2, HR1, HR2, HO, HG⟩ := key ⟨g, 0, none⟩ (by rw [hemp]; exact srcL_none _ _)
    subst hc
    have e3 : i + 1 - (i + 1) = 0 := by omega
    have HR1' : Hid (∀ ty, (Builtin.append_ #[24, 24] ty #[.slice (some ⟨g, 0, none⟩) i (i + 1), .slice (some ⟨g, 0, none⟩) 0 0]).run Try.prog w.drew = .ok (.slice (some ⟨g, 0, none⟩) i (i + 1)) W1) := by
      have := HR1.out
      rwa [Nat.sub_self, e3] at this
    have HR2' : Hid (∀ ty, (Builtin.clear_ #[24] ty #[.slice (some ⟨g, i * 3, none⟩) 1 1]).run Try.prog W1 = .ok (.tuple #[]) W2) := by
      have := HR2.out
      rwa [show i + 1 - i = 1 by omega] at this
    clear h hb3 hb6 hb7 hsrc hlt hld hO1 hn key hemp
    go_enter Try.func31, Try.ntmps31
    go_wp2_with fail
    go_region_law (refine step_appRun (o := ⟨some 26, _, _, _, _, _⟩) _ W1 (.slice (some ⟨g, 0, none⟩) i (i + 1)) (by rfl) (.tmp 22) (.tmp 25) (by rfl) (.slice (some ⟨g, 0, none⟩) i (i + 1)) (.slice (some ⟨g, 0, none⟩) 0 0) (by rfl) (by rfl) HR1'.out ?_)
    all_goals
      have hr2 := HR2'.out
      go_wp2
      go_ret
      exact ⟨rfl, HO.out, HG.out⟩
  · obtain ⟨W1, W2, HR1, HR2, HO, HG⟩ := key _ hsrc
    clear h hb3 hb6 hb7 hsrc hlt hld hO1 hn key
    go_enter Try.func31, Try.ntmps31
    go_wp2_with fail
    go_region_law (refine step_appRun (o := ⟨some 26, _, _, _, _, _⟩) _ W1 (.slice (some ⟨g, 0, none⟩) r c) (by rfl) (.tmp 22) (.tmp 25) (by rfl) (.slice (some ⟨g, 0, none⟩) i c) (.slice (some ⟨g, (i + 1) * 3, none⟩) (r - i) (c - (i + 1))) (by rfl) (by rfl) HR1.out ?_)
    all_goals
      have hr2 := HR2.out
      go_wp2
      go_ret
      exact ⟨rfl, HO.out, HG.out⟩
end Go.Proofs.Ytdlapnelehehgab
