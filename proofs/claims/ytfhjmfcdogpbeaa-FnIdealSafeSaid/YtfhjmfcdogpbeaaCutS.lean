/- A node fails (the model). -/
import Derived.Test.YtfhjmfcdogpbeaaStepS4
import Derived.Deep.RegionLaw
namespace Go.Proofs.Ytfhjmfcdogpbeaa
open Go.RowKit
set_option linter.unusedVariables false

/-- a ring in memory as a list of nodes with their slices -/
theorem ring_list {w : World} {a : Option Addr} {r : List Nd} (h : RingAt w a r) (hr : 0 < r.length) : ∃ b off, ∃ L : List (Nd × Value), a = some ⟨b, off, none⟩ ∧ b < w.heap.size ∧ L.map (·.1) = r ∧ (∀ j u, (flatL L)[j]? = some u → w.cell? ⟨b, off + j, none⟩ = some u) ∧ ∀ p ∈ L, IntsV w p.2 p.1.aft := by
  obtain ⟨b, off, rfl, hb0, hnodes⟩ := h.at_ hr
  have hch : ∃ V : Nat → Value, ∀ i, i < r.length → w.cell? ⟨b, off + i * 3 + 2, none⟩ = some (V i) ∧ IntsV w (V i) (gn r i).aft := by
    have : Inhabited Value := ⟨.int .i64 0⟩
    classical
    refine ⟨fun i => if hi : i < r.length then Classical.choose (hnodes i hi).2.2 else .int .i64 0, fun i hi => ?_⟩
    simp only [dif_pos hi]
    exact Classical.choose_spec (hnodes i hi).2.2
  obtain ⟨V, hV⟩ := hch
  let L : List (Nd × Value) := (List.range r.length).map fun i => (gn r i, V i)
  have hL : ∀ i, i < r.length → L[i]? = some (gn r i, V i) := fun i hi => by simp [L, hi]
  have hLl : L.length = r.length := by simp [L]
  refine ⟨b, off, L, rfl, hb0, ?_, fun j u hu => ?_, fun p hp => ?_⟩
  · refine List.ext_getElem (by simp [L]) fun i h1 h2 => ?_
    simp [L, gn_get h2]
  · have hj : j < L.length * 3 := by
      have := (List.getElem?_eq_some_iff.1 hu).1
      rw [flatL_len] at this; exact this
    have hi : j / 3 < r.length := by rw [← hLl]; omega
    obtain ⟨f0, f1, f2⟩ := flatL_at (hL _ hi)
    have hm : j = j / 3 * 3 ∨ j = j / 3 * 3 + 1 ∨ j = j / 3 * 3 + 2 := by omega
    obtain ⟨c0, c1, _⟩ := hnodes _ hi
    rcases hm with e | e | e
    · rw [e] at hu ⊢; rw [f0] at hu; rw [← hu]; exact c0
    · rw [e] at hu ⊢; rw [f1] at hu; rw [← hu]; exact c1
    · rw [e] at hu ⊢; rw [f2] at hu; rw [← hu]; exact (hV _ hi).1
  · obtain ⟨i, hi, rfl⟩ := List.mem_map.1 hp
    exact (hV i (List.mem_range.1 hi)).2
theorem flat_take {L : List (Nd × Value)} {k j : Nat} {u : Value} (h : (flatL (L.take k))[j]? = some u) : (flatL L)[j]? = some u := by
  have e : flatL L = flatL (L.take k) ++ flatL (L.drop k) := by rw [← flatL_app, List.take_append_drop]
  rw [e, List.getElem?_append_left (List.getElem?_eq_some_iff.1 h).1]; exact h
theorem flat_drop {L : List (Nd × Value)} {k j : Nat} {u : Value} (hk : k ≤ L.length) (h : (flatL (L.drop k))[j]? = some u) : (flatL L)[k * 3 + j]? = some u := by
  have e : flatL L = flatL (L.take k) ++ flatL (L.drop k) := by rw [← flatL_app, List.take_append_drop]
  have hl : (flatL (L.take k)).length = k * 3 := by rw [flatL_len, List.length_take, Nat.min_eq_left hk]
  rw [e, List.getElem?_append_right (by omega), hl, Nat.add_sub_cancel_left]; exact h

def cutR (r : List Nd) (k : Nat) : List Nd := r.take k ++ r.drop (k + 1)
theorem cut_len {r : List Nd} {k : Nat} (hk : k < r.length) : (cutR r k).length = r.length - 1 := by simp [cutR]; omega
theorem cut_at {r : List Nd} {k i : Nat} (hk : k < r.length) (hi : i < r.length - 1) : gn (cutR r k) i = if i < k then gn r i else gn r (i + 1) := by
  have hl := cut_len hk
  rw [gn_get (by omega)]
  unfold cutR
  by_cases h : i < k
  · rw [if_pos h, List.getElem_append_left (by simp; omega), gn_get (by omega)]; simp
  · rw [if_neg h, List.getElem_append_right (by simp; omega), gn_get (by omega)]; simp
    congr 1; omega
theorem cut_rv {r : List Nd} {k : Nat} (h : rvB r = true) (hk : k < r.length) : rvB (cutR r k) = true := by
  have hl := cut_len hk
  refine (rv_iff _).2 ⟨by rw [hl]; have := rv_len h; omega, fun i hi => ?_⟩
  rw [hl] at hi
  refine ⟨?_, ?_⟩
  · rw [cut_at hk hi]; split
    · exact rv_nd h (by omega)
    · exact rv_nd h (by omega)
  · by_cases h0 : i = 0
    · exact .inl h0
    · refine .inr ?_
      rw [cut_at hk hi, cut_at hk (by omega)]
      by_cases h1 : i < k
      · rw [if_pos h1, if_pos (by omega)]; exact rv_lt h (by omega) (by omega)
      · rw [if_neg h1]; split
        · exact rv_lt h (by omega) (by omega)
        · exact rv_lt h (by omega) (by omega)
def failB (r : List Nd) (i : Int) : Bool := oneB r i && liveB r i && sfB (cutR r (idxR r i))
def failR (r : List Nd) (i : Int) : List Nd := if oneB r i then (if liveB r i && sfB (cutR r (idxR r i)) then cutR r (idxR r i) else r) else []
theorem IntsV.keepB {w w' : World} {B : Nat} {v : Value} {zs : List Int} (h : IntsV w v zs) (hb : Below B w w') (hB : w.heap.size ≤ B) : IntsV w' v zs := by
  obtain ⟨a, c, hv, h1, h2, h3⟩ := h; exact ⟨a, c, hv, h1, h2, h3.keepB hb hB⟩
theorem ssf_as (v : Bool) (a : Option Addr) (len cap : Nat) (r : List Nd) (w : World) (h : RingAt w a r) (hz : r.length = len) (hv : rvB r = true) (hs : sfB r = v) :
    Calls Try.prog 53 #[.slice a len cap] w fun e w' => e = .returned (.bool v) ∧ Below w.heap.size w w' := by subst hs; exact ssf_any a len cap r w h hz hv

set_option maxHeartbeats 4000000 in
theorem sfail_any (a : Option Addr) (len cap : Nat) (i : Int) (r : List Nd) (w : World) (h : RingAt w a r) (hz : r.length = len) (hcap : len ≤ cap) (hcm : cap ≤ maxLen) :
    Calls Try.prog 90 #[.slice a len cap, .int .i64 i] w (NewRB (failR r i) (failB r i) w) := by
  have hm : len ≤ maxLen := Nat.le_trans hcap hcm
  have HI := Lib.hid h
  have HZ := Lib.hid hz
  have HM := Lib.hid hm
  unfold maxLen at hcm
  clear h hz hm
  rcases bool_cases (safeB r) with hs | hs
  · have HS := Lib.hid hs
    have HO1 : Hid (oneB r i = false) := by show oneB r i = false; simp [oneB, hs]
    clear hs
    go_enter Try.func90, Try.ntmps90
    go_wp2_with fail
    refine (ssafe_as _ a len cap r w HI.out HZ.out HM.out HS.out).mono ?_
    rintro e w1 ⟨rfl, hb1⟩
    go_wp2
    go_ret2
    have e1 : failR r i = [] := by simp [failR, HO1.out]
    have e2 : failB r i = false := by simp [failB, HO1.out]
    rw [e1, e2]
    exact (newRB_nil w1 _).mono hb1
  rcases bool_cases (ptB i) with hp | hp
  · have HS := Lib.hid hs
    have HP := Lib.hid hp
    have HO1 : Hid (oneB r i = false) := by show oneB r i = false; simp [oneB, hp]
    clear hs hp
    go_enter Try.func90, Try.ntmps90
    go_wp2_with fail
    refine (ssafe_as _ a len cap r w HI.out HZ.out HM.out HS.out).mono ?_
    rintro e w1 ⟨rfl, hb1⟩
    go_wp2_with fail
    refine (point_as _ i _ HP.out).mono ?_
    rintro e w2 ⟨rfl, rfl⟩
    go_wp2
    go_ret2
    have e1 : failR r i = [] := by simp [failR, HO1.out]
    have e2 : failB r i = false := by simp [failB, HO1.out]
    rw [e1, e2]
    exact (newRB_nil w1 _).mono hb1
  have HO1 : Hid (oneB r i = true) := by show oneB r i = true; simp [oneB, hp, hs]
  have HS := Lib.hid hs
  have HP := Lib.hid hp
  have HV := Lib.hid (safe_rv hs)
  clear hs hp
  rcases bool_cases (liveB r i) with hli | hli
  · have HL := Lib.hid hli
    have HFD := Lib.hid (fnd_dead hli)
    clear hli
    go_enter Try.func90, Try.ntmps90
    go_wp2_with fail
    refine (ssafe_as _ a len cap r w HI.out HZ.out HM.out HS.out).mono ?_
    rintro e w1 ⟨rfl, hb1⟩
    go_wp2_with fail
    refine (point_as _ i _ HP.out).mono ?_
    rintro e w2 ⟨rfl, rfl⟩
    go_wp2_with fail
    refine (sfind_any _ len cap r i _ (HI.out.keepB hb1 (Nat.le_refl _)) HZ.out HM.out).mono ?_
    rintro e w2 ⟨rfl, rfl⟩
    rw [HFD.out]
    go_wp2_with fail
    refine (copy_any _ len cap r _ (HI.out.keepB hb1 (Nat.le_refl _)) HZ.out HV.out).mono ?_
    rintro e w2 ⟨N, c2, F, rfl, ho, h1, h2, hB⟩
    have HO := Lib.hid ho
    have HC := Lib.hid (And.intro h1 h2)
    clear ho h1 h2
    go_wp2
    go_ret2
    have e1 : failR r i = r := by simp [failR, HO1.out, HL.out]
    have e2 : failB r i = false := by simp [failB, HL.out]
    rw [e1, e2]
    exact NewOwn.toRB hb1 HO.out HC.out.1 HC.out.2 hB _ (by simp)
  obtain ⟨hil, _, hfd⟩ := idx_live hli
  have HL := Lib.hid hli
  have HFD := Lib.hid hfd
  have h10 := rv_len HV.out
  have hrl : 0 < r.length := by omega
  rw [HZ.out] at hil h10
  have d0 : decide ((idxR r i : Int) < 0) = false := by simp
  clear hli hfd
  have HF1 : Hid (failR r i = if sfB (cutR r (idxR r i)) then cutR r (idxR r i) else r) := by show failR r i = _; simp [failR, HO1.out, HL.out]
  have HF2 : Hid (failB r i = sfB (cutR r (idxR r i))) := by show failB r i = _; simp [failB, HO1.out, HL.out]
  generalize idxR r i = k at *
  go_enter Try.func90, Try.ntmps90
  go_wp2_with fail
  refine (ssafe_as _ a len cap r w HI.out HZ.out HM.out HS.out).mono ?_
  rintro e w1 ⟨rfl, hb1⟩
  go_wp2_with fail
  refine (point_as _ i _ HP.out).mono ?_
  rintro e w2 ⟨rfl, rfl⟩
  go_wp2_with fail
  refine (sfind_any _ len cap r i _ (HI.out.keepB hb1 (Nat.le_refl _)) HZ.out HM.out).mono ?_
  rintro e w2 ⟨rfl, rfl⟩
  rw [HFD.out]
  have hring1 := HI.out.keepB hb1 (Nat.le_refl _)
  obtain ⟨b, off, L, rfl, hb0, hLm, hLc, hLi⟩ := ring_list hring1 hrl
  have hLl : L.length = len := by have := congrArg List.length hLm; simp at this; rw [this]; exact HZ.out
  have HLM := Lib.hid hLm
  have HLC := Lib.hid hLc
  have HLI := Lib.hid hLi
  have HLL := Lib.hid hLl
  clear hring1 hLm hLc hLi hLl
  have g0 : (0 : Int) ≤ (k : Int) := by omega
  have g1 : (k : Int) ≤ (len : Int) := by omega
  have g2 : (k : Int) ≤ (cap : Int) := by omega
  have g3 : (k : Int) + 1 ≤ (len : Int) := by omega
  have g4 : (k : Int) + 1 ≤ (cap : Int) := by omega
  have g5 : (0 : Int) ≤ (k : Int) + 1 := by omega
  have w0 : IntKind.i64.wrap ((k : Int) + 1) = k + 1 := by rw [IntKind.wrap_i64]; omega
  have HBA : Hid (∀ o, Below w1.heap.size w1 (w1.alloc o).drew) := fun o => ((Below.refl _ _).alloc (Nat.le_refl _) _).drew
  by_cases hck : cap = k + 1
  · have hlk : len = k + 1 := by omega
    subst hck
    clear g1 g3
    have g9 : (k : Int) ≤ (k : Int) + 1 := by omega
    go_wp2_with fail
    go_region_law ((first
      | (refine step_appN (o := ⟨some 28, _, _, _, _, _⟩) _ (by rfl) (.tmp 24) (.tmp 27) (by rfl) w1.heap.size w1.heap.size 0 0 [] (L.take k) (by rfl) (rowL_new w1 _ rfl) rfl ⟨b, off, none⟩ k (k + 1) (by rfl) (by rw [List.length_take, HLL.out]; omega) (fun j u hu => by rw [add_plain]; exact ((HBA.out _).cell (p := ⟨b, off + j, none⟩) hb0).trans (HLC.out j u (flat_take hu))) (fun p hp => ((HLI.out p (List.mem_of_mem_take hp)).offNew (Nat.le_refl _)).keepB (HBA.out _) (Nat.le_refl _)) k (by omega) (by omega) (by simp) ?_
         intro g3 cap3 w3 hown3 hg3 hat3
         have hB3 : Below w1.heap.size w1 w3 := (HBA.out _).grown hg3 (by simp) (fun q hq => by injection hq with hq; omega)
         have hg31 := hown3.blk.1)
      | (refine step_appN (o := ⟨some 33, _, _, _, _, _⟩) _ (by rfl) (.tmp 28) (.tmp 32) (by rfl) w1.heap.size g3 k cap3 ([] ++ L.take k) [] (by rfl) hown3 (by rw [List.nil_append, List.length_take, HLL.out]; omega) ⟨b, off, none⟩ 0 0 (by rfl) rfl (fun j u hu => by simp [flatL] at hu) (fun p hp => by cases hp) k (by omega) (by omega) hB3.size ?_
         intro g5 cap5 w5 hown5 hg5 hat5
         have hB5 : Below w1.heap.size w1 w5 := hB3.grown hg5 hB3.size (fun q hq => by injection hq with hq; omega))))
    obtain ⟨M2, hM2⟩ : ∃ M, M = L.drop (k + 1) := ⟨_, rfl⟩
    have hnil : ([] : List (Nd × Value)) = M2 := by rw [hM2, List.drop_eq_nil_of_le (by rw [HLL.out]; omega)]
    have hnil2 : (([] ++ L.take k) ++ [] : List (Nd × Value)) = ([] ++ L.take k) ++ M2 := by rw [← hnil]
    rw [hnil2] at hown5
    clear hnil hnil2
    have hB13 : Below w1.heap.size w1 w5 := hB5
    have hring5 : RingAt w5 (some ⟨g5, 0, none⟩) (cutR r k) := by
      have h5 := hown5.ring
      have em : (([] ++ L.take k) ++ M2 : List (Nd × Value)).map (fun p => p.1) = cutR r k := by rw [hM2, List.nil_append, List.map_append, List.map_take, List.map_drop, HLM.out]; rfl
      rw [em] at h5
      exact h5
    have HR5 := Lib.hid hring5
    have hb5 : Below w.heap.size w w5 := hb1.trans (hB5.mono hb1.size)
    have HCL : Hid ((cutR r k).length = k) := by show _ = _; rw [cut_len (by rw [HZ.out]; exact hil), HZ.out]; omega
    have HCV := Lib.hid (cut_rv HV.out (k := k) (by rw [HZ.out]; exact hil))
    have HM5 := Lib.hid hM2
    clear hring5 hown5 hg5 hat5 hown3 hg3 hat3 hM2
    rcases bool_cases (sfB (cutR r k)) with hsf | hsf
    · have HSF := Lib.hid hsf
      clear hsf
      go_wp2_with fail
      refine (ssf_as _ _ _ _ (cutR r k) w5 HR5.out HCL.out HCV.out HSF.out).mono ?_
      rintro e w6 ⟨rfl, hb6⟩
      have hB6 : Below w.heap.size w w6 := hb5.trans (hb6.mono hb5.size)
      go_wp2_with fail
      refine (copy_any _ _ _ r _ (HI.out.keepB hB6 (Nat.le_refl _)) (by first | exact HZ.out.trans hlk | exact HZ.out) HV.out).mono ?_
      rintro e w7 ⟨N, c2, F, rfl, ho, h1, h2, hB⟩
      have HO := Lib.hid ho
      have HC := Lib.hid (And.intro h1 h2)
      clear ho h1 h2
      go_wp2
      go_ret2
      rw [HF1.out, HF2.out, HSF.out, if_neg (by simp)]
      exact NewOwn.toRB hB6 HO.out HC.out.1 HC.out.2 hB _ (by simp)
    · have HSF := Lib.hid hsf
      clear hsf
      go_wp2_with fail
      refine (ssf_as _ _ _ _ (cutR r k) w5 HR5.out HCL.out HCV.out HSF.out).mono ?_
      rintro e w6 ⟨rfl, hb6⟩
      have hB6 : Below w.heap.size w w6 := hb5.trans (hb6.mono hb5.size)
      go_wp2_with fail
      refine (copy_any _ _ _ (cutR r k) _ (HR5.out.keepB hb6 (Nat.le_refl _)) HCL.out HCV.out).mono ?_
      rintro e w7 ⟨N, c2, F, rfl, ho, h1, h2, hB⟩
      have HO := Lib.hid ho
      have HC := Lib.hid (And.intro h1 h2)
      clear ho h1 h2
      rw [HCL.out]
      go_wp2
      go_ret2
      rw [HF1.out, HF2.out, HSF.out, if_pos rfl]
      exact NewOwn.toRB hB6 HO.out HC.out.1 HC.out.2 hB _ (by rw [HCL.out])
  · have g6 : ¬ cap = k + 1 := hck
    have g7 : k + 1 ≤ len := by omega
    have g8 : k + 1 ≤ cap := by omega
    go_wp2_with fail
    go_region_law ((first
      | (refine step_appN (o := ⟨some 28, _, _, _, _, _⟩) _ (by rfl) (.tmp 24) (.tmp 27) (by rfl) w1.heap.size w1.heap.size 0 0 [] (L.take k) (by rfl) (rowL_new w1 _ rfl) rfl ⟨b, off, none⟩ k cap (by rfl) (by rw [List.length_take, HLL.out]; omega) (fun j u hu => by rw [add_plain]; exact ((HBA.out _).cell (p := ⟨b, off + j, none⟩) hb0).trans (HLC.out j u (flat_take hu))) (fun p hp => ((HLI.out p (List.mem_of_mem_take hp)).offNew (Nat.le_refl _)).keepB (HBA.out _) (Nat.le_refl _)) k (by omega) (by omega) (by simp) ?_
         intro g3 cap3 w3 hown3 hg3 hat3
         have hB3 : Below w1.heap.size w1 w3 := (HBA.out _).grown hg3 (by simp) (fun q hq => by injection hq with hq; omega)
         have hg31 := hown3.blk.1)
      | (refine step_appN (o := ⟨some 33, _, _, _, _, _⟩) _ (by rfl) (.tmp 28) (.tmp 32) (by rfl) w1.heap.size g3 k cap3 ([] ++ L.take k) (L.drop (k + 1)) (by rfl) hown3 (by rw [List.nil_append, List.length_take, HLL.out]; omega) ⟨b, off + (k + 1) * 3, none⟩ (len - (k + 1)) (cap - (k + 1)) (by rfl) (by rw [List.length_drop, HLL.out]) (fun j u hu => by rw [add_plain, Nat.add_assoc]; exact (hB3.cell (p := ⟨b, off + ((k + 1) * 3 + j), none⟩) hb0).trans (HLC.out _ u (flat_drop (by rw [HLL.out]; omega) hu))) (fun p hp => ((HLI.out p (List.mem_of_mem_drop hp)).offNew hg31).keepB hB3 (Nat.le_refl _)) (len - 1) (by omega) (by omega) hB3.size ?_
         intro g5 cap5 w5 hown5 hg5 hat5
         have hB5 : Below w1.heap.size w1 w5 := hB3.grown hg5 hB3.size (fun q hq => by injection hq with hq; omega))))
    obtain ⟨M2, hM2⟩ : ∃ M, M = L.drop (k + 1) := ⟨_, rfl⟩
    rw [← hM2] at hown5
    have hB13 : Below w1.heap.size w1 w5 := hB5
    have hring5 : RingAt w5 (some ⟨g5, 0, none⟩) (cutR r k) := by
      have h5 := hown5.ring
      have em : (([] ++ L.take k) ++ M2 : List (Nd × Value)).map (fun p => p.1) = cutR r k := by rw [hM2, List.nil_append, List.map_append, List.map_take, List.map_drop, HLM.out]; rfl
      rw [em] at h5
      exact h5
    have HR5 := Lib.hid hring5
    have hb5 : Below w.heap.size w w5 := hb1.trans (hB5.mono hb1.size)
    have HCL : Hid ((cutR r k).length = len - 1) := by show _ = _; rw [cut_len (by rw [HZ.out]; exact hil), HZ.out]
    have HCV := Lib.hid (cut_rv HV.out (k := k) (by rw [HZ.out]; exact hil))
    have HM5 := Lib.hid hM2
    clear hring5 hown5 hg5 hat5 hown3 hg3 hat3 hM2
    rcases bool_cases (sfB (cutR r k)) with hsf | hsf
    · have HSF := Lib.hid hsf
      clear hsf
      go_wp2_with fail
      refine (ssf_as _ _ _ _ (cutR r k) w5 HR5.out HCL.out HCV.out HSF.out).mono ?_
      rintro e w6 ⟨rfl, hb6⟩
      have hB6 : Below w.heap.size w w6 := hb5.trans (hb6.mono hb5.size)
      go_wp2_with fail
      refine (copy_any _ len cap r _ (HI.out.keepB hB6 (Nat.le_refl _)) HZ.out HV.out).mono ?_
      rintro e w7 ⟨N, c2, F, rfl, ho, h1, h2, hB⟩
      have HO := Lib.hid ho
      have HC := Lib.hid (And.intro h1 h2)
      clear ho h1 h2
      go_wp2
      go_ret2
      rw [HF1.out, HF2.out, HSF.out, if_neg (by simp)]
      exact NewOwn.toRB hB6 HO.out HC.out.1 HC.out.2 hB _ (by simp)
    · have HSF := Lib.hid hsf
      clear hsf
      go_wp2_with fail
      refine (ssf_as _ _ _ _ (cutR r k) w5 HR5.out HCL.out HCV.out HSF.out).mono ?_
      rintro e w6 ⟨rfl, hb6⟩
      have hB6 : Below w.heap.size w w6 := hb5.trans (hb6.mono hb5.size)
      go_wp2_with fail
      refine (copy_any _ _ _ (cutR r k) _ (HR5.out.keepB hb6 (Nat.le_refl _)) HCL.out HCV.out).mono ?_
      rintro e w7 ⟨N, c2, F, rfl, ho, h1, h2, hB⟩
      have HO := Lib.hid ho
      have HC := Lib.hid (And.intro h1 h2)
      clear ho h1 h2
      rw [HCL.out]
      go_wp2
      go_ret2
      rw [HF1.out, HF2.out, HSF.out, if_pos rfl]
      exact NewOwn.toRB hB6 HO.out HC.out.1 HC.out.2 hB _ (by rw [HCL.out])
end Go.Proofs.Ytfhjmfcdogpbeaa
