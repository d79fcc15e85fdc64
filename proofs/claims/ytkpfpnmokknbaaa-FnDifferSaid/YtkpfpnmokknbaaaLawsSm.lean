/- The walks of the laws of trees of sums: setting leaves. -/
import Derived.Test.YtkpfpnmokknbaaaSmDraw2
import Derived.IntWalk
namespace Go.Proofs.Ytkpfpnmokknbaaa
open Go.RowKit
set_option linter.unusedVariables false

/-- a call gave the numbers L, m of them -/
def Gave (L : List Int) (m : Nat) (w : World) (e : Ending) (w' : World) : Prop :=
  ∃ g gc, e = .returned (.slice (some ⟨g, 0, none⟩) m gc) ∧ IntsAt w' (some ⟨g, 0, none⟩) L ∧ m ≤ gc ∧ Below w.heap.size w w'
theorem gave_of {L M : List Int} {m : Nat} {w w' : World} {e : Ending} (h : NewInts M w e w') (hL : M = L) (hl : L.length = m) : Gave L m w e w' := by
  subst hL hl
  obtain ⟨g, gc, he, ho, hb⟩ := h
  exact ⟨g, gc, he, ho.ints, ho.cap_le.1, hb⟩
theorem sumsof_as (a : Option Addr) (len cap : Nat) (zs : List Int) (w : World) (L : List Int) (m : Nat) (h : IntsAt w a zs) (hz : zs.length = len) (hm : len ≤ maxLen) (hL : sumsL zs = L) (hl : L.length = m) :
    Calls Try.prog 16 #[.slice a len cap] w (Gave L m w) :=
  (sumsof_any a len cap zs w h hz hm).mono fun e w' k => gave_of k hL hl
theorem ssumsof_as (a : Option Addr) (len cap : Nat) (zs : List Int) (w : World) (L : List Int) (m : Nat) (h : IntsAt w a zs) (hz : zs.length = len) (hm : len ≤ maxLen) (hL : sumsL zs = L) (hl : L.length = m) :
    Calls Try.prog 17 #[.slice a len cap] w (Gave L m w) :=
  (ssumsof_any a len cap zs w h hz hm).mono fun e w' k => gave_of k hL hl
theorem sumsset_as (a : Option Addr) (len cap : Nat) (zs : List Int) (leaf v : Int) (w : World) (L : List Int) (m : Nat) (h : IntsAt w a zs) (hz : zs.length = len) (hm : len ≤ maxLen) (hc : len ≤ cap) (hL : sumsSetL zs leaf v = L) (hl : L.length = m) :
    Calls Try.prog 19 #[.slice a len cap, .int .i64 leaf, .int .i64 v] w (Gave L m w) :=
  (sumsset_any a len cap zs leaf v w h hz hm hc).mono fun e w' k => gave_of k hL hl
theorem ssumsset_as (a : Option Addr) (len cap : Nat) (zs : List Int) (leaf v : Int) (w : World) (L : List Int) (m : Nat) (h : IntsAt w a zs) (hz : zs.length = len) (hm : len ≤ maxLen) (hc : len ≤ cap) (hL : sumsSetL zs leaf v = L) (hl : L.length = m) :
    Calls Try.prog 21 #[.slice a len cap, .int .i64 leaf, .int .i64 v] w (Gave L m w) :=
  (ssumsset_any a len cap zs leaf v w h hz hm hc).mono fun e w' k => gave_of k hL hl

theorem setL_facts {zs : List Int} {leaf v : Int} (h : (sumsSetL zs leaf v).length = 31) : treeB zs = true ∧ sB v = true ∧ ∃ k : Nat, k < 16 ∧ leaf = k ∧ sumsSetL zs leaf v = bld ((zs.drop 15).set k v) := by
  unfold sumsSetL at h ⊢
  by_cases hc : (treeB zs && leafB leaf && sB v) = true
  · rw [if_pos hc]
    simp only [Bool.and_eq_true] at hc
    have hl : 0 ≤ leaf ∧ leaf < 16 := by have := hc.1.2; simpa [leafB] using this
    refine ⟨hc.1.1, hc.2, leaf.toNat, by omega, by omega, rfl⟩
  · rw [if_neg hc] at h; simp at h
theorem sumsSetL_yes {zs : List Int} {k : Nat} {v : Int} (h : treeB zs = true) (hk : k < 16) (hv : sB v = true) : sumsSetL zs k v = bld ((zs.drop 15).set k v) := by
  have hl : leafB k = true := by simp [leafB]; omega
  simp [sumsSetL, setL, h, hl, hv]
theorem sumsL_yes {zs : List Int} (h : leavesB zs = true) : sumsL zs = bld zs := by unfold sumsL; rw [if_pos h]
theorem sumsL_facts {zs : List Int} (h : (sumsL zs).length = 31) : leavesB zs = true ∧ sumsL zs = bld zs := by
  unfold sumsL at h ⊢
  by_cases hc : leavesB zs = true
  · rw [if_pos hc]; exact ⟨hc, rfl⟩
  · rw [if_neg hc] at h; simp at h
theorem ints_from15 {w : World} {g : Nat} {zs : List Int} (h : IntsAt w (some ⟨g, 0, none⟩) zs) : IntsAt w (some ⟨g, 15, none⟩) (zs.drop 15) := by
  have := h.drop 15
  rwa [Nat.zero_add] at this

set_option maxHeartbeats 2000000 in
theorem sumsSetLaw (s : Option Addr) (len cap : Nat) (z : List Int) (w : World) (h : RowIn .u8 w s len cap z) :
    Calls Try.prog 4 #[.slice s len cap] w fun e w' => e = .returned (.bool true) ∧ Below w.heap.size w w' := by
  have hb := bytes_of_row h
  have hm : len ≤ maxLen := Nat.le_trans hb.1 hb.2.1
  unfold maxLen at hm
  clear h
  by_cases hl : 1048576 < len
  · go_enter Try.func4, Try.ntmps4
    go_wp2
    go_ret
    exact ⟨rfl, Below.refl _ _⟩
  have hlB : decide ((1048576 : Int) < (len : Int)) = false := by simp; omega
  go_enter Try.func4, Try.ntmps4
  go_wp2_with fail
  refine (drawSumsSet s len cap w hb).mono ?_
  rintro e w1 ⟨g, c, zs, leaf, v, rfl, hi1, hl1, hlc1, hB1⟩
  have HI1 := Lib.hid hi1.ints
  have HM : Hid (zs.length ≤ maxLen) := by show _ ≤ _; unfold maxLen; omega
  have HC := Lib.hid hlc1
  obtain ⟨L, hL⟩ : ∃ L, sumsSetL zs leaf v = L := ⟨_, rfl⟩
  have hor := sumsSetL_or zs leaf v
  rw [hL] at hor
  have HL := Lib.hid hL
  clear hi1 hL hb
  go_wp2_with fail
  refine (sumsset_as _ _ _ zs leaf v w1 L L.length HI1.out rfl HM.out HC.out HL.out rfl).mono ?_
  rintro e w2 ⟨g2, c2, rfl, ho2, hc2, hb2⟩
  have hB2 : Below w.heap.size w w2 := hB1.trans (hb2.mono hB1.size)
  have HI2 := Lib.hid (HI1.out.keepB hb2 (Nat.le_refl _))
  have HO2 := Lib.hid ho2
  clear ho2 hb2
  go_wp2_with fail
  refine (ssumsset_as _ _ _ zs leaf v w2 L L.length HI2.out rfl HM.out HC.out HL.out rfl).mono ?_
  rintro e w3 ⟨g3, c3, rfl, ho3, hc3, hb3⟩
  have hB3 : Below w.heap.size w w3 := hB2.trans (hb3.mono hB2.size)
  have HI3 := Lib.hid (HI2.out.keepB hb3 (Nat.le_refl _))
  have HO3 := Lib.hid (HO2.out.keepB hb3 (Nat.le_refl _))
  have HP3 := Lib.hid ho3
  have hLm : L.length ≤ 1048576 := by rcases hor with e | e <;> rw [e] <;> simp
  clear ho3 hb3 hB1 hB2
  go_wp2_with fail
  refine (sameI_any _ _ _ _ _ L w3 HO3.out HP3.out rfl hLm).mono ?_
  rintro e w4 ⟨rfl, hs4⟩
  have hB4 : Below w.heap.size w w4 := hB3.trans (hs4.below _)
  have HO4 := Lib.hid (HO3.out.same hs4)
  have HP4 := Lib.hid (HP3.out.same hs4)
  have HI4 := Lib.hid (HI3.out.same hs4)
  clear hs4 hB3
  rcases hor with h0 | h31
  · subst h0
    go_wp2_with fail
    refine (sameI_any _ _ _ _ _ [] w4 HO4.out HP4.out rfl (by simp)).mono ?_
    rintro e w5 ⟨rfl, hs5⟩
    go_wp2
    go_ret
    exact ⟨rfl, hB4.trans (hs5.below _)⟩
  · obtain ⟨ht, hsv, k, hk, rfl, hset⟩ := setL_facts (by rw [HL.out]; exact h31)
    have HSET : Hid (L = bld ((zs.drop 15).set k v)) := by show _ = _; rw [← HL.out, hset]
    have H31 := Lib.hid h31
    have hzl := (treeB_yes ht).1
    have HZL := Lib.hid hzl
    have hlv := (treeB_yes ht).2.1
    have HLV : Hid (leavesB ((zs.drop 15).set k v) = true) := leavesB_set hlv hsv
    have HL15 : Hid ((zs.drop 15).length = 16) := (leavesB_yes hlv).1
    have hc15 : ¬ c = 15 := by omega
    have hc15' : (15 : Int) ≤ (c : Int) := by omega
    have hk16 : (k : Int) < 16 := by omega
    have hsrc : ∀ j u, (vals (zs.drop 15))[j]? = some u → (w4.alloc (.cells #[] 3)).cell? ((⟨g, 15, none⟩ : Addr).add j) = some u := by
      intro j u hu
      have hj : j < (zs.drop 15).length := by have := (List.getElem?_eq_some_iff.1 hu).1; rwa [vals_len] at this
      rcases (ints_from15 HI4.out).keepB ((Below.refl _ _).alloc (Nat.le_refl _) (.cells #[] 3) : Below w4.heap.size w4 _) (Nat.le_refl _) with h0 | ⟨b', o', ha, hb', hc⟩
      · rw [h0] at hj; simp at hj
      · injection ha with ha; injection ha with ha ho; subst ha ho
        rw [vals_get hj] at hu
        rw [add_plain, hc j hj, hu]
    have HSRC := Lib.hid hsrc
    rw [h31, hzl]
    clear hsrc h31 hset ht hsv hlv hzl
    go_wp2_with (at_builtin; refine wl_app _ (by rfl) _ _ (by rfl) w4.heap.size w4.heap.size 0 0 [] (by rfl) (own_empty (heap_alloc_new w4 _) (Nat.le_refl _)) ⟨g, 15, none⟩ 16 (c - 15) (vals (zs.drop 15)) (by rfl) (by rw [vals_len, HL15.out]) HSRC.out (vals_one _) 16 (vals (zs.drop 15)) (by omega) (by simp) (by omega) (by simp) ?_; intro g5 c5 w5 hown hgr hat; obtain ⟨ho5, hb5⟩ := app_new (w0 := w4) HL15.out (Below.refl _ _) hown hgr; obtain ⟨hcl, hfz⟩ := own_open ho5 (i := k) (by rw [HL15.out]; exact hk); have hg5 := ho5.lt; have HO5 := Lib.hid ho5; have HB5 := Lib.hid hb5; clear hown hgr hat ho5 hb5)
    have HLS : Hid (((zs.drop 15).set k v).length = 16) := by show _ = _; rw [List.length_set, HL15.out]
    have HB6 : Hid (Below w4.heap.size w4 (w5.setCell ⟨g5, k, none⟩ (.int .i64 v))) := HB5.out.setCell (by show _ ≤ g5; omega) _
    refine (sumsof_as (some ⟨g5, 0, none⟩) 16 c5 ((zs.drop 15).set k v) _ L 31 ((HO5.out.set (by rw [HL15.out]; exact hk) v).ints) HLS.out (by unfold maxLen; omega) (by rw [HSET.out, sumsL_yes HLV.out]) H31.out).mono ?_
    rintro e w6 ⟨g6, c6, rfl, ho6, hc6, hb6⟩
    have HB46 : Hid (Below w4.heap.size w4 w6) := HB6.out.trans (hb6.mono HB6.out.size)
    have HO6 := Lib.hid ho6
    clear ho6 hb6
    go_wp2_with fail
    refine (sameI_any _ _ 31 _ _ L w6 HO6.out (HO4.out.keepB HB46.out (Nat.le_refl _)) H31.out (by omega)).mono ?_
    rintro e w7 ⟨rfl, hs7⟩
    go_wp2
    go_ret
    exact ⟨rfl, (hB4.trans (HB46.out.mono hB4.size)).trans (hs7.below _)⟩

end Go.Proofs.Ytkpfpnmokknbaaa
