/- Trees of sums: the model's SumsSet. -/
import Derived.Test.YtkpfpnmokknbaaaSmS2
namespace Go.Proofs.Ytkpfpnmokknbaaa
open Go.RowKit
set_option linter.unusedVariables false

attribute [local go_sem ↓] Go.wp_at_zero Go.wp_at_succ

theorem in_as (v : Bool) (n l h : Int) (w : World) (hv : decide (l ≤ n ∧ n ≤ h) = v) :
    Calls Try.prog 41 #[.int .i64 n, .int .i64 l, .int .i64 h] w fun e w' => e = .returned (.bool v) ∧ w' = w :=
  (in_any n l h w).mono fun e w' ⟨he, hw⟩ => ⟨by rw [he, hv], hw.symm⟩
theorem stree_as (v : Bool) (a : Option Addr) (len cap : Nat) (zs : List Int) (w : World) (h : IntsAt w a zs) (hz : zs.length = len) (hm : len ≤ maxLen) (hcap : len ≤ cap) (hv : treeB zs = v) :
    Calls Try.prog 40 #[.slice a len cap] w fun e w' => e = .returned (.bool v) ∧ Below w.heap.size w w' :=
  hv ▸ stree_any a len cap zs w h hz hm hcap
theorem leafB_in (leaf : Int) : decide (0 ≤ leaf ∧ leaf ≤ 15) = leafB leaf := by
  rw [Bool.eq_iff_iff]; simp [leafB]; omega
theorem sB_in (v : Int) : decide (0 ≤ v ∧ v ≤ 990) = sB v := by
  rw [Bool.eq_iff_iff]; simp [sB]; omega

theorem own_open {w : World} {base g cap i : Nat} {zs : List Int} (h : OwnI w base (some ⟨g, 0, none⟩) cap zs) (hi : i < zs.length) :
    w.cell? ⟨g, i, none⟩ = some (.int .i64 (gt zs i)) ∧ w.frozen? ⟨g, i, none⟩ = false := by
  obtain ⟨g', ha, _, _, hc, hf⟩ := h.at_ (by omega)
  injection ha with ha; injection ha with ha; subst ha
  exact ⟨hc i hi, hf i⟩
/-- behind append([]int{}, part...) -/
theorem app_new {w w0 w5 : World} {g5 c5 : Nat} {L : List Int} (hl : L.length = 16) (hB1 : Below w0.heap.size w0 w) (hown : w5.ownsRow w.heap.size 3 1 (.slice (some ⟨g5, 0, none⟩) 16 c5) 16 (vals L)) (hgr : (w.alloc (.cells #[] 3)).grownBy w5 (some w.heap.size)) :
    OwnI w5 w.heap.size (some ⟨g5, 0, none⟩) c5 L ∧ Below w0.heap.size w0 w5 :=
  ⟨by unfold OwnI; rw [hl]; exact hown, hB1.trans ((((Below.refl _ _).alloc (Nat.le_refl _) _ : Below w.heap.size w (w.alloc _)).grown hgr (by simp) (fun k hk => by injection hk with hk; omega)).mono hB1.size)⟩

set_option maxHeartbeats 2000000 in
theorem ssumsset_any (a : Option Addr) (len cap : Nat) (zs : List Int) (leaf v : Int) (w : World) (h : IntsAt w a zs) (hz : zs.length = len) (hm : len ≤ maxLen) (hcap : len ≤ cap) :
    Calls Try.prog 21 #[.slice a len cap, .int .i64 leaf, .int .i64 v] w (NewInts (sumsSetL zs leaf v) w) := by
  have HI := Lib.hid h
  have HZ := Lib.hid hz
  have HM := Lib.hid hm
  have HC := Lib.hid hcap
  clear h hm
  rcases bcase (treeB zs) with hv | hv
  · have HV := Lib.hid hv
    rcases bcase (leafB leaf) with hl | hl
    · have HL : Hid (decide (0 ≤ leaf ∧ leaf ≤ 15) = true) := (leafB_in leaf).trans hl
      rcases bcase (sB v) with hs | hs
      · have HSV : Hid (decide (0 ≤ v ∧ v ≤ 990) = true) := (sB_in v).trans hs
        have HSB := Lib.hid hs
        obtain ⟨k, rfl⟩ := Int.eq_ofNat_of_zero_le (by simp [leafB] at hl; omega : 0 ≤ leaf)
        have hk : k < 16 := by simp [leafB] at hl; omega
        have He : Hid (sumsSetL zs k v = bld ((zs.drop 15).set k v)) := by
          show _ = _
          simp [sumsSetL, setL, hv, hl, hs]
        have hsrc : ∃ b off, a = some ⟨b, off, none⟩ := by
          rcases HI.out with h0 | ⟨b, off, ha, hb, hc⟩
          · have := (treeB_yes hv).1; rw [h0] at this; simp at this
          · exact ⟨b, off, ha⟩
        obtain ⟨b, off, rfl⟩ := hsrc
        obtain rfl : len = 31 := by rw [← hz]; exact (treeB_yes hv).1
        have hc15 : ¬ cap = 15 := by omega
        have hc15' : (15 : Int) ≤ (cap : Int) := by omega
        have HL15 : Hid ((zs.drop 15).length = 16) := by show _ = _; rw [List.length_drop, HZ.out]
        have HA15 : Hid ((zs.drop 15).all sB = true) := (leavesB_yes (treeB_yes hv).2.1).2
        have hk16 : (k : Int) < 16 := by omega
        clear hv hl hs hz hcap
        go_enter Try.func21, Try.ntmps21
        go_wp2_with fail
        refine (stree_as true (some ⟨b, off, none⟩) 31 cap zs w HI.out HZ.out HM.out HC.out HV.out).mono ?_
        rintro e w1 ⟨rfl, hb1⟩
        have HB1 := Lib.hid hb1
        clear hb1
        go_wp2_with fail
        refine (in_as true k 0 15 w1 HL.out).mono ?_
        rintro e w2 ⟨rfl, rfl⟩
        go_wp2_with fail
        refine (in_as true v 0 990 w2 HSV.out).mono ?_
        rintro e w3 ⟨rfl, rfl⟩
        have hsrc : ∀ j u, (vals (zs.drop 15))[j]? = some u → (w3.alloc (.cells #[] 3)).cell? ((⟨b, off + 15, none⟩ : Addr).add j) = some u := by
          intro j u hu
          have hj : j < (zs.drop 15).length := by have := (List.getElem?_eq_some_iff.1 hu).1; rwa [vals_len] at this
          have hI := (HI.out.keepB (HB1.out.alloc HB1.out.size (.cells #[] 3)) (Nat.le_refl _)).drop 15
          rcases hI with h0 | ⟨b', o', ha, hb', hc⟩
          · rw [h0] at hj; simp at hj
          · injection ha with ha; injection ha with ha ho; subst ha ho
            rw [vals_get hj] at hu
            rw [add_plain, hc j hj, hu]
        have HSRC := Lib.hid hsrc
        clear hsrc
        go_wp2_with (at_builtin; refine wl_app _ (by rfl) _ _ (by rfl) w3.heap.size w3.heap.size 0 0 [] (by rfl) (own_empty (heap_alloc_new w3 _) (Nat.le_refl _)) ⟨b, off + 15, none⟩ 16 (cap - 15) (vals (zs.drop 15)) (by rfl) (by rw [vals_len, HL15.out]) HSRC.out (vals_one _) 16 (vals (zs.drop 15)) (by omega) (by simp) (by omega) (by simp) ?_; intro g5 c5 w5 hown hgr hat; obtain ⟨ho5, hb5⟩ := app_new HL15.out HB1.out hown hgr; obtain ⟨hcl, hfz⟩ := own_open ho5 (i := k) (by rw [HL15.out]; exact hk); have hg5 := ho5.lt; have HO := Lib.hid ho5; have HB5 := Lib.hid hb5; clear hown hgr hat ho5 hb5)
        have HLS : Hid (((zs.drop 15).set k v).length = 16) := by show _ = _; rw [List.length_set, HL15.out]
        refine (sbuild_any (some ⟨g5, 0, none⟩) c5 ((zs.drop 15).set k v) _ ((HO.out.set (by rw [HL15.out]; exact hk) v).ints) HLS.out (all_set HA15.out HSB.out)).mono ?_
        rintro e w6 ⟨g, c, rfl, ho, hb6⟩
        have HF : Hid (NewInts (bld ((zs.drop 15).set k v)) w (.returned (.slice (some ⟨g, 0, none⟩) (bld ((zs.drop 15).set k v)).length c)) w6) := new_mono ⟨g, c, rfl, ho, hb6⟩ (HB5.out.setCell (by have := HB1.out.size; show _ ≤ g5; omega) _)
        clear ho hb6
        go_wp2
        go_ret
        rw [He.out]
        exact HF.out
      · have HSV : Hid (decide (0 ≤ v ∧ v ≤ 990) = false) := (sB_in v).trans hs
        have He : Hid (sumsSetL zs leaf v = []) := by show _ = _; simp [sumsSetL, hs]
        clear hv hl hs hz hcap
        go_enter Try.func21, Try.ntmps21
        go_wp2_with fail
        refine (stree_as true a len cap zs w HI.out HZ.out HM.out HC.out HV.out).mono ?_
        rintro e w1 ⟨rfl, hb1⟩
        have HB1 := Lib.hid hb1
        clear hb1
        go_wp2_with fail
        refine (in_as true leaf 0 15 w1 HL.out).mono ?_
        rintro e w2 ⟨rfl, rfl⟩
        go_wp2_with fail
        refine (in_as false v 0 990 w2 HSV.out).mono ?_
        rintro e w3 ⟨rfl, rfl⟩
        go_wp2
        go_ret
        rw [He.out]
        exact new_mono (new_of_sofar (sofar_new w3 _ rfl)) HB1.out
    · have HL : Hid (decide (0 ≤ leaf ∧ leaf ≤ 15) = false) := (leafB_in leaf).trans hl
      have He : Hid (sumsSetL zs leaf v = []) := by show _ = _; simp [sumsSetL, hl]
      clear hv hl hz hcap
      go_enter Try.func21, Try.ntmps21
      go_wp2_with fail
      refine (stree_as true a len cap zs w HI.out HZ.out HM.out HC.out HV.out).mono ?_
      rintro e w1 ⟨rfl, hb1⟩
      have HB1 := Lib.hid hb1
      clear hb1
      go_wp2_with fail
      refine (in_as false leaf 0 15 w1 HL.out).mono ?_
      rintro e w2 ⟨rfl, rfl⟩
      go_wp2
      go_ret
      rw [He.out]
      exact new_mono (new_of_sofar (sofar_new w2 _ rfl)) HB1.out
  · have HV := Lib.hid hv
    have He : Hid (sumsSetL zs leaf v = []) := by show _ = _; simp [sumsSetL, hv]
    clear hv hz hcap
    go_enter Try.func21, Try.ntmps21
    go_wp2_with fail
    refine (stree_as false a len cap zs w HI.out HZ.out HM.out HC.out HV.out).mono ?_
    rintro e w1 ⟨rfl, hb1⟩
    have HB1 := Lib.hid hb1
    clear hb1
    go_wp2
    go_ret
    rw [He.out]
    exact new_mono (new_of_sofar (sofar_new w1 _ rfl)) HB1.out

end Go.Proofs.Ytkpfpnmokknbaaa
