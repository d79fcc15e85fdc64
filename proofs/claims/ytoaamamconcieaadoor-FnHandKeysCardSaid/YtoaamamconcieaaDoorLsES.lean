/- What the model does to leases: handing over, taking over. -/
import Derived.Test.YtoaamamconcieaaDoorLsE2
import Derived.Test.YtoaamamconcieaaDoorLsC
namespace Go.Proofs.YtoaamamconcieaaDoor
open Go.RowKit
set_option linter.unusedVariables false

theorem ownL_empty {W : World} {base N : Nat} (h : W.heap[N]? = some (.cells #[] 35 (0, 0))) (hb : base ≤ N) : OwnS W base N 0 [] :=
  own_mk h hb (Nat.le_refl _) (by unfold maxLen; omega) rfl (fun j u hu => by simp [flat] at hu)
theorem srcL_take {W : World} {b k : Nat} {L : List Ls} (h : ∀ (j : Nat) (u : Value), (flat L)[j]? = some u → W.cell? ((⟨b, 0, none⟩ : Addr).add j) = some u) : ∀ (j : Nat) (u : Value), (flat (L.take k))[j]? = some u → W.cell? ((⟨b, 0, none⟩ : Addr).add j) = some u := by
  intro j u hu
  rw [flat_take] at hu
  rcases Nat.lt_or_ge j (k * 3) with h' | h'
  · rw [List.getElem?_take_of_lt h'] at hu; exact h j u hu
  · rw [List.getElem?_eq_none (by simp; omega)] at hu; cases hu
theorem srcL_drop {W : World} {b k : Nat} {L : List Ls} (h : ∀ (j : Nat) (u : Value), (flat L)[j]? = some u → W.cell? ((⟨b, 0, none⟩ : Addr).add j) = some u) : ∀ (j : Nat) (u : Value), (flat (L.drop k))[j]? = some u → W.cell? ((⟨b, k * 3, none⟩ : Addr).add j) = some u := by
  intro j u hu
  rw [flat_drop, List.getElem?_drop] at hu
  have := h _ u hu
  rwa [add_plain, Nat.zero_add, ← add_plain b (k * 3) j] at this

set_option maxHeartbeats 1000000 in
theorem sset_any (a : Option Addr) (len cap : Nat) (L : List Ls) (k : Nat) (x : Ls) (w : World) (h : LsAt w a L) (hz : L.length = len) (hm : len ≤ 12) (hk : k < len) :
    Calls Tryd.prog 26 #[.slice a len cap, .int .i64 k, .agg #[.int .i64 x.e, .int .i64 x.o, .int .i64 x.u]] w (NewL (L.set k x) w) := by
  have HZ := Lib.hid hz
  obtain ⟨xe, xo, xu⟩ := x
  simp only at *
  obtain ⟨b, off, rfl, hb0, hcells⟩ := h.at_ (i := 0) (by omega)
  have HS : Hid (∀ o o' : Obj, ∀ (j : Nat) (u : Value), (flat L)[j]? = some u → ((w.alloc o).alloc o').cell? ((⟨b, off, none⟩ : Addr).add j) = some u) := fun o o' => src_ls fun i hi => by
    obtain ⟨q1, q2, q3⟩ := hcells i hi
    have hkk : ∀ p, ((w.alloc o).alloc o').cell? ⟨b, p, none⟩ = w.cell? ⟨b, p, none⟩ := fun p => ((alB w o).trans ((alB (w.alloc o) o').mono (by simp))).cell (p := ⟨b, p, none⟩) hb0
    exact ⟨(hkk _).trans q1, (hkk _).trans q2, (hkk _).trans q3⟩
  clear h hz hcells
  go_enter Tryd.func26, Tryd.ntmps26
  go_wp2_with (at_builtin; refine wl_appL _ (by rfl) _ _ (by rfl) w.heap.size (w.heap.size + 1) 0 0 [] L (by rfl) (ownL_empty (heap_second _ _ _) (by omega)) rfl ⟨b, off, none⟩ len cap (by rfl) HZ.out (HS.out _ _) len (by omega) (by omega) (by simp <;> omega) ?_; intro g c w3 hown hgr hat; rw [List.nil_append] at hown; have hB3 : Below w.heap.size w w3 := ((alB w _).trans ((alB (w.alloc _) _).mono (by simp <;> omega))).grown hgr (by simp <;> omega) (fun k hk => by injection hk with hk; omega); have hp := (hgr.block w.heap.size (by simp <;> omega) (by simp <;> omega)).trans (heap_first w _ _); have p0 : w3.cell? ⟨w.heap.size, 0, none⟩ = some (.int .i64 xe) := (by rw [cell_of_cells hp]; rfl); have p1 : w3.cell? ⟨w.heap.size, 1, none⟩ = some (.int .i64 xo) := (by rw [cell_of_cells hp]; rfl); have p2 : w3.cell? ⟨w.heap.size, 2, none⟩ = some (.int .i64 xu) := (by rw [cell_of_cells hp]; rfl); clear hp; obtain ⟨x0, x1, x2⟩ := hown.cells (i := k) (by rw [HZ.out]; exact hk); obtain ⟨hgb, _, cs, hbk, _⟩ := hown.blk; have f0 := frozen_of_cells hbk (k * 3); have f1 := frozen_of_cells hbk (k * 3 + 1); have f2 := frozen_of_cells hbk (k * 3 + 2); have HO := Lib.hid hown; clear hown hbk hgr hat)
  go_ret
  have h6 := HO.out.setAll (k := k) (by rw [HZ.out]; exact hk) ⟨xe, xo, xu⟩
  exact ⟨g, c, by rw [List.length_set, HZ.out]; rfl, h6, ((hB3.setCell hgb _).setCell hgb _).setCell hgb _⟩

set_option maxHeartbeats 4000000 in
theorem shand_any (b len cap : Nat) (L : List Ls) (fr at_ to ut : Int) (w : World) (h : LsAt w (some ⟨b, 0, none⟩) L) (hz : L.length = len) (hm : len ≤ maxLen) (hcap : len ≤ cap) :
    Calls Tryd.prog 9 #[.slice (some ⟨b, 0, none⟩) len cap, .int .i64 fr, .int .i64 at_, .int .i64 to, .int .i64 ut] w (AnsPost (handR L fr at_ to ut) w) := by
  have HI := Lib.hid h
  have HZ := Lib.hid hz
  have HM := Lib.hid hm
  clear h hz hm
  cases hv : lvB L
  · have HR := Lib.hid (hand_no (show handOk L fr at_ to ut = false by simp [handOk, hv]))
    go_enter Tryd.func9, Tryd.ntmps9
    go_wp2_with fail
    refine (slvs_any (some ⟨b, 0, none⟩) len cap L w HI.out HZ.out HM.out).mono ?_
    rintro e w2 ⟨rfl, hs⟩
    have hB2 : Below w.heap.size w w2 := hs.below _
    clear hs
    rw [hv]
    go_wp2
    go_ret2
    rw [HR.out]
    exact ⟨w2.heap.size, 0, rfl, (own_none w2 _ rfl).less hB2.size, hB2.trans ((alB w2 _).mono hB2.size)⟩
  cases h0 : ptB fr
  · have HR := Lib.hid (hand_no (show handOk L fr at_ to ut = false by simp [handOk, h0]))
    go_enter Tryd.func9, Tryd.ntmps9
    go_wp2_with fail
    refine (slvs_any (some ⟨b, 0, none⟩) len cap L w HI.out HZ.out HM.out).mono ?_
    rintro e w2 ⟨rfl, hs⟩
    have hB2 : Below w.heap.size w w2 := hs.below _
    clear hs
    rw [hv]
    go_wp2_with fail
    refine (point_any fr w2).mono ?_
    rintro e w' ⟨rfl, rfl⟩
    rw [h0]
    go_wp2
    go_ret2
    rw [HR.out]
    exact ⟨w2.heap.size, 0, rfl, (own_none w2 _ rfl).less hB2.size, hB2.trans ((alB w2 _).mono hB2.size)⟩
  cases h1 : ptB at_
  · have HR := Lib.hid (hand_no (show handOk L fr at_ to ut = false by simp [handOk, h1]))
    go_enter Tryd.func9, Tryd.ntmps9
    go_wp2_with fail
    refine (slvs_any (some ⟨b, 0, none⟩) len cap L w HI.out HZ.out HM.out).mono ?_
    rintro e w2 ⟨rfl, hs⟩
    have hB2 : Below w.heap.size w w2 := hs.below _
    clear hs
    rw [hv]
    go_wp2_with fail
    refine (point_any fr w2).mono ?_
    rintro e w' ⟨rfl, rfl⟩
    rw [h0]
    go_wp2_with fail
    refine (point_any at_ w2).mono ?_
    rintro e w' ⟨rfl, rfl⟩
    rw [h1]
    go_wp2
    go_ret2
    rw [HR.out]
    exact ⟨w2.heap.size, 0, rfl, (own_none w2 _ rfl).less hB2.size, hB2.trans ((alB w2 _).mono hB2.size)⟩
  cases h2 : ptB to
  · have HR := Lib.hid (hand_no (show handOk L fr at_ to ut = false by simp [handOk, h2]))
    go_enter Tryd.func9, Tryd.ntmps9
    go_wp2_with fail
    refine (slvs_any (some ⟨b, 0, none⟩) len cap L w HI.out HZ.out HM.out).mono ?_
    rintro e w2 ⟨rfl, hs⟩
    have hB2 : Below w.heap.size w w2 := hs.below _
    clear hs
    rw [hv]
    go_wp2_with fail
    refine (point_any fr w2).mono ?_
    rintro e w' ⟨rfl, rfl⟩
    rw [h0]
    go_wp2_with fail
    refine (point_any at_ w2).mono ?_
    rintro e w' ⟨rfl, rfl⟩
    rw [h1]
    go_wp2_with fail
    refine (point_any to w2).mono ?_
    rintro e w' ⟨rfl, rfl⟩
    rw [h2]
    go_wp2
    go_ret2
    rw [HR.out]
    exact ⟨w2.heap.size, 0, rfl, (own_none w2 _ rfl).less hB2.size, hB2.trans ((alB w2 _).mono hB2.size)⟩
  cases h3 : tmB ut
  · have HR := Lib.hid (hand_no (show handOk L fr at_ to ut = false by simp [handOk, h3]))
    go_enter Tryd.func9, Tryd.ntmps9
    go_wp2_with fail
    refine (slvs_any (some ⟨b, 0, none⟩) len cap L w HI.out HZ.out HM.out).mono ?_
    rintro e w2 ⟨rfl, hs⟩
    have hB2 : Below w.heap.size w w2 := hs.below _
    clear hs
    rw [hv]
    go_wp2_with fail
    refine (point_any fr w2).mono ?_
    rintro e w' ⟨rfl, rfl⟩
    rw [h0]
    go_wp2_with fail
    refine (point_any at_ w2).mono ?_
    rintro e w' ⟨rfl, rfl⟩
    rw [h1]
    go_wp2_with fail
    refine (point_any to w2).mono ?_
    rintro e w' ⟨rfl, rfl⟩
    rw [h2]
    go_wp2_with fail
    refine (stime_any ut w2).mono ?_
    rintro e w' ⟨rfl, rfl⟩
    rw [h3]
    go_wp2
    go_ret2
    rw [HR.out]
    exact ⟨w2.heap.size, 0, rfl, (own_none w2 _ rfl).less hB2.size, hB2.trans ((alB w2 _).mono hB2.size)⟩
  have hok : handOk L fr at_ to ut = true := by simp [handOk, hv, h0, h1, h2, h3]
  have HOK := Lib.hid hok
  have HV := Lib.hid hv
  have h12 : 1 ≤ len ∧ len ≤ 12 := by have := lv_len hv; rw [HZ.out] at this; exact this
  obtain ⟨hl1, hl2⟩ := h12
  have hal := at_lt (L := L) (by rw [HZ.out]; omega) at_
  rw [HZ.out] at hal
  have HB : Hid (∀ (w2 : World) (o : Obj), Below w2.heap.size w2 (w2.alloc o)) := fun w2 o => alB w2 o
  clear hok
  by_cases ho : ¬ (ofL L at_).o = fr
  · have HR := Lib.hid (hand_o HOK.out ho)
    have d1 : ((gl L (atL L at_)).o != fr) = true := by simp; exact ho
    clear ho
    go_enter Tryd.func9, Tryd.ntmps9
    go_wp2_with fail
    refine (slvs_any (some ⟨b, 0, none⟩) len cap L w HI.out HZ.out HM.out).mono ?_
    rintro e w2 ⟨rfl, hs⟩
    have hB2 : Below w.heap.size w w2 := hs.below _
    clear hs
    rw [hv]
    go_wp2_with fail
    refine (point_any fr w2).mono ?_
    rintro e w' ⟨rfl, rfl⟩
    rw [h0]
    go_wp2_with fail
    refine (point_any at_ w2).mono ?_
    rintro e w' ⟨rfl, rfl⟩
    rw [h1]
    go_wp2_with fail
    refine (point_any to w2).mono ?_
    rintro e w' ⟨rfl, rfl⟩
    rw [h2]
    go_wp2_with fail
    refine (stime_any ut w2).mono ?_
    rintro e w' ⟨rfl, rfl⟩
    rw [h3]
    go_wp2_with fail
    refine (sat_any _ len cap L at_ w2 (HI.out.keepB hB2 (Nat.le_refl _)) HZ.out HM.out).mono ?_
    rintro e w' ⟨rfl, rfl⟩
    have HI2 := Lib.hid (HI.out.keepB hB2 (Nat.le_refl _))
    obtain ⟨b', off', hae, hb0, hcells⟩ := HI2.out.at_ (i := 0) (by rw [HZ.out]; omega)
    injection hae with hae
    injection hae with hae hof
    subst hae hof
    simp only [Nat.zero_add] at hcells
    obtain ⟨hc0, hc1, hc2⟩ := hcells (atL L at_) (by rw [HZ.out]; exact hal)
    clear hc0 hc2
    have HS : Hid (∀ (W : World) (o : Obj), Below w2.heap.size w2 W → ∀ (j : Nat) (u : Value), (flat L)[j]? = some u → (W.alloc o).cell? ((⟨b, 0, none⟩ : Addr).add j) = some u) := fun W o hW => src_ls fun i hi => by
      obtain ⟨q1, q2, q3⟩ := hcells i hi
      rw [Nat.zero_add]
      have hkk : ∀ p, (W.alloc o).cell? ⟨b, p, none⟩ = w2.cell? ⟨b, p, none⟩ := fun p => (hW.trans ((alB W o).mono hW.size)).cell (p := ⟨b, p, none⟩) hb0
      exact ⟨(hkk _).trans q1, (hkk _).trans q2, (hkk _).trans q3⟩
    clear hcells
    go_wp2_with (at_builtin; go_loud (refine wl_appL _ (by rfl) _ _ (by rfl) w2.heap.size (w2.heap.size + 1) 0 0 [] L (by rfl) (ownL_empty (heap_second _ _ _) (by omega)) rfl ⟨b, 0, none⟩ len cap (by rfl) HZ.out (HS.out _ _ (HB.out _ _)) len (by omega) (by omega) (by simp <;> omega) ?_; intro g c w3 hown hgr hat; rw [List.nil_append] at hown; have hO3 := Lib.hid (hown.less hB2.size); have hB3 : Below w.heap.size w w3 := hB2.trans ((((HB.out w2 _).trans ((alB _ _).mono (by simp <;> omega))).grown hgr (by simp <;> omega) (fun k hk => by injection hk with hk; omega)).mono hB2.size); clear hown hgr hat))
    go_ret2
    rw [HR.out]
    exact ⟨g, c, by rw [HZ.out]; rfl, hO3.out, hB3⟩
  have ho' : (ofL L at_).o = fr := by simpa using ho
  have d1 : ((gl L (atL L at_)).o != fr) = false := by simp; exact ho'
  by_cases hne : (ofL L at_).e = at_
  · have HR := Lib.hid (hand_set HOK.out ho' hne)
    have d2 : ((gl L (atL L at_)).e == at_) = true := by simp; exact hne
    clear ho ho' hne
    go_enter Tryd.func9, Tryd.ntmps9
    go_wp2_with fail
    refine (slvs_any (some ⟨b, 0, none⟩) len cap L w HI.out HZ.out HM.out).mono ?_
    rintro e w2 ⟨rfl, hs⟩
    have hB2 : Below w.heap.size w w2 := hs.below _
    clear hs
    rw [hv]
    go_wp2_with fail
    refine (point_any fr w2).mono ?_
    rintro e w' ⟨rfl, rfl⟩
    rw [h0]
    go_wp2_with fail
    refine (point_any at_ w2).mono ?_
    rintro e w' ⟨rfl, rfl⟩
    rw [h1]
    go_wp2_with fail
    refine (point_any to w2).mono ?_
    rintro e w' ⟨rfl, rfl⟩
    rw [h2]
    go_wp2_with fail
    refine (stime_any ut w2).mono ?_
    rintro e w' ⟨rfl, rfl⟩
    rw [h3]
    go_wp2_with fail
    refine (sat_any _ len cap L at_ w2 (HI.out.keepB hB2 (Nat.le_refl _)) HZ.out HM.out).mono ?_
    rintro e w' ⟨rfl, rfl⟩
    have HI2 := Lib.hid (HI.out.keepB hB2 (Nat.le_refl _))
    obtain ⟨b', off', hae, hb0, hcells⟩ := HI2.out.at_ (i := 0) (by rw [HZ.out]; omega)
    injection hae with hae
    injection hae with hae hof
    subst hae hof
    simp only [Nat.zero_add] at hcells
    obtain ⟨hc0, hc1, hc2⟩ := hcells (atL L at_) (by rw [HZ.out]; exact hal)
    clear hc2 hcells
    go_wp2_with fail
    refine (sset_any _ len cap L (atL L at_) ⟨at_, to, ut⟩ _ (HI2.out.keepB (HB.out _ _) (Nat.le_refl _)) HZ.out hl2 hal).mono ?_
    rintro e w3 ⟨g, c, rfl, ho3, hb3⟩
    have hB3 : Below w.heap.size w w3 := hB2.trans (((HB.out w2 _).trans (hb3.mono (by simp <;> omega))).mono hB2.size)
    have hO3 := Lib.hid (ho3.less (base' := w.heap.size) (by have := hB2.size; simp <;> omega))
    clear ho3 hb3
    go_wp2
    go_ret2
    rw [HR.out]
    exact ⟨g, c, by simp only [List.length_set]; rfl, hO3.out, hB3⟩
  have d2 : ((gl L (atL L at_)).e == at_) = false := by simp; exact hne
  by_cases hful : 12 ≤ len
  · have HR := Lib.hid (hand_full HOK.out ho' hne (by rw [HZ.out]; exact hful))
    have d3 : decide ((12 : Int) ≤ (len : Int)) = true := by simp; omega
    clear ho ho' hne
    go_enter Tryd.func9, Tryd.ntmps9
    go_wp2_with fail
    refine (slvs_any (some ⟨b, 0, none⟩) len cap L w HI.out HZ.out HM.out).mono ?_
    rintro e w2 ⟨rfl, hs⟩
    have hB2 : Below w.heap.size w w2 := hs.below _
    clear hs
    rw [hv]
    go_wp2_with fail
    refine (point_any fr w2).mono ?_
    rintro e w' ⟨rfl, rfl⟩
    rw [h0]
    go_wp2_with fail
    refine (point_any at_ w2).mono ?_
    rintro e w' ⟨rfl, rfl⟩
    rw [h1]
    go_wp2_with fail
    refine (point_any to w2).mono ?_
    rintro e w' ⟨rfl, rfl⟩
    rw [h2]
    go_wp2_with fail
    refine (stime_any ut w2).mono ?_
    rintro e w' ⟨rfl, rfl⟩
    rw [h3]
    go_wp2_with fail
    refine (sat_any _ len cap L at_ w2 (HI.out.keepB hB2 (Nat.le_refl _)) HZ.out HM.out).mono ?_
    rintro e w' ⟨rfl, rfl⟩
    have HI2 := Lib.hid (HI.out.keepB hB2 (Nat.le_refl _))
    obtain ⟨b', off', hae, hb0, hcells⟩ := HI2.out.at_ (i := 0) (by rw [HZ.out]; omega)
    injection hae with hae
    injection hae with hae hof
    subst hae hof
    simp only [Nat.zero_add] at hcells
    obtain ⟨hc0, hc1, hc2⟩ := hcells (atL L at_) (by rw [HZ.out]; exact hal)
    clear hc2
    have HS : Hid (∀ (W : World) (o : Obj), Below w2.heap.size w2 W → ∀ (j : Nat) (u : Value), (flat L)[j]? = some u → (W.alloc o).cell? ((⟨b, 0, none⟩ : Addr).add j) = some u) := fun W o hW => src_ls fun i hi => by
      obtain ⟨q1, q2, q3⟩ := hcells i hi
      rw [Nat.zero_add]
      have hkk : ∀ p, (W.alloc o).cell? ⟨b, p, none⟩ = w2.cell? ⟨b, p, none⟩ := fun p => (hW.trans ((alB W o).mono hW.size)).cell (p := ⟨b, p, none⟩) hb0
      exact ⟨(hkk _).trans q1, (hkk _).trans q2, (hkk _).trans q3⟩
    clear hcells
    go_wp2_with (at_builtin; go_loud (refine wl_appL _ (by rfl) _ _ (by rfl) w2.heap.size (w2.heap.size + 1) 0 0 [] L (by rfl) (ownL_empty (heap_second _ _ _) (by omega)) rfl ⟨b, 0, none⟩ len cap (by rfl) HZ.out (HS.out _ _ (HB.out _ _)) len (by omega) (by omega) (by simp <;> omega) ?_; intro g c w3 hown hgr hat; rw [List.nil_append] at hown; have hO3 := Lib.hid (hown.less hB2.size); have hB3 : Below w.heap.size w w3 := hB2.trans ((((HB.out w2 _).trans ((alB _ _).mono (by simp <;> omega))).grown hgr (by simp <;> omega) (fun k hk => by injection hk with hk; omega)).mono hB2.size); clear hown hgr hat))
    go_ret2
    rw [HR.out]
    exact ⟨g, c, by rw [HZ.out]; rfl, hO3.out, hB3⟩
  have d3 : decide ((12 : Int) ≤ (len : Int)) = false := by simp; omega
  have HR := Lib.hid (hand_ins HOK.out ho' hne (by rw [HZ.out]; omega))
  clear ho ho' hne
  go_enter Tryd.func9, Tryd.ntmps9
  go_wp2_with fail
  refine (slvs_any (some ⟨b, 0, none⟩) len cap L w HI.out HZ.out HM.out).mono ?_
  rintro e w2 ⟨rfl, hs⟩
  have hB2 : Below w.heap.size w w2 := hs.below _
  clear hs
  rw [hv]
  go_wp2_with fail
  refine (point_any fr w2).mono ?_
  rintro e w' ⟨rfl, rfl⟩
  rw [h0]
  go_wp2_with fail
  refine (point_any at_ w2).mono ?_
  rintro e w' ⟨rfl, rfl⟩
  rw [h1]
  go_wp2_with fail
  refine (point_any to w2).mono ?_
  rintro e w' ⟨rfl, rfl⟩
  rw [h2]
  go_wp2_with fail
  refine (stime_any ut w2).mono ?_
  rintro e w' ⟨rfl, rfl⟩
  rw [h3]
  go_wp2_with fail
  refine (sat_any _ len cap L at_ w2 (HI.out.keepB hB2 (Nat.le_refl _)) HZ.out HM.out).mono ?_
  rintro e w' ⟨rfl, rfl⟩
  have HI2 := Lib.hid (HI.out.keepB hB2 (Nat.le_refl _))
  obtain ⟨b', off', hae, hb0, hcells⟩ := HI2.out.at_ (i := 0) (by rw [HZ.out]; omega)
  injection hae with hae
  injection hae with hae hof
  subst hae hof
  simp only [Nat.zero_add] at hcells
  obtain ⟨hc0, hc1, hc2⟩ := hcells (atL L at_) (by rw [HZ.out]; exact hal)
  clear hc2
  obtain ⟨W, hW⟩ : ∃ W, W = w2.alloc (.cells #[.int .i64 at_, .int .i64 to, .int .i64 ut] 35) := ⟨_, rfl⟩
  have hBW1 : Below w2.heap.size w2 W := by rw [hW]; exact alB _ _
  have hp : W.heap[w2.heap.size]? = some (.cells #[.int .i64 at_, .int .i64 to, .int .i64 ut] 35 (0, 0)) := by rw [hW]; exact heap_alloc_new _ _
  have hpl := heap_lt hp
  have p0 : W.cell? ⟨w2.heap.size, 0, none⟩ = some (.int .i64 at_) := by rw [cell_of_cells hp]; rfl
  have p1 : W.cell? ⟨w2.heap.size, 1, none⟩ = some (.int .i64 to) := by rw [cell_of_cells hp]; rfl
  have p2 : W.cell? ⟨w2.heap.size, 2, none⟩ = some (.int .i64 ut) := by rw [cell_of_cells hp]; rfl
  have HW := Lib.hid hW
  clear hp hW
  have hBW := Below.refl W.heap.size W
  have hBW0 : Below w.heap.size w W := hB2.trans (hBW1.mono hB2.size)
  have hWs : w.heap.size ≤ W.heap.size := hBW0.size
  have hfl : fdL L at_ ≤ len := by rw [← HZ.out]; exact fd_le _ _
  have hbW : b < W.heap.size := by have := hBW1.size; omega
  have hcW : ∀ j, j < len → W.cell? ⟨b, j * 3, none⟩ = some (.int .i64 (gl L j).e) := fun j hj => (hBW1.cell (p := ⟨b, j * 3, none⟩) hb0).trans (hcells j (by rw [HZ.out]; exact hj)).1
  have HST : Hid (∀ W' : World, Below W.heap.size W W' → ∀ (j : Nat) (u : Value), (flat L)[j]? = some u → W'.cell? ((⟨b, 0, none⟩ : Addr).add j) = some u) := fun W' hW => src_ls fun i hi => by
    obtain ⟨q1, q2, q3⟩ := hcells i hi
    rw [Nat.zero_add]
    have hkk : ∀ p, W'.cell? ⟨b, p, none⟩ = w2.cell? ⟨b, p, none⟩ := fun p => (hBW1.trans (hW.mono hBW1.size)).cell (p := ⟨b, p, none⟩) hb0
    exact ⟨(hkk _).trans q1, (hkk _).trans q2, (hkk _).trans q3⟩
  have HCW := Lib.hid hcW
  clear hcW hcells
  go_wp2_with fail
  rw [← HW.out]
  go_loop [12] (fun i => ∃ k : Nat, k ≤ len ∧ i = .int .i64 k ∧ k ≤ fdL L at_) (fun i => len - (intOf i).toNat)
  case atStart => exact ⟨0, by omega, rfl, by omega⟩
  case round =>
    obtain ⟨k, hk, rfl, hf⟩ := hrel
    by_cases hlt : k < len
    · have hck := HCW.out k hlt
      cases c1 : decide ((gl L k).e < at_)
      · have HKF : Hid (k = fdL L at_) := by
          show k = fdL L at_
          have c1n : ¬ (gl L k).e < at_ := by simpa using c1
          rcases Nat.lt_or_ge k (fdL L at_) with h' | h'
          · exact absurd (fd_below h') c1n
          · omega
        clear hf
        have g0 : (0 : Int) ≤ (k : Int) := by omega
        have g1 : (k : Int) ≤ (len : Int) := by omega
        have g2 : k ≤ len := hk
        have g3' : ¬ cap = k := by omega
        have g4' : k ≤ cap := by omega
        have g5' : (k : Int) ≤ (cap : Int) := by omega
        have g6' : (len : Int) ≤ (cap : Int) := by omega
        go_wp2
        go_region_law ((first
          | (refine step_appL (o := ⟨some 94, _, _, _, _, _⟩) _ (by rfl) (.tmp 90) (.tmp 93) (by rfl) W.heap.size _ 0 0 [] (L.take k) (by rfl) (ownL_empty (by first | exact heap_alloc_new W _ | exact heap_second W _ _ | exact heap_first W _ _ | exact heap_alloc_new _ _) (by first | (simp; done) | (simp; omega) | omega)) rfl ⟨b, 0, none⟩ k cap (by rfl) (by rw [List.length_take, HZ.out]; omega) (srcL_take (HST.out _ (by repeat (first | exact hBW | apply Below.drew | (refine Below.alloc ?_ (by first | exact Nat.le_refl _ | (simp; done) | (simp; omega) | omega) _))))) k (by omega) (by omega) (by first | (simp; done) | (simp; omega) | omega) ?_
             intro g3 cap3 w3 hown3 hg3 hat3
             have hB3 : Below W.heap.size W w3 := Below.grown (by repeat (first | exact hBW | apply Below.drew | (refine Below.alloc ?_ (by first | exact Nat.le_refl _ | (simp; done) | (simp; omega) | omega) _))) hg3 (by first | (simp; done) | (simp; omega) | omega) (by first | (simp; done) | (simp; omega))
             have hz3 := hB3.size
             have q0 := (hB3.cell (p := ⟨w2.heap.size, 0, none⟩) hpl).trans p0
             have q1 := (hB3.cell (p := ⟨w2.heap.size, 1, none⟩) hpl).trans p1
             have q2 := (hB3.cell (p := ⟨w2.heap.size, 2, none⟩) hpl).trans p2
             have hgb3 := hown3.blk.1)
          | (refine step_appL (o := ⟨some 97, _, _, _, _, _⟩) _ (by rfl) (.tmp 94) (.tmp 96) (by rfl) W.heap.size g3 k cap3 ([] ++ L.take k) [⟨at_, to, ut⟩] (by rfl) (by first | exact hown3 | exact hown3.keepB (alB _ _) (Nat.le_refl _)) (by rw [List.nil_append, List.length_take, HZ.out]; omega) ⟨_, 0, none⟩ 1 1 (by rfl) rfl (srcL_one (x := ⟨at_, to, ut⟩) (by first | exact heap_alloc_new w3 _ | exact (hg3.block _ (by first | (simp; done) | (simp; omega) | omega) (by first | (simp; done) | (simp; omega))).trans (heap_second W _ _) | exact (hg3.block _ (by first | (simp; done) | (simp; omega) | omega) (by first | (simp; done) | (simp; omega))).trans (heap_first W _ _))) (k + 1) rfl (by omega) (by first | exact hz3 | (simp; omega)) ?_
             intro g4 cap4 w4 hown4 hg4 hat4
             have hB4 : Below W.heap.size W w4 := Below.grown (by repeat (first | exact hB3 | apply Below.drew | (refine Below.alloc ?_ (by first | exact Nat.le_refl _ | (simp; done) | (simp; omega) | omega) _))) hg4 (by first | exact hz3 | (simp; omega)) (fun _ hk => by cases hk; exact hgb3)
             have hz4 := hB4.size
             have hgb4 := hown4.blk.1)
          | (refine step_appL (o := ⟨some 101, _, _, _, _, _⟩) _ (by rfl) (.tmp 97) (.tmp 100) (by rfl) W.heap.size g4 (k + 1) cap4 ([] ++ L.take k ++ [⟨at_, to, ut⟩]) (L.drop k) (by rfl) hown4 (by simp [HZ.out]; try omega) ⟨b, k * 3, none⟩ (len - k) (cap - k) (by rfl) (by rw [List.length_drop, HZ.out]) (srcL_drop (HST.out _ (by repeat (first | exact hB4 | apply Below.drew | (refine Below.alloc ?_ (by first | exact Nat.le_refl _ | (simp; done) | (simp; omega) | omega) _))))) (len + 1) (by omega) (by omega) hz4 ?_
             intro g5 cap5 w5 hown5 hg5 hat5
             have hB5 : Below W.heap.size W w5 := Below.grown (by repeat (first | exact hB4 | apply Below.drew | (refine Below.alloc ?_ (by first | exact Nat.le_refl _ | (simp; done) | (simp; omega) | omega) _))) hg5 hz4 (fun _ hk => by cases hk; exact hgb4))))
        all_goals
          have hO5 := Lib.hid (hown5.less (base' := w.heap.size) hWs)
          have hF5 : Below w.heap.size w w5 := hBW0.trans (hB5.mono hWs)
          clear hown5 hg5 hat5 hown3 hown4 hg3 hg4 hat3 hat4
          go_wp2
          go_ret2
          rw [HR.out]
          refine ⟨g5, cap5, ?_, ?_, hF5⟩
          · rw [insL_len (by rw [HZ.out]; exact hfl), HZ.out]; rfl
          · have h9 := hO5.out
            rw [← HKF.out]
            simpa [insL] using h9
      · have hf2 : Hid (k + 1 ≤ fdL L at_) := by
          show k + 1 ≤ fdL L at_
          have c1n : (gl L k).e < at_ := by simpa using c1
          rcases Nat.lt_or_ge k (fdL L at_) with h' | h'
          · exact h'
          · have h2 : fdL L at_ = k := by omega
            have := fd_at (L := L) (key := at_) (by rw [HZ.out]; omega)
            rw [h2] at this; omega
        go_wp2
        go_round
        case rel => exact ⟨k + 1, by omega, by go_num, hf2.out⟩
        case measure => simp [intOf]; omega
    · obtain rfl : k = len := by omega
      have HKF : Hid (k = fdL L at_) := by
        show k = fdL L at_
        omega
      clear hf hlt
      have g0 : (0 : Int) ≤ (k : Int) := by omega
      by_cases hck : k = cap
      · subst hck
        go_wp2
        go_region_law ((first
          | (refine step_appL (o := ⟨some 94, _, _, _, _, _⟩) _ (by rfl) (.tmp 90) (.tmp 93) (by rfl) W.heap.size _ 0 0 [] (L.take k) (by rfl) (ownL_empty (by first | exact heap_alloc_new W _ | exact heap_second W _ _ | exact heap_first W _ _ | exact heap_alloc_new _ _) (by first | (simp; done) | (simp; omega) | omega)) rfl ⟨b, 0, none⟩ k k (by rfl) (by rw [List.length_take, HZ.out]; omega) (srcL_take (HST.out _ (by repeat (first | exact hBW | apply Below.drew | (refine Below.alloc ?_ (by first | exact Nat.le_refl _ | (simp; done) | (simp; omega) | omega) _))))) k (by omega) (by omega) (by first | (simp; done) | (simp; omega) | omega) ?_
             intro g3 cap3 w3 hown3 hg3 hat3
             have hB3 : Below W.heap.size W w3 := Below.grown (by repeat (first | exact hBW | apply Below.drew | (refine Below.alloc ?_ (by first | exact Nat.le_refl _ | (simp; done) | (simp; omega) | omega) _))) hg3 (by first | (simp; done) | (simp; omega) | omega) (by first | (simp; done) | (simp; omega))
             have hz3 := hB3.size
             have q0 := (hB3.cell (p := ⟨w2.heap.size, 0, none⟩) hpl).trans p0
             have q1 := (hB3.cell (p := ⟨w2.heap.size, 1, none⟩) hpl).trans p1
             have q2 := (hB3.cell (p := ⟨w2.heap.size, 2, none⟩) hpl).trans p2
             have hgb3 := hown3.blk.1)
          | (refine step_appL (o := ⟨some 97, _, _, _, _, _⟩) _ (by rfl) (.tmp 94) (.tmp 96) (by rfl) W.heap.size g3 k cap3 ([] ++ L.take k) [⟨at_, to, ut⟩] (by rfl) (by first | exact hown3 | exact hown3.keepB (alB _ _) (Nat.le_refl _)) (by rw [List.nil_append, List.length_take, HZ.out]; omega) ⟨_, 0, none⟩ 1 1 (by rfl) rfl (srcL_one (x := ⟨at_, to, ut⟩) (by first | exact heap_alloc_new w3 _ | exact (hg3.block _ (by first | (simp; done) | (simp; omega) | omega) (by first | (simp; done) | (simp; omega))).trans (heap_second W _ _) | exact (hg3.block _ (by first | (simp; done) | (simp; omega) | omega) (by first | (simp; done) | (simp; omega))).trans (heap_first W _ _))) (k + 1) rfl (by omega) (by first | exact hz3 | (simp; omega)) ?_
             intro g4 cap4 w4 hown4 hg4 hat4
             have hB4 : Below W.heap.size W w4 := Below.grown (by repeat (first | exact hB3 | apply Below.drew | (refine Below.alloc ?_ (by first | exact Nat.le_refl _ | (simp; done) | (simp; omega) | omega) _))) hg4 (by first | exact hz3 | (simp; omega)) (fun _ hk => by cases hk; exact hgb3)
             have hz4 := hB4.size
             have hgb4 := hown4.blk.1)
          | (refine step_appL (o := ⟨some 101, _, _, _, _, _⟩) _ (by rfl) (.tmp 97) (.tmp 100) (by rfl) W.heap.size g4 (k + 1) cap4 ([] ++ L.take k ++ [⟨at_, to, ut⟩]) [] (by rfl) hown4 (by simp [HZ.out]; try omega) ⟨b, 0, none⟩ 0 0 (by rfl) rfl (srcL_none _ _) (k + 1) (by omega) (by omega) hz4 ?_
             intro g5 cap5 w5 hown5 hg5 hat5
             have hB5 : Below W.heap.size W w5 := Below.grown (by repeat (first | exact hB4 | apply Below.drew | (refine Below.alloc ?_ (by first | exact Nat.le_refl _ | (simp; done) | (simp; omega) | omega) _))) hg5 hz4 (fun _ hk => by cases hk; exact hgb4))))
        all_goals
          have hO5 := Lib.hid (hown5.less (base' := w.heap.size) hWs)
          have hF5 : Below w.heap.size w w5 := hBW0.trans (hB5.mono hWs)
          clear hown5 hg5 hat5 hown3 hown4 hg3 hg4 hat3 hat4
          go_wp2
          go_ret2
          rw [HR.out]
          refine ⟨g5, cap5, ?_, ?_, hF5⟩
          · rw [insL_len (by rw [HZ.out]; exact hfl), HZ.out]; rfl
          · have h9 := hO5.out
            rw [← HKF.out]
            simpa [insL, List.drop_eq_nil_of_le (show L.length ≤ k by rw [HZ.out]; omega)] using h9
      · have g1 : k ≤ cap := by omega
        have g2 : (k : Int) ≤ (cap : Int) := by omega
        have g3' : ¬ cap = k := by omega
        go_wp2
        go_region_law ((first
          | (refine step_appL (o := ⟨some 94, _, _, _, _, _⟩) _ (by rfl) (.tmp 90) (.tmp 93) (by rfl) W.heap.size _ 0 0 [] (L.take k) (by rfl) (ownL_empty (by first | exact heap_alloc_new W _ | exact heap_second W _ _ | exact heap_first W _ _ | exact heap_alloc_new _ _) (by first | (simp; done) | (simp; omega) | omega)) rfl ⟨b, 0, none⟩ k cap (by rfl) (by rw [List.length_take, HZ.out]; omega) (srcL_take (HST.out _ (by repeat (first | exact hBW | apply Below.drew | (refine Below.alloc ?_ (by first | exact Nat.le_refl _ | (simp; done) | (simp; omega) | omega) _))))) k (by omega) (by omega) (by first | (simp; done) | (simp; omega) | omega) ?_
             intro g3 cap3 w3 hown3 hg3 hat3
             have hB3 : Below W.heap.size W w3 := Below.grown (by repeat (first | exact hBW | apply Below.drew | (refine Below.alloc ?_ (by first | exact Nat.le_refl _ | (simp; done) | (simp; omega) | omega) _))) hg3 (by first | (simp; done) | (simp; omega) | omega) (by first | (simp; done) | (simp; omega))
             have hz3 := hB3.size
             have q0 := (hB3.cell (p := ⟨w2.heap.size, 0, none⟩) hpl).trans p0
             have q1 := (hB3.cell (p := ⟨w2.heap.size, 1, none⟩) hpl).trans p1
             have q2 := (hB3.cell (p := ⟨w2.heap.size, 2, none⟩) hpl).trans p2
             have hgb3 := hown3.blk.1)
          | (refine step_appL (o := ⟨some 97, _, _, _, _, _⟩) _ (by rfl) (.tmp 94) (.tmp 96) (by rfl) W.heap.size g3 k cap3 ([] ++ L.take k) [⟨at_, to, ut⟩] (by rfl) (by first | exact hown3 | exact hown3.keepB (alB _ _) (Nat.le_refl _)) (by rw [List.nil_append, List.length_take, HZ.out]; omega) ⟨_, 0, none⟩ 1 1 (by rfl) rfl (srcL_one (x := ⟨at_, to, ut⟩) (by first | exact heap_alloc_new w3 _ | exact (hg3.block _ (by first | (simp; done) | (simp; omega) | omega) (by first | (simp; done) | (simp; omega))).trans (heap_second W _ _) | exact (hg3.block _ (by first | (simp; done) | (simp; omega) | omega) (by first | (simp; done) | (simp; omega))).trans (heap_first W _ _))) (k + 1) rfl (by omega) (by first | exact hz3 | (simp; omega)) ?_
             intro g4 cap4 w4 hown4 hg4 hat4
             have hB4 : Below W.heap.size W w4 := Below.grown (by repeat (first | exact hB3 | apply Below.drew | (refine Below.alloc ?_ (by first | exact Nat.le_refl _ | (simp; done) | (simp; omega) | omega) _))) hg4 (by first | exact hz3 | (simp; omega)) (fun _ hk => by cases hk; exact hgb3)
             have hz4 := hB4.size
             have hgb4 := hown4.blk.1)
          | (refine step_appL (o := ⟨some 101, _, _, _, _, _⟩) _ (by rfl) (.tmp 97) (.tmp 100) (by rfl) W.heap.size g4 (k + 1) cap4 ([] ++ L.take k ++ [⟨at_, to, ut⟩]) [] (by rfl) hown4 (by simp [HZ.out]; try omega) ⟨b, k * 3, none⟩ 0 (cap - k) (by rfl) rfl (srcL_none _ _) (k + 1) (by omega) (by omega) hz4 ?_
             intro g5 cap5 w5 hown5 hg5 hat5
             have hB5 : Below W.heap.size W w5 := Below.grown (by repeat (first | exact hB4 | apply Below.drew | (refine Below.alloc ?_ (by first | exact Nat.le_refl _ | (simp; done) | (simp; omega) | omega) _))) hg5 hz4 (fun _ hk => by cases hk; exact hgb4))))
        all_goals
          have hO5 := Lib.hid (hown5.less (base' := w.heap.size) hWs)
          have hF5 : Below w.heap.size w w5 := hBW0.trans (hB5.mono hWs)
          clear hown5 hg5 hat5 hown3 hown4 hg3 hg4 hat3 hat4
          go_wp2
          go_ret2
          rw [HR.out]
          refine ⟨g5, cap5, ?_, ?_, hF5⟩
          · rw [insL_len (by rw [HZ.out]; exact hfl), HZ.out]; rfl
          · have h9 := hO5.out
            rw [← HKF.out]
            simpa [insL, List.drop_eq_nil_of_le (show L.length ≤ k by rw [HZ.out]; omega)] using h9

set_option maxHeartbeats 4000000 in
theorem stake_any (a : Option Addr) (len cap : Nat) (L : List Ls) (key to now ut : Int) (w : World) (h : LsAt w a L) (hz : L.length = len) (hm : len ≤ maxLen) :
    Calls Tryd.prog 15 #[.slice a len cap, .int .i64 key, .int .i64 to, .int .i64 now, .int .i64 ut] w (AnsPost (takeR L key to now ut) w) := by
  have HI := Lib.hid h
  have HZ := Lib.hid hz
  have HM := Lib.hid hm
  clear h hz hm
  cases hv : lvB L
  · have HR := Lib.hid (take_no' (show takeOk L key to now ut = false by simp [takeOk, hv]))
    go_enter Tryd.func15, Tryd.ntmps15
    go_wp2_with fail
    refine (slvs_any a len cap L w HI.out HZ.out HM.out).mono ?_
    rintro e w2 ⟨rfl, hs⟩
    have hB2 : Below w.heap.size w w2 := hs.below _
    clear hs
    rw [hv]
    go_wp2
    go_ret2
    rw [HR.out]
    exact ⟨w2.heap.size, 0, rfl, (own_none w2 _ rfl).less hB2.size, hB2.trans ((alB w2 _).mono hB2.size)⟩
  cases h0 : ptB key
  · have HR := Lib.hid (take_no' (show takeOk L key to now ut = false by simp [takeOk, h0]))
    go_enter Tryd.func15, Tryd.ntmps15
    go_wp2_with fail
    refine (slvs_any a len cap L w HI.out HZ.out HM.out).mono ?_
    rintro e w2 ⟨rfl, hs⟩
    have hB2 : Below w.heap.size w w2 := hs.below _
    clear hs
    rw [hv]
    go_wp2_with fail
    refine (point_any key w2).mono ?_
    rintro e w' ⟨rfl, rfl⟩
    rw [h0]
    go_wp2
    go_ret2
    rw [HR.out]
    exact ⟨w2.heap.size, 0, rfl, (own_none w2 _ rfl).less hB2.size, hB2.trans ((alB w2 _).mono hB2.size)⟩
  cases h1 : ptB to
  · have HR := Lib.hid (take_no' (show takeOk L key to now ut = false by simp [takeOk, h1]))
    go_enter Tryd.func15, Tryd.ntmps15
    go_wp2_with fail
    refine (slvs_any a len cap L w HI.out HZ.out HM.out).mono ?_
    rintro e w2 ⟨rfl, hs⟩
    have hB2 : Below w.heap.size w w2 := hs.below _
    clear hs
    rw [hv]
    go_wp2_with fail
    refine (point_any key w2).mono ?_
    rintro e w' ⟨rfl, rfl⟩
    rw [h0]
    go_wp2_with fail
    refine (point_any to w2).mono ?_
    rintro e w' ⟨rfl, rfl⟩
    rw [h1]
    go_wp2
    go_ret2
    rw [HR.out]
    exact ⟨w2.heap.size, 0, rfl, (own_none w2 _ rfl).less hB2.size, hB2.trans ((alB w2 _).mono hB2.size)⟩
  cases h2 : tmB now
  · have HR := Lib.hid (take_no' (show takeOk L key to now ut = false by simp [takeOk, h2]))
    go_enter Tryd.func15, Tryd.ntmps15
    go_wp2_with fail
    refine (slvs_any a len cap L w HI.out HZ.out HM.out).mono ?_
    rintro e w2 ⟨rfl, hs⟩
    have hB2 : Below w.heap.size w w2 := hs.below _
    clear hs
    rw [hv]
    go_wp2_with fail
    refine (point_any key w2).mono ?_
    rintro e w' ⟨rfl, rfl⟩
    rw [h0]
    go_wp2_with fail
    refine (point_any to w2).mono ?_
    rintro e w' ⟨rfl, rfl⟩
    rw [h1]
    go_wp2_with fail
    refine (stime_any now w2).mono ?_
    rintro e w' ⟨rfl, rfl⟩
    rw [h2]
    go_wp2
    go_ret2
    rw [HR.out]
    exact ⟨w2.heap.size, 0, rfl, (own_none w2 _ rfl).less hB2.size, hB2.trans ((alB w2 _).mono hB2.size)⟩
  cases h3 : tmB ut
  · have HR := Lib.hid (take_no' (show takeOk L key to now ut = false by simp [takeOk, h3]))
    go_enter Tryd.func15, Tryd.ntmps15
    go_wp2_with fail
    refine (slvs_any a len cap L w HI.out HZ.out HM.out).mono ?_
    rintro e w2 ⟨rfl, hs⟩
    have hB2 : Below w.heap.size w w2 := hs.below _
    clear hs
    rw [hv]
    go_wp2_with fail
    refine (point_any key w2).mono ?_
    rintro e w' ⟨rfl, rfl⟩
    rw [h0]
    go_wp2_with fail
    refine (point_any to w2).mono ?_
    rintro e w' ⟨rfl, rfl⟩
    rw [h1]
    go_wp2_with fail
    refine (stime_any now w2).mono ?_
    rintro e w' ⟨rfl, rfl⟩
    rw [h2]
    go_wp2_with fail
    refine (stime_any ut w2).mono ?_
    rintro e w' ⟨rfl, rfl⟩
    rw [h3]
    go_wp2
    go_ret2
    rw [HR.out]
    exact ⟨w2.heap.size, 0, rfl, (own_none w2 _ rfl).less hB2.size, hB2.trans ((alB w2 _).mono hB2.size)⟩
  have hok : takeOk L key to now ut = true := by simp [takeOk, hv, h0, h1, h2, h3]
  have HOK := Lib.hid hok
  have h12 : 1 ≤ len ∧ len ≤ 12 := by have := lv_len hv; rw [HZ.out] at this; exact this
  obtain ⟨hl1, hl2⟩ := h12
  have hal := at_lt (L := L) (by rw [HZ.out]; omega) key
  rw [HZ.out] at hal
  clear hok
  by_cases hx : now ≤ (ofL L key).u
  · have HR := Lib.hid (take_keep HOK.out hx)
    have d1 : decide (now ≤ (gl L (atL L key)).u) = true := by simp; exact hx
    have hx' : now ≤ (gl L (atL L key)).u := hx
    clear hx
    go_enter Tryd.func15, Tryd.ntmps15
    go_wp2_with fail
    refine (slvs_any a len cap L w HI.out HZ.out HM.out).mono ?_
    rintro e w2 ⟨rfl, hs⟩
    have hB2 : Below w.heap.size w w2 := hs.below _
    clear hs
    rw [hv]
    go_wp2_with fail
    refine (point_any key w2).mono ?_
    rintro e w' ⟨rfl, rfl⟩
    rw [h0]
    go_wp2_with fail
    refine (point_any to w2).mono ?_
    rintro e w' ⟨rfl, rfl⟩
    rw [h1]
    go_wp2_with fail
    refine (stime_any now w2).mono ?_
    rintro e w' ⟨rfl, rfl⟩
    rw [h2]
    go_wp2_with fail
    refine (stime_any ut w2).mono ?_
    rintro e w' ⟨rfl, rfl⟩
    rw [h3]
    go_wp2_with fail
    refine (sat_any _ len cap L key w2 (HI.out.keepB hB2 (Nat.le_refl _)) HZ.out HM.out).mono ?_
    rintro e w' ⟨rfl, rfl⟩
    have HI2 := Lib.hid (HI.out.keepB hB2 (Nat.le_refl _))
    obtain ⟨b, off, rfl, hb0, hcells⟩ := HI2.out.at_ (i := 0) (by rw [HZ.out]; omega)
    obtain ⟨hc0, hc1, hc2⟩ := hcells (atL L key) (by rw [HZ.out]; exact hal)
    clear hc0 hc1
    have HS : Hid (∀ (o : Obj), ∀ (j : Nat) (u : Value), (flat L)[j]? = some u → (w2.alloc o).cell? ((⟨b, off, none⟩ : Addr).add j) = some u) := fun o => src_ls fun i hi => by
      obtain ⟨q1, q2, q3⟩ := hcells i hi
      have hkk : ∀ p, (w2.alloc o).cell? ⟨b, p, none⟩ = w2.cell? ⟨b, p, none⟩ := fun p => (alB w2 o).cell (p := ⟨b, p, none⟩) hb0
      exact ⟨(hkk _).trans q1, (hkk _).trans q2, (hkk _).trans q3⟩
    clear hcells
    go_wp2_with (at_builtin; refine wl_appL _ (by rfl) _ _ (by rfl) w2.heap.size w2.heap.size 0 0 [] L (by rfl) (own_none w2 _ rfl) rfl ⟨b, off, none⟩ len cap (by rfl) HZ.out (HS.out _) len (by omega) (by omega) (by simp) ?_; intro g c w3 hown hgr hat; rw [List.nil_append] at hown; have hO3 := Lib.hid (hown.less hB2.size); have hB3 : Below w.heap.size w w3 := hB2.trans (((alB w2 _).grown hgr (by simp) (fun k hk => by injection hk with hk; omega)).mono hB2.size); clear hown hgr hat)
    go_ret2
    rw [HR.out]
    exact ⟨g, c, by rw [HZ.out]; rfl, hO3.out, hB3⟩
  · have HR := Lib.hid (take_set HOK.out hx)
    have d1 : decide (now ≤ (gl L (atL L key)).u) = false := by simp; show (ofL L key).u < now; omega
    have hx' : ¬ now ≤ (gl L (atL L key)).u := hx
    clear hx
    go_enter Tryd.func15, Tryd.ntmps15
    go_wp2_with fail
    refine (slvs_any a len cap L w HI.out HZ.out HM.out).mono ?_
    rintro e w2 ⟨rfl, hs⟩
    have hB2 : Below w.heap.size w w2 := hs.below _
    clear hs
    rw [hv]
    go_wp2_with fail
    refine (point_any key w2).mono ?_
    rintro e w' ⟨rfl, rfl⟩
    rw [h0]
    go_wp2_with fail
    refine (point_any to w2).mono ?_
    rintro e w' ⟨rfl, rfl⟩
    rw [h1]
    go_wp2_with fail
    refine (stime_any now w2).mono ?_
    rintro e w' ⟨rfl, rfl⟩
    rw [h2]
    go_wp2_with fail
    refine (stime_any ut w2).mono ?_
    rintro e w' ⟨rfl, rfl⟩
    rw [h3]
    go_wp2_with fail
    refine (sat_any _ len cap L key w2 (HI.out.keepB hB2 (Nat.le_refl _)) HZ.out HM.out).mono ?_
    rintro e w' ⟨rfl, rfl⟩
    have HI2 := Lib.hid (HI.out.keepB hB2 (Nat.le_refl _))
    obtain ⟨b, off, rfl, hb0, hcells⟩ := HI2.out.at_ (i := 0) (by rw [HZ.out]; omega)
    obtain ⟨hc0, hc1, hc2⟩ := hcells (atL L key) (by rw [HZ.out]; exact hal)
    clear hc1 hcells
    go_wp2_with fail
    refine (sset_any _ len cap L (atL L key) ⟨(gl L (atL L key)).e, to, ut⟩ _ HI2.out HZ.out hl2 hal).mono ?_
    rintro e w3 ⟨g, c, rfl, ho3, hb3⟩
    have hB3 : Below w.heap.size w w3 := hB2.trans (hb3.mono hB2.size)
    have hO3 := Lib.hid (ho3.less (base' := w.heap.size) hB2.size)
    clear ho3 hb3
    go_wp2
    go_ret2
    rw [HR.out]
    exact ⟨g, c, by simp only [List.length_set]; rfl, hO3.out, hB3⟩

end Go.Proofs.YtoaamamconcieaaDoor
