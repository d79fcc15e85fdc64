/- A valid ring stays valid without one node, and is not valid with a short list of successors. -/
import Derived.Test.YtcbbdhmloniolaaLawsSafe
import Derived.Test.YtcbbdhmloniolaaMH
import Derived.Deep.DrawnRows
namespace Go.Proofs.Ytcbbdhmloniolaa
open Go.RowKit
set_option linter.unusedVariables false

attribute [local go_sem ↓] Go.wp_at_zero Go.wp_at_succ

theorem drawRingValid (s : Option Addr) (len cap : Nat) (w : World) (h : BytesAt w s len cap) :
    Calls Try.prog 9 #[.slice s len cap] w (DrewR w) := by
  go_enter Try.func9, Try.ntmps9
  go_wp2_with fail
  refine (open_any s len cap w h).mono ?_
  rintro e w0 ⟨rfl, hr0, hb0, hz0⟩
  have HZ := Lib.hid hz0
  clear hz0
  go_wp2_with fail
  refine (spoilt_any w.heap.size 5 w0 (hr0.less (by omega))).mono ?_
  rintro e w1 ⟨N, cap1, F, r, rfl, ho, h1, h2, h10, hr1, hg1⟩
  go_wp2
  go_ret
  have hz := HZ.out
  exact ⟨N, cap1, r, rfl, ho.ring, h10, h1, below_of_grown hb0 (Nat.le_refl _) (by omega) hg1⟩

theorem rv_bad {r : List Nd} {k : Nat} (hk : k < r.length) (p b x : Int) : rvB (r.set k ⟨p, b, [x]⟩) = false := by
  cases h : rvB (r.set k ⟨p, b, [x]⟩)
  · rfl
  · exfalso
    have h1 := rv_nd h (k := k) (by simpa using hk)
    rw [gn_set' hk, if_pos rfl, ndB_iff] at h1
    obtain ⟨_, _, x', y', e, _⟩ := h1
    simp at e
/-- a node written into a row -/
theorem row_set {w : World} {base g cap : Nat} {L : List (Nd × Value)} {k : Nat} {n : Nd} {v : Value} (h : RowL w base g cap L) (hk : k < L.length) (hv : IntsOff w g v n.aft) :
    RingAt (((w.setCell ⟨g, k * 3, none⟩ (.int .i64 n.pos)).setCell ⟨g, k * 3 + 1, none⟩ (.int .i64 n.bef)).setCell ⟨g, k * 3 + 2, none⟩ v) (some ⟨g, 0, none⟩) ((L.map (·.1)).set k n) := by
  obtain ⟨p0, hp0⟩ : ∃ p, L[k]? = some p := ⟨_, List.getElem?_eq_getElem hk⟩
  obtain ⟨c0, c1, c2⟩ := h.cells hp0
  have ne : ∀ {x y : Nat}, x ≠ y → (⟨g, x, none⟩ : Addr) ≠ ⟨g, y, none⟩ := fun hxy e => by injection e with _ e; exact hxy e
  have keep : ∀ (q : Addr), (⟨g, k * 3, none⟩ : Addr) ≠ q → (⟨g, k * 3 + 1, none⟩ : Addr) ≠ q → (⟨g, k * 3 + 2, none⟩ : Addr) ≠ q →
      (((w.setCell ⟨g, k * 3, none⟩ (.int .i64 n.pos)).setCell ⟨g, k * 3 + 1, none⟩ (.int .i64 n.bef)).setCell ⟨g, k * 3 + 2, none⟩ v).cell? q = w.cell? q := fun q h0 h1 h2 => by
    rw [World.cell?_setCell_other _ _ _ _ h2, World.cell?_setCell_other _ _ _ _ h1, World.cell?_setCell_other _ _ _ _ h0]
  have d0 : (((w.setCell ⟨g, k * 3, none⟩ (.int .i64 n.pos)).setCell ⟨g, k * 3 + 1, none⟩ (.int .i64 n.bef)).setCell ⟨g, k * 3 + 2, none⟩ v).cell? ⟨g, k * 3, none⟩ = some (.int .i64 n.pos) := by
    rw [World.cell?_setCell_other _ _ _ _ (ne (by omega)), World.cell?_setCell_other _ _ _ _ (ne (by omega))]; exact World.cell?_setCell_same _ _ _ c0
  have d1 : (((w.setCell ⟨g, k * 3, none⟩ (.int .i64 n.pos)).setCell ⟨g, k * 3 + 1, none⟩ (.int .i64 n.bef)).setCell ⟨g, k * 3 + 2, none⟩ v).cell? ⟨g, k * 3 + 1, none⟩ = some (.int .i64 n.bef) := by
    rw [World.cell?_setCell_other _ _ _ _ (ne (by omega))]
    exact World.cell?_setCell_same _ _ _ ((World.cell?_setCell_other _ _ _ _ (ne (by omega))).trans c1)
  have d2 : (((w.setCell ⟨g, k * 3, none⟩ (.int .i64 n.pos)).setCell ⟨g, k * 3 + 1, none⟩ (.int .i64 n.bef)).setCell ⟨g, k * 3 + 2, none⟩ v).cell? ⟨g, k * 3 + 2, none⟩ = some v :=
    World.cell?_setCell_same _ _ _ ((World.cell?_setCell_other _ _ _ _ (ne (by omega))).trans ((World.cell?_setCell_other _ _ _ _ (ne (by omega))).trans c2))
  have ints : ∀ {u : Value} {zs : List Int}, IntsOff w g u zs → IntsV (((w.setCell ⟨g, k * 3, none⟩ (.int .i64 n.pos)).setCell ⟨g, k * 3 + 1, none⟩ (.int .i64 n.bef)).setCell ⟨g, k * 3 + 2, none⟩ v) u zs := fun {u zs} hu => by
    obtain ⟨a, c, hv, h1, h2, h3⟩ := hu
    refine ⟨a, c, hv, h1, h2, ?_⟩
    rcases h3 with h3 | ⟨b, off, ha, hb, hlt, hc⟩
    · exact .inl h3
    · have nb : ∀ (x y : Nat), (⟨g, x, none⟩ : Addr) ≠ ⟨b, y, none⟩ := fun x y e => by injection e with e; exact hb e.symm
      exact .inr ⟨b, off, ha, by simpa [World.setCell] using hlt, fun i hi => by rw [keep _ (nb _ _) (nb _ _) (nb _ _)]; exact hc i hi⟩
  refine .inr ⟨g, 0, rfl, by have := h.blk.2.1; simpa [World.setCell] using this, fun i hi => ?_⟩
  have hi1 : i < (L.map (·.1)).length := by simpa using hi
  have hi2 : i < L.length := by simpa using hi1
  rw [Nat.zero_add, gn_set' hi1]
  by_cases e : i = k
  · rw [if_pos e, e]
    exact ⟨d0, d1, v, d2, ints hv⟩
  · rw [if_neg e]
    have hp : L[i]? = some L[i] := List.getElem?_eq_getElem hi2
    obtain ⟨h1, h2, h3⟩ := h.cells hp
    have eg : gn (L.map (·.1)) i = L[i].1 := by rw [gn_get hi1]; simp
    rw [eg]
    exact ⟨by rw [keep _ (ne (by omega)) (ne (by omega)) (ne (by omega))]; exact h1, by rw [keep _ (ne (by omega)) (ne (by omega)) (ne (by omega))]; exact h2,
      _, by rw [keep _ (ne (by omega)) (ne (by omega)) (ne (by omega))]; exact h3, ints (h.2 _ (List.getElem_mem hi2))⟩
theorem cell_ltv {w : World} {p : Addr} {v : Value} (h : w.cell? p = some v) : p.block < w.heap.size := by
  rcases Nat.lt_or_ge p.block w.heap.size with hlt | hge
  · exact hlt
  · exfalso
    have hn : w.heap[p.block]? = none := Array.getElem?_eq_none hge
    simp [World.cell?, hn] at h

set_option maxRecDepth 20000 in
set_option maxHeartbeats 4000000 in
theorem ringValid (s : Option Addr) (len cap : Nat) (z : List Int) (s2 : Option Addr) (len2 cap2 : Nat) (z2 : List Int) (w : World) (h : RowIn .u8 w s len cap z) (h2 : RowIn .u8 w s2 len2 cap2 z2) :
    Calls Try.prog 3 #[.slice s len cap, .slice s2 len2 cap2] w fun e w' => e = .returned (.bool true) ∧ Below w.heap.size w w' := by
  have hb := bytes_of_row h
  have hm : len ≤ maxLen := Nat.le_trans hb.1 hb.2.1
  unfold maxLen at hm
  clear h
  have hm2 : len2 ≤ maxLen := Nat.le_trans (bytes_of_row h2).1 (bytes_of_row h2).2.1
  unfold maxLen at hm2
  clear h2
  by_cases hl : 1048576 < len
  · go_enter Try.func3, Try.ntmps3
    go_wp2
    go_ret
    exact ⟨rfl, Below.refl _ _⟩
  by_cases hl2 : 1048576 < len2
  · have hlB : decide ((1048576 : Int) < (len : Int)) = false := by simp; omega
    go_enter Try.func3, Try.ntmps3
    go_wp2
    go_ret
    exact ⟨rfl, Below.refl _ _⟩
  have hl2B : decide ((1048576 : Int) < (len2 : Int)) = false := by simp; omega
  have hlB : decide ((1048576 : Int) < (len : Int)) = false := by simp; omega
  go_enter Try.func3, Try.ntmps3
  go_wp2_with fail
  refine (drawRingValid s len cap w hb).mono ?_
  rintro e w1 ⟨N, cap1, r, rfl, hr1, h10, hcap, hB1⟩
  have HI := Lib.hid hr1
  have HM : Hid (r.length ≤ maxLen) := by show _ ≤ maxLen; unfold maxLen; omega
  clear hr1 hlB hl2B
  obtain ⟨v, hv⟩ : ∃ v, rvB r = v := ⟨_, rfl⟩
  have HV := Lib.hid hv
  clear hv
  go_wp2_with fail
  refine (rv_as v _ _ cap1 r w1 HI.out rfl HM.out HV.out).mono ?_
  rintro e w2 ⟨rfl, hb2⟩
  have HI2 := Lib.hid (HI.out.keepB hb2 (Nat.le_refl _))
  have hB2 : Below w.heap.size w w2 := hB1.trans (hb2.mono hB1.size)
  go_wp2_with fail
  refine (srv_as v _ _ cap1 r w2 HI2.out rfl HM.out HV.out).mono ?_
  rintro e w3 ⟨rfl, hb3⟩
  have HI3 := Lib.hid (HI2.out.keepB hb3 (Nat.le_refl _))
  have HB3 := Lib.hid (hB2.trans (hb3.mono hB2.size))
  clear hb2 hb3 hB1 hB2
  rcases bool_cases v with hvv | hvv
  · subst hvv
    go_wp2
    go_ret
    exact ⟨rfl, HB3.out⟩
  subst hvv
  by_cases hz : r.length = 0
  · have hzB : ((r.length : Int) == 0) = true := by rw [hz]; rfl
    go_wp2
    go_ret
    exact ⟨rfl, HB3.out⟩
  have hzB : ((r.length : Int) == 0) = false := by rw [beq_eq_false_iff_ne]; omega
  obtain ⟨k, hkd⟩ : ∃ k, k = len2 % r.length := ⟨_, rfl⟩
  have hk : k < r.length := by rw [hkd]; exact Nat.mod_lt _ (by omega)
  have m1 : (len2 : Int).tmod (r.length : Int) = (k : Int) := by rw [hkd]; rfl
  have m0 : ¬ (r.length : Int) = 0 := by omega
  clear hkd
  obtain ⟨b, off, L, hbo, hNlt, hLm, hLc, hLi⟩ := ring_list HI3.out (by omega)
  injection hbo with hbo; injection hbo with hbo hbo2; subst hbo hbo2
  have hLl : L.length = r.length := by have := congrArg List.length hLm; simpa using this
  obtain ⟨wo, hwo⟩ : ∃ x, x = w3 := ⟨_, rfl⟩
  rw [← hwo] at HI3 HB3 hNlt hLc hLi ⊢
  clear hwo
  have HLM := Lib.hid hLm
  have HLC : Hid (∀ j u, (flatL L)[j]? = some u → wo.cell? ⟨N, j, none⟩ = some u) := fun j u hu => by have := hLc j u hu; rwa [Nat.zero_add] at this
  have HLI := Lib.hid hLi
  have HLL := Lib.hid hLl
  clear hLm hLc hLi hLl
  obtain ⟨p, hp⟩ : ∃ p, L[k]? = some p := ⟨_, List.getElem?_eq_getElem (by rw [HLL.out]; exact hk)⟩
  have hpr : p.1 = gn r k := by
    have h1 : (L.map (·.1))[k]? = some p.1 := by rw [List.getElem?_map, hp]; rfl
    rw [HLM.out, List.getElem?_eq_getElem hk] at h1
    injection h1 with h1
    rw [gn_get hk]; exact h1.symm
  have hpf := flatL_at hp
  have hnd := nd_open HV.out hk
  have hpi : IntsV wo p.2 p.1.aft := HLI.out p (List.mem_of_getElem? hp)
  rw [hpr] at hpf hpi
  obtain ⟨x, y, haf⟩ : ∃ x y, (gn r k).aft = [x, y] := ⟨_, _, hnd.2.2.2.2⟩
  rw [haf] at hpi
  obtain ⟨sa, sc, hp2, hsl, hsm, hsi⟩ := hpi
  obtain ⟨b5, o5, rfl, hb5, hx5, hy5⟩ := ints_two hsi
  have hsc : 2 ≤ sc := hsl
  have hp2' : p.2 = .slice (some ⟨b5, o5, none⟩) 2 sc := hp2
  rw [hp2'] at hpf
  have HC0 := Lib.hid (HLC.out _ _ hpf.1)
  have HC1 := Lib.hid (HLC.out _ _ hpf.2.1)
  have HC2 := Lib.hid (HLC.out _ _ hpf.2.2)
  have HX5 := Lib.hid hx5
  have HSM := Lib.hid hsm
  clear hpf hnd hp2 hp2' hsi hsl hx5 hy5 hp hpr hsm
  have HS : Hid (∀ w', Below wo.heap.size wo w' → Below wo.heap.size wo w' ∧ w'.cell? ⟨N, k * 3, none⟩ = some (.int .i64 (gn r k).pos) ∧ w'.cell? ⟨N, k * 3 + 1, none⟩ = some (.int .i64 (gn r k).bef) ∧ w'.cell? ⟨N, k * 3 + 2, none⟩ = some (.slice (some ⟨b5, o5, none⟩) 2 sc)) := fun w' hb' =>
    ⟨hb', (hb'.cell (p := ⟨N, k * 3, none⟩) hNlt).trans HC0.out, (hb'.cell (p := ⟨N, k * 3 + 1, none⟩) hNlt).trans HC1.out, (hb'.cell (p := ⟨N, k * 3 + 2, none⟩) hNlt).trans HC2.out⟩
  have g0 : (0 : Int) ≤ (k : Int) := by omega
  have g1 : (k : Int) ≤ (r.length : Int) := by omega
  have g2 : (k : Int) ≤ (cap1 : Int) := by omega
  have g3 : (k : Int) + 1 ≤ (r.length : Int) := by omega
  have g4 : (k : Int) + 1 ≤ (cap1 : Int) := by omega
  have g5 : (0 : Int) ≤ (k : Int) + 1 := by omega
  have x0 : IntKind.i64.wrap ((k : Int) + 1) = k + 1 := by rw [IntKind.wrap_i64]; omega
  have HBA : Hid (∀ o, Below wo.heap.size wo (wo.alloc o).drew) := fun o => ((Below.refl _ _).alloc (Nat.le_refl _) _).drew
  have HNLT := Lib.hid hNlt
  have HB5 := Lib.hid hb5
  have HRL : Hid (r.length ≤ 10) := h10
  clear hl hl2 hm hm2
  have fin : ∀ (g7 cap7 : Nat) (w7 : World), RowL w7 wo.heap.size g7 cap7 (L.take k ++ L.drop (k + 1)) → Below wo.heap.size wo w7 → RingAt w7 (some ⟨g7, 0, none⟩) (cutR r k) := fun g7 cap7 w7 h7 _ => by
    have h8 := h7.ring
    rw [List.map_append, List.map_take, List.map_drop, HLM.out] at h8
    exact h8
  have HFIN := Lib.hid fin
  have HCL : Hid ((cutR r k).length = r.length - 1) := cut_len hk
  have HCV : Hid (rvB (cutR r k) = true) := cut_rv HV.out hk
  have HBV : Hid (rvB (r.set k ⟨(gn r k).pos, (gn r k).bef, [x]⟩) = false) := rv_bad hk _ _ _
  clear fin
  go_wp2_with fail
  clear m1 m0 hzB hz
  by_cases hck : cap1 = k + 1
  · have hlk : r.length = k + 1 := by omega
    have HLK := Lib.hid hlk
    have HCK := Lib.hid hck
    have g9 : (k : Int) ≤ (k : Int) + 1 := by omega
    go_region_law ((first | (refine step_appN (o := ⟨some 49, _, _, _, _, _⟩) _ (by rfl) (.tmp 45) (.tmp 48) (by rfl) wo.heap.size wo.heap.size 0 0 [] (L.take k) (by rfl) (rowL_new wo _ rfl) rfl ⟨N, 0, none⟩ k _ (by rfl) (by rw [List.length_take, HLL.out]; omega) (fun j u hu => by rw [add_plain, Nat.zero_add]; exact ((HBA.out _).cell (p := ⟨N, j, none⟩) HNLT.out).trans (HLC.out j u (flat_take hu))) (fun p hp => ((HLI.out p (List.mem_of_mem_take hp)).offNew (Nat.le_refl _)).keepB (HBA.out _) (Nat.le_refl _)) k (by omega) (by omega) (by simp) ?_; intro g3 cap3 w3' hown3 hg3' hat3; have hB3 : Below wo.heap.size wo w3' := (HBA.out _).grown hg3' (by simp) (fun q hq => by injection hq with hq; omega); have hg31 := hown3.blk.1) | (refine step_appN (o := ⟨some 54, _, _, _, _, _⟩) _ (by rfl) (.tmp 49) (.tmp 53) (by rfl) wo.heap.size g3 k cap3 ([] ++ L.take k) [] (by rfl) hown3 (by rw [List.nil_append, List.length_take, HLL.out]; omega) ⟨N, 0, none⟩ 0 0 (by rfl) rfl (fun j u hu => by simp [flatL] at hu) (fun p hp => by cases hp) k (by omega) (by omega) hB3.size ?_; intro g7 cap7 w7 hown7 hg7' hat7; have hB7 : Below wo.heap.size wo w7 := hB3.grown hg7' hB3.size (fun q hq => by injection hq with hq; omega))))
    · have hown7' : RowL w7 wo.heap.size g7 cap7 (L.take k ++ L.drop (k + 1)) := by simpa [List.drop_eq_nil_of_le (show L.length ≤ k + 1 by rw [HLL.out]; omega)] using hown7
      have HLEN : Hid (k = (cutR r k).length) := by show _ = _; rw [HCL.out]; omega
      clear hlk hck
      have HR7 := Lib.hid (HFIN.out _ _ _ hown7' hB7)
      have HB7 := Lib.hid hB7
      clear hown7 hown7' hg7' hat7 hown3 hg3' hat3 hB3 hg31
      have HBC : Hid (∀ o, Below wo.heap.size wo (w7.alloc o)) := fun o => hB7.alloc hB7.size _
      clear hB7
      go_wp2_with (at_builtin; refine wl_appN _ (by rfl) _ _ (by rfl) w7.heap.size w7.heap.size 0 0 [] L (by rfl) (rowL_new w7 _ rfl) rfl ⟨N, 0, none⟩ (k + 1) (k + 1) (by rfl) (HLL.out.trans HLK.out) (fun j u hu => by rw [add_plain, Nat.zero_add]; exact ((HBC.out _).cell (p := ⟨N, j, none⟩) HNLT.out).trans (HLC.out j u hu)) (fun p hp => ((HLI.out p hp).offNew HB7.out.size).keepB (HBC.out _) (Nat.le_refl _)) (k + 1) (by omega) (by omega) (by simp) ?_; intro g8 cap8 w8 hown8 hg8 hat8)
      have hB78 : Below w7.heap.size w7 w8 := ((Below.refl _ _).alloc (Nat.le_refl _) _).grown hg8 (by simp) (fun q hq => by injection hq with hq; omega)
      have HB8 := Lib.hid (HB7.out.trans (hB78.mono HB7.out.size))
      have HR8 := Lib.hid (HR7.out.keepB hB78 (Nat.le_refl _))
      have hown8' : RowL w8 w7.heap.size g8 cap8 L := by simpa using hown8
      obtain ⟨hb8, hg8l, cs, hcs, hc8, _, hcsz, _⟩ := hown8'.blk
      have HW8 := Lib.hid hown8'
      have HG8 : Hid (wo.heap.size ≤ g8 ∧ w7.heap.size ≤ g8) := ⟨Nat.le_trans HB7.out.size hb8, hb8⟩
      have hks : k * 3 + 2 < cs.size := by rw [hcsz]; have := HLL.out; omega
      obtain ⟨u0, y0⟩ : ∃ v, w8.cell? ⟨g8, k * 3, none⟩ = some v := ⟨_, by rw [cell_of_cells hcs]; exact Array.getElem?_eq_getElem (by omega)⟩
      obtain ⟨u1, y1⟩ : ∃ v, w8.cell? ⟨g8, k * 3 + 1, none⟩ = some v := ⟨_, by rw [cell_of_cells hcs]; exact Array.getElem?_eq_getElem (by omega)⟩
      obtain ⟨u2, y2⟩ : ∃ v, w8.cell? ⟨g8, k * 3 + 2, none⟩ = some v := ⟨_, by rw [cell_of_cells hcs]; exact Array.getElem?_eq_getElem (by omega)⟩
      have f0 := frozen_of_cells hcs (k * 3)
      have f1 := frozen_of_cells hcs (k * 3 + 1)
      have f2 := frozen_of_cells hcs (k * 3 + 2)
      have i1 : (k : Int) < (k : Int) + 1 := by omega
      have q1 : (1 : Int) ≤ (sc : Int) := by omega
      have q2 : 1 ≤ sc := by omega
      have HST : Hid (∀ a0 a1 a2 : Value, Below wo.heap.size wo (((w8.drew.setCell ⟨g8, k * 3, none⟩ a0).setCell ⟨g8, k * 3 + 1, none⟩ a1).setCell ⟨g8, k * 3 + 2, none⟩ a2)) := fun a0 a1 a2 => ((HB8.out.drew.setCell HG8.out.1 _).setCell HG8.out.1 _).setCell HG8.out.1 _
      have HST2 : Hid (∀ a0 a1 a2 : Value, Below w7.heap.size w7 (((w8.setCell ⟨g8, k * 3, none⟩ a0).setCell ⟨g8, k * 3 + 1, none⟩ a1).setCell ⟨g8, k * 3 + 2, none⟩ a2).drew) := fun a0 a1 a2 => (((hB78.setCell HG8.out.2 _).setCell HG8.out.2 _).setCell HG8.out.2 _).drew
      have HST3 : Hid (∀ a0 a1 a2 : Value, Below wo.heap.size wo (((w8.setCell ⟨g8, k * 3, none⟩ a0).setCell ⟨g8, k * 3 + 1, none⟩ a1).setCell ⟨g8, k * 3 + 2, none⟩ a2).drew) := fun a0 a1 a2 => (((HB8.out.setCell HG8.out.1 _).setCell HG8.out.1 _).setCell HG8.out.1 _).drew
      clear hown8 hown8' hg8 hat8 hB78 hcs hcsz hks hb8 hg8l hc8
      go_region_held3 (fun w' => Below wo.heap.size wo w' ∧ w'.cell? ⟨N, k * 3, none⟩ = some (.int .i64 (gn r k).pos) ∧ w'.cell? ⟨N, k * 3 + 1, none⟩ = some (.int .i64 (gn r k).bef) ∧ w'.cell? ⟨N, k * 3 + 2, none⟩ = some (.slice (some ⟨b5, o5, none⟩) 2 sc)) (first | (exact HS.out _ HB8.out) | (exact HS.out _ HB8.out.drew) | (exact HS.out _ (HST.out _ _ _)) | (exact HS.out _ (HST3.out _ _ _)))
        ((first | fail))
      have hbad : RingAt ((((w8.setCell ⟨g8, k * 3, none⟩ (.int .i64 (gn r k).pos)).setCell ⟨g8, k * 3 + 1, none⟩ (.int .i64 (gn r k).bef)).setCell ⟨g8, k * 3 + 2, none⟩ (.slice (some ⟨b5, o5, none⟩) 1 sc)).drew) (some ⟨g8, 0, none⟩) (r.set k ⟨(gn r k).pos, (gn r k).bef, [x]⟩) := by
        have h1 := row_set (k := k) (n := ⟨(gn r k).pos, (gn r k).bef, [x]⟩) (v := .slice (some ⟨b5, o5, none⟩) 1 sc) HW8.out (by rw [HLL.out]; exact hk) ⟨some ⟨b5, o5, none⟩, sc, rfl, q2, HSM.out, .inr ⟨b5, o5, rfl, by have := HB5.out; have := HG8.out.1; omega, Nat.lt_of_lt_of_le HB5.out HB8.out.size, fun i hi => by
          have hi0 : i = 0 := by simp at hi; omega
          subst hi0
          exact (HB8.out.cell (p := ⟨b5, o5, none⟩) HB5.out).trans HX5.out⟩⟩
        rw [HLM.out] at h1
        exact h1.keepB ((Below.refl _ _).drew) (Nat.le_refl _)
      have HBAD := Lib.hid hbad
      have HLESS := Lib.hid (HR7.out.keepB (HST2.out (.int .i64 (gn r k).pos) (.int .i64 (gn r k).bef) (.slice (some ⟨b5, o5, none⟩) 1 sc)) (Nat.le_refl _))
      have HBW := Lib.hid (HB3.out.trans ((HST3.out (.int .i64 (gn r k).pos) (.int .i64 (gn r k).bef) (.slice (some ⟨b5, o5, none⟩) 1 sc)).mono HB3.out.size))
      go_wp2_with fail
      generalize hW9 : (((w8.setCell ⟨g8, k * 3, none⟩ (.int .i64 (gn r k).pos)).setCell ⟨g8, k * 3 + 1, none⟩ (.int .i64 (gn r k).bef)).setCell ⟨g8, k * 3 + 2, none⟩ (.slice (some ⟨b5, o5, none⟩) 1 sc)).drew = w9 at HBAD HLESS HBW ⊢
      clear hbad hW9 f0 f1 f2 y0 y1 y2 q1 q2
      refine (rv_as true _ _ cap7 (cutR r k) w9 HLESS.out HLEN.out.symm (by have := HRL.out; have := HLEN.out; have := HCL.out; unfold maxLen; omega) HCV.out).mono ?_
      rintro e w10 ⟨rfl, hb10⟩
      have HBAD10 := Lib.hid (HBAD.out.keepB hb10 (Nat.le_refl _))
      have HB10 := Lib.hid (HBW.out.trans (hb10.mono HBW.out.size))
      clear hb10
      go_wp2_with fail
      refine (rv_as false _ _ cap8 _ w10 HBAD10.out (by rw [List.length_set]; exact HLK.out) (by have := HRL.out; have := HLK.out; unfold maxLen; omega) HBV.out).mono ?_
      rintro e w11 ⟨rfl, hb11⟩
      go_wp2
      go_ret
      exact ⟨rfl, HB10.out.trans (hb11.mono HB10.out.size)⟩

  · have g6 : ¬ cap1 = k + 1 := hck
    have g7 : k + 1 ≤ r.length := by omega
    have g8 : k + 1 ≤ cap1 := by omega
    go_region_law ((first | (refine step_appN (o := ⟨some 49, _, _, _, _, _⟩) _ (by rfl) (.tmp 45) (.tmp 48) (by rfl) wo.heap.size wo.heap.size 0 0 [] (L.take k) (by rfl) (rowL_new wo _ rfl) rfl ⟨N, 0, none⟩ k _ (by rfl) (by rw [List.length_take, HLL.out]; omega) (fun j u hu => by rw [add_plain, Nat.zero_add]; exact ((HBA.out _).cell (p := ⟨N, j, none⟩) HNLT.out).trans (HLC.out j u (flat_take hu))) (fun p hp => ((HLI.out p (List.mem_of_mem_take hp)).offNew (Nat.le_refl _)).keepB (HBA.out _) (Nat.le_refl _)) k (by omega) (by omega) (by simp) ?_; intro g3 cap3 w3' hown3 hg3' hat3; have hB3 : Below wo.heap.size wo w3' := (HBA.out _).grown hg3' (by simp) (fun q hq => by injection hq with hq; omega); have hg31 := hown3.blk.1) | (refine step_appN (o := ⟨some 54, _, _, _, _, _⟩) _ (by rfl) (.tmp 49) (.tmp 53) (by rfl) wo.heap.size g3 k cap3 ([] ++ L.take k) (L.drop (k + 1)) (by rfl) hown3 (by rw [List.nil_append, List.length_take, HLL.out]; omega) ⟨N, (k + 1) * 3, none⟩ (r.length - (k + 1)) (cap1 - (k + 1)) (by rfl) (by rw [List.length_drop, HLL.out]) (fun j u hu => by rw [add_plain]; exact (hB3.cell (p := ⟨N, (k + 1) * 3 + j, none⟩) HNLT.out).trans (HLC.out _ u (flat_drop (by rw [HLL.out]; omega) hu))) (fun p hp => ((HLI.out p (List.mem_of_mem_drop hp)).offNew hg31).keepB hB3 (Nat.le_refl _)) (r.length - 1) (by omega) (by omega) hB3.size ?_; intro g7 cap7 w7 hown7 hg7' hat7; have hB7 : Below wo.heap.size wo w7 := hB3.grown hg7' hB3.size (fun q hq => by injection hq with hq; omega))))
    · have hown7' : RowL w7 wo.heap.size g7 cap7 (L.take k ++ L.drop (k + 1)) := by simpa using hown7
      have HLEN : Hid (r.length - 1 = (cutR r k).length) := by show _ = _; rw [HCL.out]
      have HR7 := Lib.hid (HFIN.out _ _ _ hown7' hB7)
      have HB7 := Lib.hid hB7
      clear hown7 hown7' hg7' hat7 hown3 hg3' hat3 hB3 hg31
      have HBC : Hid (∀ o, Below wo.heap.size wo (w7.alloc o)) := fun o => hB7.alloc hB7.size _
      clear hB7
      go_wp2_with (at_builtin; refine wl_appN _ (by rfl) _ _ (by rfl) w7.heap.size w7.heap.size 0 0 [] L (by rfl) (rowL_new w7 _ rfl) rfl ⟨N, 0, none⟩ r.length cap1 (by rfl) HLL.out (fun j u hu => by rw [add_plain, Nat.zero_add]; exact ((HBC.out _).cell (p := ⟨N, j, none⟩) HNLT.out).trans (HLC.out j u hu)) (fun p hp => ((HLI.out p hp).offNew HB7.out.size).keepB (HBC.out _) (Nat.le_refl _)) r.length (by omega) (by omega) (by simp) ?_; intro g8 cap8 w8 hown8 hg8 hat8)
      have hB78 : Below w7.heap.size w7 w8 := ((Below.refl _ _).alloc (Nat.le_refl _) _).grown hg8 (by simp) (fun q hq => by injection hq with hq; omega)
      have HB8 := Lib.hid (HB7.out.trans (hB78.mono HB7.out.size))
      have HR8 := Lib.hid (HR7.out.keepB hB78 (Nat.le_refl _))
      have hown8' : RowL w8 w7.heap.size g8 cap8 L := by simpa using hown8
      obtain ⟨hb8, hg8l, cs, hcs, hc8, _, hcsz, _⟩ := hown8'.blk
      have HW8 := Lib.hid hown8'
      have HG8 : Hid (wo.heap.size ≤ g8 ∧ w7.heap.size ≤ g8) := ⟨Nat.le_trans HB7.out.size hb8, hb8⟩
      have hks : k * 3 + 2 < cs.size := by rw [hcsz]; have := HLL.out; omega
      obtain ⟨u0, y0⟩ : ∃ v, w8.cell? ⟨g8, k * 3, none⟩ = some v := ⟨_, by rw [cell_of_cells hcs]; exact Array.getElem?_eq_getElem (by omega)⟩
      obtain ⟨u1, y1⟩ : ∃ v, w8.cell? ⟨g8, k * 3 + 1, none⟩ = some v := ⟨_, by rw [cell_of_cells hcs]; exact Array.getElem?_eq_getElem (by omega)⟩
      obtain ⟨u2, y2⟩ : ∃ v, w8.cell? ⟨g8, k * 3 + 2, none⟩ = some v := ⟨_, by rw [cell_of_cells hcs]; exact Array.getElem?_eq_getElem (by omega)⟩
      have f0 := frozen_of_cells hcs (k * 3)
      have f1 := frozen_of_cells hcs (k * 3 + 1)
      have f2 := frozen_of_cells hcs (k * 3 + 2)
      have i1 : (k : Int) < (r.length : Int) := by omega
      have q1 : (1 : Int) ≤ (sc : Int) := by omega
      have q2 : 1 ≤ sc := by omega
      have HST : Hid (∀ a0 a1 a2 : Value, Below wo.heap.size wo (((w8.drew.setCell ⟨g8, k * 3, none⟩ a0).setCell ⟨g8, k * 3 + 1, none⟩ a1).setCell ⟨g8, k * 3 + 2, none⟩ a2)) := fun a0 a1 a2 => ((HB8.out.drew.setCell HG8.out.1 _).setCell HG8.out.1 _).setCell HG8.out.1 _
      have HST2 : Hid (∀ a0 a1 a2 : Value, Below w7.heap.size w7 (((w8.setCell ⟨g8, k * 3, none⟩ a0).setCell ⟨g8, k * 3 + 1, none⟩ a1).setCell ⟨g8, k * 3 + 2, none⟩ a2).drew) := fun a0 a1 a2 => (((hB78.setCell HG8.out.2 _).setCell HG8.out.2 _).setCell HG8.out.2 _).drew
      have HST3 : Hid (∀ a0 a1 a2 : Value, Below wo.heap.size wo (((w8.setCell ⟨g8, k * 3, none⟩ a0).setCell ⟨g8, k * 3 + 1, none⟩ a1).setCell ⟨g8, k * 3 + 2, none⟩ a2).drew) := fun a0 a1 a2 => (((HB8.out.setCell HG8.out.1 _).setCell HG8.out.1 _).setCell HG8.out.1 _).drew
      clear hown8 hown8' hg8 hat8 hB78 hcs hcsz hks hb8 hg8l hc8
      go_region_held3 (fun w' => Below wo.heap.size wo w' ∧ w'.cell? ⟨N, k * 3, none⟩ = some (.int .i64 (gn r k).pos) ∧ w'.cell? ⟨N, k * 3 + 1, none⟩ = some (.int .i64 (gn r k).bef) ∧ w'.cell? ⟨N, k * 3 + 2, none⟩ = some (.slice (some ⟨b5, o5, none⟩) 2 sc)) (first | (exact HS.out _ HB8.out) | (exact HS.out _ HB8.out.drew) | (exact HS.out _ (HST.out _ _ _)) | (exact HS.out _ (HST3.out _ _ _)))
        ((first | fail))
      have hbad : RingAt ((((w8.setCell ⟨g8, k * 3, none⟩ (.int .i64 (gn r k).pos)).setCell ⟨g8, k * 3 + 1, none⟩ (.int .i64 (gn r k).bef)).setCell ⟨g8, k * 3 + 2, none⟩ (.slice (some ⟨b5, o5, none⟩) 1 sc)).drew) (some ⟨g8, 0, none⟩) (r.set k ⟨(gn r k).pos, (gn r k).bef, [x]⟩) := by
        have h1 := row_set (k := k) (n := ⟨(gn r k).pos, (gn r k).bef, [x]⟩) (v := .slice (some ⟨b5, o5, none⟩) 1 sc) HW8.out (by rw [HLL.out]; exact hk) ⟨some ⟨b5, o5, none⟩, sc, rfl, q2, HSM.out, .inr ⟨b5, o5, rfl, by have := HB5.out; have := HG8.out.1; omega, Nat.lt_of_lt_of_le HB5.out HB8.out.size, fun i hi => by
          have hi0 : i = 0 := by simp at hi; omega
          subst hi0
          exact (HB8.out.cell (p := ⟨b5, o5, none⟩) HB5.out).trans HX5.out⟩⟩
        rw [HLM.out] at h1
        exact h1.keepB ((Below.refl _ _).drew) (Nat.le_refl _)
      have HBAD := Lib.hid hbad
      have HLESS := Lib.hid (HR7.out.keepB (HST2.out (.int .i64 (gn r k).pos) (.int .i64 (gn r k).bef) (.slice (some ⟨b5, o5, none⟩) 1 sc)) (Nat.le_refl _))
      have HBW := Lib.hid (HB3.out.trans ((HST3.out (.int .i64 (gn r k).pos) (.int .i64 (gn r k).bef) (.slice (some ⟨b5, o5, none⟩) 1 sc)).mono HB3.out.size))
      go_wp2_with fail
      generalize hW9 : (((w8.setCell ⟨g8, k * 3, none⟩ (.int .i64 (gn r k).pos)).setCell ⟨g8, k * 3 + 1, none⟩ (.int .i64 (gn r k).bef)).setCell ⟨g8, k * 3 + 2, none⟩ (.slice (some ⟨b5, o5, none⟩) 1 sc)).drew = w9 at HBAD HLESS HBW ⊢
      clear hbad hW9 f0 f1 f2 y0 y1 y2 q1 q2
      refine (rv_as true _ _ cap7 (cutR r k) w9 HLESS.out HLEN.out.symm (by have := HRL.out; have := HLEN.out; have := HCL.out; unfold maxLen; omega) HCV.out).mono ?_
      rintro e w10 ⟨rfl, hb10⟩
      have HBAD10 := Lib.hid (HBAD.out.keepB hb10 (Nat.le_refl _))
      have HB10 := Lib.hid (HBW.out.trans (hb10.mono HBW.out.size))
      clear hb10
      go_wp2_with fail
      refine (rv_as false _ _ cap8 _ w10 HBAD10.out (by rw [List.length_set]) (by have := HRL.out; unfold maxLen; omega) HBV.out).mono ?_
      rintro e w11 ⟨rfl, hb11⟩
      go_wp2
      go_ret
      exact ⟨rfl, HB10.out.trans (hb11.mono HB10.out.size)⟩
end Go.Proofs.Ytcbbdhmloniolaa
