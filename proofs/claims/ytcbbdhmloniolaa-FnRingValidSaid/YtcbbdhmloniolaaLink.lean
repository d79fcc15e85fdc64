/- What linkRing builds. -/
import Derived.Test.YtcbbdhmloniolaaPeers
namespace Go.Proofs.Ytcbbdhmloniolaa
open Go.RowKit
set_option linter.unusedVariables false

/-- all nodes are linked; nobody else is live -/
def Dn (K : Nat → Option Pr) (r : List Nd) : Prop :=
  (∀ i, i < r.length → ∃ p, K (gn r i).pos.toNat = some p ∧ DoneN K (gn r i) p) ∧ ∀ x p, K x = some p → (∀ j, j < r.length → (gn r j).pos.toNat ≠ x) → p.lv = false
theorem Done.dn {K : Nat → Option Pr} {r : List Nd} (h : Done K r r.length) (hv : rvB r = true) : Dn K r := by
  refine ⟨fun i hi => ?_, fun x p hp hno => ?_⟩
  · obtain ⟨p, hp⟩ := h.1 i hi
    rcases h.2 _ _ hp with ⟨j, hj, he, hd⟩ | ⟨hno, _⟩
    · have h1 := ((ndB_iff _).1 (rv_nd hv hj)).1
      have h2 := ((ndB_iff _).1 (rv_nd hv hi)).1
      have := rv_inj hv hj hi (by omega)
      subst this
      exact ⟨p, hp, hd⟩
    · exact absurd rfl (hno i hi)
  · rcases h.2 _ _ hp with ⟨j, hj, he, _⟩ | ⟨_, hf⟩
    · exact absurd he (hno j hj)
    · exact hf.1
/-- the peers of a ring, linked: block L lists the live ones -/
def Net (w : World) (L : Nat) (r : List Nd) (K : Nat → Option Pr) : Prop :=
  ∃ base c tp la, LK w base c tp L la K ∧ Dn K r ∧ ListOk K r la r.length
def Linked (r : List Nd) (w : World) (e : Ending) (w' : World) : Prop :=
  ∃ K, e = .returned (.slice (some ⟨w.heap.size + 1, 0, none⟩) r.length r.length) ∧ Net w' (w.heap.size + 1) r K ∧ Below w.heap.size w w'
/-- as Linked, with the block of the contacts -/
def LinkedT (r : List Nd) (w : World) (tp : Option Value) (e : Ending) (w' : World) : Prop :=
  ∃ K la, e = .returned (.slice (some ⟨w.heap.size + 1, 0, none⟩) r.length r.length) ∧ LK w' w.heap.size w.heap.size tp (w.heap.size + 1) la K ∧ Dn K r ∧ ListOk K r la r.length ∧ Below w.heap.size w w'

theorem box_ne {w : World} {base c L g : Nat} {tp : Option Value} {la : Array Value} {K : Nat → Option Pr} {cs : Array Value} {x : Nat} {p : Pr} (h : LK w base c tp L la K) (hx : x < 64) (hp : K x = some p) (hg : w.heap[g]? = some (.cells cs 28 (0, 0))) : p.blk ≠ g := by
  intro e
  have h3 := (h.peer x p hx hp).1
  rw [e, hg] at h3; injection h3 with h3; injection h3 with _ h3; exact absurd h3 (by decide)
theorem box_ne_c {w : World} {base c L g : Nat} {tp : Option Value} {la : Array Value} {K : Nat → Option Pr} {cs : Array Value} (h : LK w base c tp L la K) (hg : w.heap[g]? = some (.cells cs 28 (0, 0))) : g ≠ c := by
  intro e
  obtain ⟨arr, ct, h1, h2, _⟩ := h.cblk
  rw [e, h1] at hg; injection hg with hg; injection hg with _ hg; exact h2.1.2.2 hg

set_option maxHeartbeats 2000000 in
theorem links_any (a : Option Addr) (len cap : Nat) (r : List Nd) (w : World) (arr : Array Value) (t : TypeId) (tp : Option Value) (hcn : CNone arr t tp) (h : RingAt w a r) (hz : r.length = len) (hv : rvB r = true) :
    Calls Try.prog 71 #[.pointer (some ⟨w.heap.size, 0, none⟩), .slice a len cap] (w.alloc (.cells arr t)) (LinkedT r w tp) := by
  have HCN := Lib.hid hcn
  clear hcn
  have hm := rv_len hv
  rw [hz] at hm
  have HI := Lib.hid h
  have HZ := Lib.hid hz
  have HV := Lib.hid hv
  clear h hz hv
  have hmk := run_make_row' (P := Try.prog) 62 74 (.pointer none) 8 Try.underlying62 (by kernel_rfl) rfl .i64 .i64 len (by omega) (by omega)
  go_enter Try.func71, Try.ntmps71
  go_wp2
  clear hmk
  go_loopw [16] (fun i wr => ∃ k : Nat, k ≤ len ∧ i = .int .i64 k ∧ LinkAt r w tp len k wr) (fun i _ => len - (intOf i).toNat)
  case atStart => exact ⟨0, by omega, rfl, _, _, lk_start w _ _ _ _ HCN.out, by simp [madeCells], done_zero r, fun j hj => absurd hj (by omega), ((Below.refl _ _).alloc (Nat.le_refl _) _).alloc (by simp) _⟩
  case round =>
    obtain ⟨k, hk, rfl, la, K, hL, hls, hD, hlist, hbel⟩ := hrel
    have HLS := Lib.hid hls
    clear hls
    by_cases hlt : k < len
    · have hkr : k < r.length := by rw [HZ.out]; exact hlt
      obtain ⟨b, off, rfl, hb0, hnodes⟩ := (HI.out.keepB hbel (Nat.le_refl _)).at_ hkr
      obtain ⟨sa, sc, hc0, hc1, hc2, hl, hmx, hints⟩ := node_open (hnodes k hkr)
      obtain ⟨b', off', hab, hbw', hnodesw⟩ := HI.out.at_ hkr
      injection hab with hab
      injection hab with hb' ho'
      subst hb' ho'
      obtain ⟨saw, scw, _, _, hc2w, _, _, hintsw⟩ := node_open (hnodesw k hkr)
      have hsaw : saw = sa := by
        have e := (hbel.cell (p := ⟨b, off + k * 3 + 2, none⟩) hbw').trans hc2w
        rw [hc2] at e
        injection e with e; injection e with e _ _; exact e.symm
      subst hsaw
      clear hnodes hnodesw hc2w
      unfold maxLen at hmx
      obtain ⟨⟨hp0, hp1⟩, hbf, x, y, haft, ⟨hx0, hx1⟩, hy0, hy1⟩ := (ndB_iff _).1 (rv_nd HV.out hkr)
      have HA0 : Hid (gt (gn r k).aft 0 = x) := by show gt (gn r k).aft 0 = x; rw [haft]; rfl
      have HA1 : Hid (gt (gn r k).aft 1 = y) := by show gt (gn r k).aft 1 = y; rw [haft]; rfl
      have hl2 : (gn r k).aft.length = 2 := by rw [haft]; rfl
      rw [haft] at hintsw
      rw [hl2] at hc2 hl
      clear haft hl2
      obtain ⟨b3, o3, rfl, hb3w, hcx, hcy⟩ := ints_two hintsw
      clear hints hintsw
      obtain ⟨wo, rfl⟩ : ∃ x, x = wr := ⟨_, rfl⟩
      have hxp : (gn r k).pos.toNat < 64 := by omega
      have hbz := hbel.size
      go_wp2_with fail
      refine (peerAt_int _ _ _ _ la K _ _ hp0 hp1 (hL.alloc _) (by simp; omega)).mono ?_
      rintro e w1 ⟨p, rfl, hL1, hgot, hg1⟩
      have hbox0 : (wo.alloc (.cells #[.int .i64 (gn r k).pos, .int .i64 (gn r k).bef, .slice (some ⟨b3, o3, none⟩) 2 sc] 28)).heap[wo.heap.size]? = some (.cells #[.int .i64 (gn r k).pos, .int .i64 (gn r k).bef, .slice (some ⟨b3, o3, none⟩) 2 sc] 28 (0, 0)) := heap_alloc_new wo _
      have hclt := hL.clt
      have hbox1 := (hg1.block wo.heap.size (by simp) (by intro e; injection e with e; omega)).trans hbox0
      have hbel1 : Below w.heap.size w w1 := hbel.trans (((Below.refl _ _).alloc hbz _).trans (below_grown hg1 (Nat.le_refl _) (by simp; omega)))
      obtain ⟨hM1, hF1⟩ := hD.get hgot HV.out hkr
      have hlist1 := hlist.mono (kle_get hgot)
      obtain ⟨q0, q1, q2, q3, q4, qf⟩ := hL1.cells hxp hM1.2.1
      have hf1 := qf 1
      have hne : ¬ p.blk = wo.heap.size := box_ne hL1 hxp hM1.2.1 hbox1
      have hne' : ¬ wo.heap.size = p.blk := fun e => hne e.symm
      have x1 : w1.cell? ⟨wo.heap.size, 1, none⟩ = some (.int .i64 (gn r k).bef) := by rw [cell_of_cells hbox1]; rfl
      have x2 : w1.cell? ⟨wo.heap.size, 2, none⟩ = some (.slice (some ⟨b3, o3, none⟩) 2 sc) := by rw [cell_of_cells hbox1]; rfl
      have HBX := Lib.hid hbox1
      have HLT := Lib.hid hlist1
      have HCX : Hid (∀ wi, Below w.heap.size w wi → wi.cell? ⟨b3, o3, none⟩ = some (.int .i64 x) ∧ wi.cell? ⟨b3, o3 + 1, none⟩ = some (.int .i64 y)) := fun wi hwi => by
        refine ⟨(hwi.cell (p := ⟨b3, o3, none⟩) hb3w).trans ?_, (hwi.cell (p := ⟨b3, o3 + 1, none⟩) hb3w).trans ?_⟩
        · exact hcx
        · exact hcy
      clear hbox0 hbox1 hlist hlist1 q0 q2 q3 q4 qf hgot hD
      cases hbe : ((gn r k).bef != -1)
      · have hb1 : (gn r k).bef = -1 := by simpa using hbe
        have hM3 := mid_start hxp hL1 hM1 HLT.out hbel1 hb1 hF1
        clear hb1
        go_wp2
        go_loopw [41] (fun i wi => ∃ m : Nat, m ≤ 2 ∧ i = .int .i64 m ∧ MidAt r w tp la k p.blk m wi) (fun i _ => 2 - (intOf i).toNat)
        case atStart => exact ⟨0, by omega, rfl, hM3⟩
        case round =>
          obtain ⟨m, hm2, rfl, K4, p4, hL4, hM4, hpb4, hlv4, hpt4, hs04, hs14, hl4, hbel4⟩ := hrel
          obtain ⟨wi, rfl⟩ : ∃ x, x = wr := ⟨_, rfl⟩
          obtain ⟨hcx4, hcy4⟩ := HCX.out wi hbel4
          have hbz4 := hbel4.size
          have HPB := Lib.hid hpb4
          have HLV := Lib.hid hlv4
          clear hpb4 hlv4
          by_cases hm0 : m = 0
          · subst hm0
            go_wp2_with fail
            go_region_held3 (fun _ => True) (trivial)
              (first | (go_at_call 62; refine (peerAt_int _ _ _ _ la K4 _ wi.drew hx0 hx1 (hL4.keep (w' := wi.drew) (fun g _ => rfl)) hbz4).mono ?_; rintro e w5 ⟨q5, rfl, hL5, hg5, hgr5⟩; obtain ⟨z0, z1, z2, z3, z4, zf⟩ := hL5.cells hxp (hM4.get hg5).2.1; have hz := z3; have hzf := zf 3; rw [HPB.out] at hz hzf; clear z0 z1 z2 z3 z4 zf))
            go_wp2
            go_roundw
            case rel =>
              have hb5 : Below w.heap.size w w5 := hbel4.trans ((Below.refl _ wi).drew.trans (below_grown hgr5 (Nat.le_refl _) hbz4))
              have hfin := mid_s0 hxp hM4 HLV.out hpt4 (by rw [HA0.out]; exact hL5) (by rw [HA0.out]; exact hg5) hl4 hb5
              rw [HPB.out] at hfin
              exact ⟨1, by omega, by go_num, hfin⟩
            case measure => simp [intOf]
          · by_cases hm1 : m = 1
            · subst hm1
              go_wp2_with fail
              go_region_held3 (fun _ => True) (trivial)
                (first | (go_at_call 62; refine (peerAt_int _ _ _ _ la K4 _ wi.drew hy0 hy1 (hL4.keep (w' := wi.drew) (fun g _ => rfl)) hbz4).mono ?_; rintro e w5 ⟨q5, rfl, hL5, hg5, hgr5⟩; obtain ⟨z0, z1, z2, z3, z4, zf⟩ := hL5.cells hxp (hM4.get hg5).2.1; have hz := z4; have hzf := zf 4; rw [HPB.out] at hz hzf; clear z0 z1 z2 z3 z4 zf))
              go_wp2
              go_roundw
              case rel =>
                have hb5 : Below w.heap.size w w5 := hbel4.trans ((Below.refl _ wi).drew.trans (below_grown hgr5 (Nat.le_refl _) hbz4))
                have hfin := mid_s1 hxp hM4 HLV.out hpt4 (hs04 (by omega)) (by rw [HA1.out]; exact hL5) (by rw [HA1.out]; exact hg5) hl4 hb5
                rw [HPB.out] at hfin
                exact ⟨2, by omega, by go_num, hfin⟩
              case measure => simp [intOf]
            · obtain rfl : m = 2 := by omega
              have hMid : MidAt r w tp la k p.blk 2 wi := ⟨K4, p4, hL4, hM4, HPB.out, HLV.out, hpt4, hs04, hs14, hl4, hbel4⟩
              have hkla : k < la.size := by rw [HLS.out]; exact hlt
              have hcl : wi.cell? ⟨w.heap.size + 1, k, none⟩ = some la[k] := by rw [cell_of_cells hL4.lblk]; exact Array.getElem?_eq_getElem hkla
              have hfl : wi.frozen? ⟨w.heap.size + 1, k, none⟩ = false := frozen_of_cells hL4.lblk k
              clear hs04 hs14
              go_wp2
              go_roundw
              case rel => exact ⟨k + 1, by omega, by go_num, mid_end hMid HLS.out hlt⟩
              case measure => simp [intOf]; omega
      · have hb1 : (gn r k).bef ≠ -1 := by simpa using hbe
        have hb2 : 0 ≤ (gn r k).bef ∧ (gn r k).bef < 64 := by omega
        have hL2 := hL1.put (p' := { p with lv := true }) hxp hM1.2.1 rfl 1 (.bool true) rfl
        have hM2 := hM1.put (p' := { p with lv := true }) rfl
        have hl2 := HLT.out.mono (kle_put hM1.2.1 (p' := { p with lv := true }) rfl)
        have hbel2 := hbel1.setCell (p := ⟨p.blk, 1, none⟩) (hL1.peer _ _ hxp hM1.2.1).2 (.bool true)
        have HB1 := Lib.hid hb1
        have HL2 := Lib.hid hl2
        clear hb1 hl2
        go_wp2_with fail
        refine (peerAt_int _ _ _ _ la _ _ _ hb2.1 hb2.2 hL2 (by simp [World.setCell]; have := hbel1.size; omega)).mono ?_
        rintro e w3 ⟨q, rfl, hL3, hgot3, hg3⟩
        have hbel3 : Below w.heap.size w w3 := hbel2.trans (below_grown hg3 (Nat.le_refl _) hbel2.size)
        have hM3 := mid_before hxp hM2 rfl HB1.out rfl hL3 hgot3 HL2.out hbel3
        have hbox3 := (hg3.block wo.heap.size (by simp [World.setCell]; exact heap_lt HBX.out) (by intro e; injection e with e; omega)).trans ((heap_set_ne w1 _ 1 _ (.bool true) hne').trans HBX.out)
        obtain ⟨q0, q1', q2, q3, q4, qf⟩ := hL3.cells hxp (hM2.get hgot3).2.1
        have hf3 := qf 2
        have y2 : w3.cell? ⟨wo.heap.size, 2, none⟩ = some (.slice (some ⟨b3, o3, none⟩) 2 sc) := by rw [cell_of_cells hbox3]; rfl
        simp only at q2 hf3
        clear hbox3 q0 q1' q3 q4 qf hgot3 
        go_wp2
        go_loopw [41] (fun i wi => ∃ m : Nat, m ≤ 2 ∧ i = .int .i64 m ∧ MidAt r w tp la k p.blk m wi) (fun i _ => 2 - (intOf i).toNat)
        case atStart => exact ⟨0, by omega, rfl, hM3⟩
        case round =>
          obtain ⟨m, hm2, rfl, K4, p4, hL4, hM4, hpb4, hlv4, hpt4, hs04, hs14, hl4, hbel4⟩ := hrel
          obtain ⟨wi, rfl⟩ : ∃ x, x = wr := ⟨_, rfl⟩
          obtain ⟨hcx4, hcy4⟩ := HCX.out wi hbel4
          have hbz4 := hbel4.size
          have HPB := Lib.hid hpb4
          have HLV := Lib.hid hlv4
          clear hpb4 hlv4
          by_cases hm0 : m = 0
          · subst hm0
            go_wp2_with fail
            go_region_held3 (fun _ => True) (trivial)
              (first | (go_at_call 62; refine (peerAt_int _ _ _ _ la K4 _ wi.drew hx0 hx1 (hL4.keep (w' := wi.drew) (fun g _ => rfl)) hbz4).mono ?_; rintro e w5 ⟨q5, rfl, hL5, hg5, hgr5⟩; obtain ⟨z0, z1, z2, z3, z4, zf⟩ := hL5.cells hxp (hM4.get hg5).2.1; have hz := z3; have hzf := zf 3; rw [HPB.out] at hz hzf; clear z0 z1 z2 z3 z4 zf))
            go_wp2
            go_roundw
            case rel =>
              have hb5 : Below w.heap.size w w5 := hbel4.trans ((Below.refl _ wi).drew.trans (below_grown hgr5 (Nat.le_refl _) hbz4))
              have hfin := mid_s0 hxp hM4 HLV.out hpt4 (by rw [HA0.out]; exact hL5) (by rw [HA0.out]; exact hg5) hl4 hb5
              rw [HPB.out] at hfin
              exact ⟨1, by omega, by go_num, hfin⟩
            case measure => simp [intOf]
          · by_cases hm1 : m = 1
            · subst hm1
              go_wp2_with fail
              go_region_held3 (fun _ => True) (trivial)
                (first | (go_at_call 62; refine (peerAt_int _ _ _ _ la K4 _ wi.drew hy0 hy1 (hL4.keep (w' := wi.drew) (fun g _ => rfl)) hbz4).mono ?_; rintro e w5 ⟨q5, rfl, hL5, hg5, hgr5⟩; obtain ⟨z0, z1, z2, z3, z4, zf⟩ := hL5.cells hxp (hM4.get hg5).2.1; have hz := z4; have hzf := zf 4; rw [HPB.out] at hz hzf; clear z0 z1 z2 z3 z4 zf))
              go_wp2
              go_roundw
              case rel =>
                have hb5 : Below w.heap.size w w5 := hbel4.trans ((Below.refl _ wi).drew.trans (below_grown hgr5 (Nat.le_refl _) hbz4))
                have hfin := mid_s1 hxp hM4 HLV.out hpt4 (hs04 (by omega)) (by rw [HA1.out]; exact hL5) (by rw [HA1.out]; exact hg5) hl4 hb5
                rw [HPB.out] at hfin
                exact ⟨2, by omega, by go_num, hfin⟩
              case measure => simp [intOf]
            · obtain rfl : m = 2 := by omega
              have hMid : MidAt r w tp la k p.blk 2 wi := ⟨K4, p4, hL4, hM4, HPB.out, HLV.out, hpt4, hs04, hs14, hl4, hbel4⟩
              have hkla : k < la.size := by rw [HLS.out]; exact hlt
              have hcl : wi.cell? ⟨w.heap.size + 1, k, none⟩ = some la[k] := by rw [cell_of_cells hL4.lblk]; exact Array.getElem?_eq_getElem hkla
              have hfl : wi.frozen? ⟨w.heap.size + 1, k, none⟩ = false := frozen_of_cells hL4.lblk k
              clear hs04 hs14
              go_wp2
              go_roundw
              case rel => exact ⟨k + 1, by omega, by go_num, mid_end hMid HLS.out hlt⟩
              case measure => simp [intOf]; omega
    · go_wp2
      go_ret
      have hkk : k = r.length := by rw [HZ.out]; omega
      refine ⟨K, la, by rw [HZ.out]; rfl, hL, (hkk ▸ hD : Done K r r.length).dn HV.out, hkk ▸ hlist, hbel⟩

set_option maxHeartbeats 1000000 in
theorem link_any (a : Option Addr) (len cap : Nat) (r : List Nd) (w : World) (h : RingAt w a r) (hz : r.length = len) (hv : rvB r = true) :
    Calls Try.prog 55 #[.slice a len cap] w (Linked r w) := by
  have HI := Lib.hid h
  have HZ := Lib.hid hz
  have HV := Lib.hid hv
  clear h hz hv
  go_enter Try.func55, Try.ntmps55
  go_wp2_with fail
  refine (links_any a len cap r w _ _ none (cnone_contacts _ (by rfl)) HI.out HZ.out HV.out).mono ?_
  rintro e w1 ⟨K, la, rfl, hL, hD, hl, hB⟩
  have HN : Hid (Net w1 (w.heap.size + 1) r K) := ⟨_, _, _, la, hL, hD, hl⟩
  clear hL hD hl
  go_wp2
  go_ret
  exact ⟨K, rfl, HN.out, hB⟩
end Go.Proofs.Ytcbbdhmloniolaa
