/- A node joins a network. -/
import Derived.Test.YtndjkokipiikpaaNwIns
namespace Go.Proofs.Ytndjkokipiikpaa
open Go.RowKit
set_option linter.unusedVariables false

theorem join1_any (q p bx : Nat) (x y : Int) (v : Bool) (w : World) (hb : w.cell? ⟨bx, 0, none⟩ = some (.pointer (some ⟨p, 0, none⟩))) (hq : w.cell? ⟨q, 0, none⟩ = some (.int .i64 y)) (hp : w.cell? ⟨p, 0, none⟩ = some (.int .i64 x)) (hv : decide (x < y) = v) :
    Calls Try.prog 132 #[.pointer (some ⟨q, 0, none⟩), .pointer (some ⟨bx, 0, none⟩)] w fun e w' => e = .returned (.bool v) ∧ Same w w' := by
  go_enter Try.func132, Try.ntmps132
  go_wp2
  go_quiet (fail)
  go_wp2
  go_ret
  exact ⟨rfl, (Same.refl _).drewN _⟩

/-- what joining leaves -/
def JoinPost (n : Nat) (r' : List Nd) (b : Bool) (w : World) (e : Ending) (w' : World) : Prop :=
  e = .returned (.bool b) ∧ ∃ L' cap' K', NW w' n L' cap' K' r' ∧ Below n w w'
/-- the world behind the box of the parameter -/
theorem box_new {w w1 : World} {v : Value} (h : w1 = w.alloc (.cells #[v] 84)) : Below w.heap.size w w1 ∧ w1.heap.size = w.heap.size + 1 ∧ w1.heap[w.heap.size]? = some (.cells #[v] 84 (0, 0)) := by
  subst h; exact ⟨(Below.refl _ _).alloc (Nat.le_refl _) _, by simp, heap_alloc_new w _⟩

set_option maxHeartbeats 2000000 in
theorem join_no (n L : Nat) (K : Nat → Option Pr) (r : List Nd) (p q : Pr) (x y : Int) (w : World) (h : NW w n L r.length K r) (ha : arg3 r x y = true) (hp : K x.toNat = some p) (hq : K y.toNat = some q) (hj : joinB r x y = false) :
    Calls Try.prog 119 #[.pointer (some ⟨n, 0, none⟩), .pointer (some ⟨p.blk, 0, none⟩), .pointer (some ⟨q.blk, 0, none⟩)] w (JoinPost n r false w) := by
  have ha' : (safeB r = true ∧ ptB x = true) ∧ ptB y = true := by unfold arg3 at ha; simpa using ha
  have hs := ha'.1.1
  have hv := safe_rv hs
  have hx := (ptB_iff x).1 ha'.1.2
  have hy := (ptB_iff y).1 ha'.2
  have h10 := rv_len hv
  obtain ⟨c0, c1, _, _, _, _, hpl, _⟩ := h.known hv hx hp
  obtain ⟨d0, d1, _, d3, _, _, hql, _⟩ := h.known hv hy hq
  have HN := Lib.hid h
  have hnl := h.lt
  have ht := h.top.1
  obtain ⟨w1, hw1⟩ : ∃ z, z = w.alloc (.cells #[.pointer (some ⟨p.blk, 0, none⟩)] 84) := ⟨_, rfl⟩
  obtain ⟨hB1, hz1, hbx⟩ := box_new hw1
  have b0 : w1.cell? ⟨w.heap.size, 0, none⟩ = some (.pointer (some ⟨p.blk, 0, none⟩)) := by rw [cell_of_cells hbx]; rfl
  have c0' := (hB1.cell (p := ⟨p.blk, 0, none⟩) hpl).trans c0
  have c1' := (hB1.cell (p := ⟨p.blk, 1, none⟩) hpl).trans c1
  have d0' := (hB1.cell (p := ⟨q.blk, 0, none⟩) hql).trans d0
  have d1' := (hB1.cell (p := ⟨q.blk, 1, none⟩) hql).trans d1
  have d3' := (hB1.cell (p := ⟨q.blk, 3, none⟩) hql).trans d3
  have t' := (hB1.cell (p := ⟨n, 64, none⟩) hnl).trans ht
  have HEND : Hid (∀ m, JoinPost n r false w (.returned (.bool false)) (w1.drewN m)) := fun m => ⟨rfl, L, r.length, K, (HN.out.keepB hB1).keep (fun _ _ => rfl), (hB1.mono (by omega)).trans ((Same.refl w1).drewN m |>.below n)⟩
  clear c0 c1 d0 d1 d3 ht hbx
  rcases bool_cases (liveB r x) with hlx | hlx
  rotate_left
  · rw [hlx] at c1'
    clear h hp hq hj hlx ha' hs hv hB1
    subst hw1
    go_enter Try.func119, Try.ntmps119
    go_wp2
    go_quiet (fail)
    go_wp2
    go_ret
    exact HEND.out _
  rw [hlx] at c1'
  rcases bool_cases (liveB r y) with hly | hly
  · rw [hly] at d1'
    clear h hp hq hj hlx hly ha' hs hv hB1
    subst hw1
    go_enter Try.func119, Try.ntmps119
    go_wp2
    go_quiet (fail)
    go_wp2
    go_ret
    exact HEND.out _
  rw [hly] at d1'
  obtain ⟨hky, hkp, _⟩ := idx_live hly
  obtain ⟨f0, f1, g0, g1, e0, e1, _⟩ := h.cells hv hky (p := q) (by rw [hkp]; exact hq)
  have hfr := (nd_open hv hky).2.2.1
  obtain ⟨m0, _, _, _, _, _, hfl, _⟩ := h.known hv hfr g0
  have m0' := (hB1.cell (p := ⟨f0.blk, 0, none⟩) hfl).trans m0
  rw [e0] at d3'
  simp only [Pr.ad] at d3'
  clear m0 g0 g1 e0 e1
  by_cases hlen : 10 ≤ r.length
  · have dl : decide ((10 : Int) ≤ (r.length : Int)) = true := by simp; omega
    clear h hp hq hj hlx hly ha' hs hv hB1 hkp
    subst hw1
    go_enter Try.func119, Try.ntmps119
    go_wp2
    go_quiet (fail)
    go_wp2
    go_ret
    exact HEND.out _
  have dl : decide ((10 : Int) ≤ (r.length : Int)) = false := by simp; omega
  have HBT : Hid (btwI y x (gt (gn r (idxR r y)).aft 0) = false) := by
    show _ = _
    unfold joinB at hj
    rw [hly, hlx, decide_eq_true (show r.length < 10 by omega)] at hj
    have h1 : btwI y x (first r (idxR r y)) = false := by simpa using hj
    exact h1
  clear h hp hq hj hlx hly ha' hs hv hB1 hkp
  subst hw1
  go_enter Try.func119, Try.ntmps119
  go_wp2
  go_quiet ((go_at_call 78; exact Calls.quiet_of_same (calls_flip (between_as _ _ _ _ _ hy.1 hy.2 hx.1 hx.2 hfr.1 hfr.2 HBT.out))))
  go_wp2
  go_ret
  exact HEND.out _

/-- all that a peer knows is stored -/
theorem LK.put4 {w : World} {base c L x : Nat} {tp : Option Value} {la : Array Value} {K : Nat → Option Pr} {p : Pr} (h : LK w base c tp L la K) (hx : x < 64) (hp : K x = some p) (u : Bool) (b s0 s1 : Option Addr) :
    LK ((((w.setCell ⟨p.blk, 1, none⟩ (.bool u)).setCell ⟨p.blk, 2, none⟩ (.pointer b)).setCell ⟨p.blk, 3, none⟩ (.pointer s0)).setCell ⟨p.blk, 4, none⟩ (.pointer s1)) base c tp L la (setK K x ⟨p.blk, u, b, s0, s1⟩) := by
  have h1 := h.put (p' := { p with lv := u }) hx hp rfl 1 (.bool u) rfl
  have h2 := h1.put (p := { p with lv := u }) (p' := { p with lv := u, b := b }) hx (setK_at _ _ _) rfl 2 (.pointer b) rfl
  have h3 := h2.put (p := { p with lv := u, b := b }) (p' := { p with lv := u, b := b, s0 := s0 }) hx (setK_at _ _ _) rfl 3 (.pointer s0) rfl
  have h4 := h3.put (p := { p with lv := u, b := b, s0 := s0 }) (p' := ⟨p.blk, u, b, s0, s1⟩) hx (setK_at _ _ _) rfl 4 (.pointer s1) rfl
  have e : ∀ (K : Nat → Option Pr) (a b : Pr), setK (setK K x a) x b = setK K x b := fun K a b => by funext y; unfold setK; split <;> rfl
  rw [e, e, e] at h4
  exact h4
/-- a network with one node more -/
theorem dn_ins {K : Nat → Option Pr} {r : List Nd} {m : Nat} {nd : Nd} {p : Pr} (h : Dn K r) (hv : rvB r = true) (hm : m ≤ r.length) (hd : liveB r nd.pos = false) (hx : 0 ≤ nd.pos ∧ nd.pos < 64) (hp : K nd.pos.toNat = some p) (p' : Pr) (hb : p'.blk = p.blk) (hn : DoneN (setK K nd.pos.toNat p') nd p') : Dn (setK K nd.pos.toNat p') (insR r m nd) := by
  have hle : KLe K (setK K nd.pos.toNat p') := kle_put hp hb
  have hne : ∀ i, i < r.length → (gn r i).pos.toNat ≠ nd.pos.toNat := fun i hi e => by
    have h1 := (nd_open hv hi).1
    exact (live_no _ _).1 hd i hi (by omega)
  have hl := ins_len (r := r) (n := nd) hm
  refine ⟨fun i hi => ?_, fun x q hq hno => ?_⟩
  · rcases ins_all (n := nd) hm (j := i) (by omega) with e | ⟨j, hj, e⟩
    · rw [e]; exact ⟨p', setK_at _ _ _, hn⟩
    · rw [e]
      obtain ⟨q, hq, hdn⟩ := h.1 j hj
      exact ⟨q, by rw [setK_ne _ (hne j hj)]; exact hq, hdn.mono hle⟩
  · by_cases e : x = nd.pos.toNat
    · exfalso
      have := hno m (by omega)
      rw [ins_at hm (by omega), if_neg (by omega), if_pos rfl] at this
      exact this e.symm
    · rw [setK_ne _ e] at hq
      refine h.2 x q hq (fun j hj ej => ?_)
      obtain ⟨j', hj', e'⟩ := ins_old (n := nd) hm hj
      have := hno j' (by omega)
      rw [e'] at this
      exact this ej

set_option maxHeartbeats 4000000 in
theorem join_yes (n L : Nat) (K : Nat → Option Pr) (r : List Nd) (p q : Pr) (x y : Int) (w : World) (h : NW w n L r.length K r) (ha : arg3 r x y = true) (hp : K x.toNat = some p) (hq : K y.toNat = some q) (hj : joinB r x y = true) :
    Calls Try.prog 119 #[.pointer (some ⟨n, 0, none⟩), .pointer (some ⟨p.blk, 0, none⟩), .pointer (some ⟨q.blk, 0, none⟩)] w (JoinPost n (insR r (cntR r x) (joinN r x y)) true w) := by
  have ha' : (safeB r = true ∧ ptB x = true) ∧ ptB y = true := by unfold arg3 at ha; simpa using ha
  have hs := ha'.1.1
  have hv := safe_rv hs
  have hx := (ptB_iff x).1 ha'.1.2
  have hy := (ptB_iff y).1 ha'.2
  have hj' : ((liveB r y = true ∧ liveB r x = false) ∧ r.length < 10) ∧ btwI y x (first r (idxR r y)) = true := by unfold joinB at hj; simpa using hj
  obtain ⟨⟨⟨hly, hlx⟩, hlen⟩, hbt⟩ := hj'
  obtain ⟨_, _, hnd, hio, hsafe⟩ := join_pre ha hj
  obtain ⟨c0, c1, c2, c3, c4, cf, hpl, hpn, _⟩ := h.known hv hx hp
  obtain ⟨d0, d1, _, d3, d4, _, hql, hqn, _⟩ := h.known hv hy hq
  obtain ⟨hky, hkp, _⟩ := idx_live hly
  obtain ⟨f0, f1, g0, g1, e0, e1, _⟩ := h.cells hv hky (p := q) (by rw [hkp]; exact hq)
  have hfr := (nd_open hv hky).2.2.1
  obtain ⟨m0, _, _, _, _, _, hfl, _⟩ := h.known hv hfr g0
  rw [hlx] at c1
  rw [hly] at d1
  rw [e0] at d3
  rw [e1] at d4
  simp only [Pr.ad] at d3 d4
  have HN := Lib.hid h
  have hnl := h.lt
  have ht := h.top.1
  have hpq : p.blk ≠ q.blk := fun e => by
    have := (h.eq hx hy hp hq).1 e
    rw [this, hly] at hlx; cases hlx
  obtain ⟨w1, hw1⟩ : ∃ z, z = w.alloc (.cells #[.pointer (some ⟨p.blk, 0, none⟩)] 84) := ⟨_, rfl⟩
  obtain ⟨hB1, hz1, hbx⟩ := box_new hw1
  have b0 : w1.cell? ⟨w.heap.size, 0, none⟩ = some (.pointer (some ⟨p.blk, 0, none⟩)) := by rw [cell_of_cells hbx]; rfl
  have c0' := (hB1.cell (p := ⟨p.blk, 0, none⟩) hpl).trans c0
  have c1' := (hB1.cell (p := ⟨p.blk, 1, none⟩) hpl).trans c1
  have c2' := (hB1.cell (p := ⟨p.blk, 2, none⟩) hpl).trans c2
  have c3' := (hB1.cell (p := ⟨p.blk, 3, none⟩) hpl).trans c3
  have c4' := (hB1.cell (p := ⟨p.blk, 4, none⟩) hpl).trans c4
  have k1 : w1.frozen? ⟨p.blk, 1, none⟩ = false := (hB1.frozen (p := ⟨p.blk, 1, none⟩) hpl).trans (cf 1)
  have k2 : w1.frozen? ⟨p.blk, 2, none⟩ = false := (hB1.frozen (p := ⟨p.blk, 2, none⟩) hpl).trans (cf 2)
  have k3 : w1.frozen? ⟨p.blk, 3, none⟩ = false := (hB1.frozen (p := ⟨p.blk, 3, none⟩) hpl).trans (cf 3)
  have k4 : w1.frozen? ⟨p.blk, 4, none⟩ = false := (hB1.frozen (p := ⟨p.blk, 4, none⟩) hpl).trans (cf 4)
  have d0' := (hB1.cell (p := ⟨q.blk, 0, none⟩) hql).trans d0
  have d1' := (hB1.cell (p := ⟨q.blk, 1, none⟩) hql).trans d1
  have d3' := (hB1.cell (p := ⟨q.blk, 3, none⟩) hql).trans d3
  have d4' := (hB1.cell (p := ⟨q.blk, 4, none⟩) hql).trans d4
  have t' := (hB1.cell (p := ⟨n, 64, none⟩) hnl).trans ht
  have m0' := (hB1.cell (p := ⟨f0.blk, 0, none⟩) hfl).trans m0
  have dl : decide ((10 : Int) ≤ (r.length : Int)) = false := by simp; omega
  have HBT : Hid (btwI y x (gt (gn r (idxR r y)).aft 0) = true) := hbt
  have HP := Lib.hid hp
  have HQ := Lib.hid hq
  have HV := Lib.hid hv
  have HG := Lib.hid (And.intro g0 g1)
  have HIO := Lib.hid hio
  have HVI := Lib.hid (safe_rv hsafe)
  have HLX := Lib.hid hlx
  have HB1 := Lib.hid hB1
  have HBX := Lib.hid hbx
  clear h hp hq hj hlx hly ha' hs hv hB1 hkp c0 c1 c2 c3 c4 cf d0 d1 d3 d4 m0 ht hbt hnd hio hsafe e0 e1 g0 g1 hbx
  have hmf : ∀ (fn : Fn) (first cap : Array Value) (w : World), (Instr.makeFunc fn first cap).run Try.prog w = .ok (.func fn first cap) w := fun _ _ _ _ => rfl
  subst hw1
  go_enter Try.func119, Try.ntmps119
  go_wp2
  go_quiet ((go_at_call 78; exact Calls.quiet_of_same (calls_flip (between_as _ _ _ _ _ hy.1 hy.2 hx.1 hx.2 hfr.1 hfr.2 HBT.out))))
  go_wp2
  go_region
  obtain ⟨la, l1, l2, l3⟩ := HN.out
  have hL1 : LK ((w.alloc (.cells #[.pointer (some ⟨p.blk, 0, none⟩)] 84)).drewN (nq + 1)) n n (some (.slice (some ⟨L, 0, none⟩) r.length r.length)) L la K := (l1.keep (fun g hg => HB1.out.block g hg)).keep (fun _ _ => rfl)
  have hL2 := hL1.put4 (x := x.toNat) (by omega) HP.out true (some ⟨q.blk, 0, none⟩) (some ⟨f0.blk, 0, none⟩) (some ⟨f1.blk, 0, none⟩)
  generalize hw2 : (((((w.alloc (.cells #[.pointer (some ⟨p.blk, 0, none⟩)] 84)).drewN (nq + 1)).setCell ⟨p.blk, 1, none⟩ (.bool true)).setCell ⟨p.blk, 2, none⟩ (.pointer (some ⟨q.blk, 0, none⟩))).setCell ⟨p.blk, 3, none⟩ (.pointer (some ⟨f0.blk, 0, none⟩))).setCell ⟨p.blk, 4, none⟩ (.pointer (some ⟨f1.blk, 0, none⟩)) = w2 at hL2 ⊢
  have hbx2 : w2.heap[w.heap.size]? = some (.cells #[.pointer (some ⟨p.blk, 0, none⟩)] 84 (0, 0)) := by
    rw [← hw2]
    exact (heap_set_ne _ _ _ _ _ (by omega)).trans ((heap_set_ne _ _ _ _ _ (by omega)).trans ((heap_set_ne _ _ _ _ _ (by omega)).trans ((heap_set_ne _ _ _ _ _ (by omega)).trans HBX.out)))
  have hB2 : Below n w w2 := by
    rw [← hw2]
    exact (((((HB1.out.mono (by omega)).trans ((Same.refl _).drewN (nq + 1) |>.below n)).setCell (p := ⟨p.blk, 1, none⟩) hpn _).setCell (p := ⟨p.blk, 2, none⟩) hpn _).setCell (p := ⟨p.blk, 3, none⟩) hpn _).setCell (p := ⟨p.blk, 4, none⟩) hpn _
  have hz2 : w2.heap.size = w.heap.size + 1 := by rw [← hw2]; simp [World.setCell]
  clear c0' c1' c2' c3' c4' k1 k2 k3 k4 d0' d1' d3' d4' t' m0' b0 dl hL1
  clear hw2
  obtain ⟨K2, hK2⟩ : ∃ K2, K2 = setK K x.toNat ⟨p.blk, true, some ⟨q.blk, 0, none⟩, some ⟨f0.blk, 0, none⟩, some ⟨f1.blk, 0, none⟩⟩ := ⟨_, rfl⟩
  rw [← hK2] at hL2
  have hne : ∀ i, i < r.length → (gn r i).pos.toNat ≠ x.toNat := fun i hi e => by
    have h1 := (nd_open HV.out hi).1
    exact (live_no _ _).1 HLX.out i hi (by omega)
  have HK2 : Hid (∀ i, i < r.length → K2 (gn r i).pos.toNat = some (prOf K r i)) := fun i hi => by
    obtain ⟨z, hz, _⟩ := l2.1 i hi
    rw [hK2, setK_ne _ (hne i hi), prOf_eq hz]; exact hz
  have HROW : Hid (PRow w2 L r.length (psOf K r)) := by
    show PRow _ _ _ _
    refine ⟨la, hL2.lblk, fun j hj => ?_⟩
    obtain ⟨z, hz, e⟩ := l3 j hj
    rw [e]; simp [psOf, Pr.ad, prOf_eq hz]
  have hxx : K2 x.toNat = some ⟨p.blk, true, some ⟨q.blk, 0, none⟩, some ⟨f0.blk, 0, none⟩, some ⟨f1.blk, 0, none⟩⟩ := by rw [hK2]; exact setK_at _ _ _
  have HCL : Hid (∀ j, j < r.length → ∀ wr, Same w2 wr → Calls Try.prog 132 #[.pointer (psOf K r j), .pointer (some ⟨w.heap.size, 0, none⟩)] wr fun e w' => e = .returned (.bool (decide (x < (gn r j).pos))) ∧ Same wr w') := fun j hj wr hsm => by
    have h1 := (nd_open HV.out hj).1
    have z1 := (hL2.cells (by omega) (HK2.out j hj)).1
    have z2 := (hL2.cells (by omega) hxx).1
    rw [show (((gn r j).pos.toNat : Nat) : Int) = (gn r j).pos by omega] at z1
    rw [show ((x.toNat : Nat) : Int) = x by omega] at z2
    refine join1_any (prOf K r j).blk p.blk w.heap.size x (gn r j).pos _ wr ?_ ((hsm.cell _).trans z1) ((hsm.cell _).trans z2) rfl
    rw [hsm.cell, cell_of_cells hbx2]; rfl
  have HKE := Lib.hid hK2
  have HL2 := Lib.hid hL2
  have HD := Lib.hid l2
  have HBX2 := Lib.hid hbx2
  have HXX := Lib.hid hxx
  obtain ⟨t2, t2f⟩ := hL2.topcell
  clear l1 l2 l3 hL2 hK2 hne hbx2 hxx HB1 HBX
  go_wp2_with fail
  refine (idxJoin_any (fun j => decide (x < (gn r j).pos)) L r.length r.length _ (psOf K r) w2 HROW.out (by omega) HCL.out).mono ?_
  rintro e w3 ⟨⟨k, hk, hall, hor⟩, hs3⟩
  have HCNT : Hid (cntR r x = k) := by
    show _ = _
    refine cnt_unique hk (fun i hi => ?_) (fun hlt => ?_)
    · have h1 : ¬ x < (gn r i).pos := by simpa using hall i hi
      have h2 : (gn r i).pos ≠ x := (live_no _ _).1 HLX.out i (by omega)
      omega
    · rcases hor with ⟨_, h2, _⟩ | ⟨h1, _⟩
      · have : x < (gn r k).pos := by simpa using h2
        omega
      · omega
  have HKL := Lib.hid hk
  clear hall HCL
  have hB3 : Below n w w3 := hB2.trans (hs3.below n)
  have HL3 := Lib.hid (HL2.out.same hs3)
  have HROW3 := Lib.hid (HROW.out.kept (w' := w3) (by rw [hs3.heap]))
  have t3 : w3.cell? ⟨n, 64, none⟩ = some (.slice (some ⟨L, 0, none⟩) r.length r.length) := (hs3.cell _).trans t2
  have b3 : w3.cell? ⟨w.heap.size, 0, none⟩ = some (.pointer (some ⟨p.blk, 0, none⟩)) := by rw [hs3.cell, cell_of_cells HBX2.out]; rfl
  have hz3 : w3.heap.size = w.heap.size + 1 := by rw [hs3.heap]; exact hz2
  have HFIN : Hid (∀ N c w5 w6, w3.heap.size ≤ N → r.length + 1 ≤ c → Below w3.heap.size w3 w5 → PRow w5 N (r.length + 1) (insP (psOf K r) k (some ⟨p.blk, 0, none⟩)) → w6 = w5.setCell ⟨n, 64, none⟩ (.slice (some ⟨N, 0, none⟩) (r.length + 1) c) → JoinPost n (insR r (cntR r x) (joinN r x y)) true w (.returned (.bool true)) w6) := fun N c w5 w6 hN hc hb5 hrow5 hw6 => by
    subst hw6
    have hkk := HKL.out
    have hjp : (joinN r x y).pos = x := rfl
    have hil := ins_len (r := r) (n := joinN r x y) hkk
    obtain ⟨la5, h51, h52⟩ := hrow5
    have hDn : Dn K2 (insR r k (joinN r x y)) := by
      rw [HKE.out]
      have := dn_ins (nd := joinN r x y) HD.out HV.out hkk HLX.out hx HP.out ⟨p.blk, true, some ⟨q.blk, 0, none⟩, some ⟨f0.blk, 0, none⟩, some ⟨f1.blk, 0, none⟩⟩ rfl ?_
      · exact this
      · have hle : KLe K (setK K x.toNat ⟨p.blk, true, some ⟨q.blk, 0, none⟩, some ⟨f0.blk, 0, none⟩, some ⟨f1.blk, 0, none⟩⟩) := kle_put HP.out rfl
        exact ⟨rfl, PtrTo.mono (.inr ⟨by show y ≠ -1; omega, q, HQ.out, rfl⟩) hle, PtrOf.mono ⟨f0, HG.out.1, rfl⟩ hle, PtrOf.mono ⟨f1, HG.out.2, rfl⟩ hle⟩
    have hLi : ListOk K2 (insR r k (joinN r x y)) la5 (insR r k (joinN r x y)).length := fun j hj => by
      rw [hil] at hj
      rw [ins_at hkk hj, h52 j hj]
      unfold insP
      by_cases h1 : j < k
      · rw [if_pos h1, if_pos h1]; exact ⟨_, HK2.out j (by omega), rfl⟩
      · rw [if_neg h1, if_neg h1]
        by_cases h2 : j = k
        · rw [if_pos h2, if_pos h2]; exact ⟨_, HXX.out, rfl⟩
        · rw [if_neg h2, if_neg h2]; exact ⟨_, HK2.out (j - 1) (by omega), rfl⟩
    have hL5 : LK w5 n n (some (.slice (some ⟨L, 0, none⟩) r.length r.length)) N la5 K2 := (HL3.out.keep (fun g hg => hb5.block g hg)).relist h51 (by omega)
    rw [HCNT.out]
    refine ⟨rfl, N, c, K2, ⟨la5, ?_, hDn, hLi⟩, (hB3.trans (hb5.mono (by omega))).setCell (p := ⟨n, 64, none⟩) (Nat.le_refl _) _⟩
    rw [hil]
    exact hL5.top (tp := none) _
  clear t2 t2f hB2
  have hBA : ∀ o, Below w3.heap.size w3 (w3.drew.alloc o) := fun o => (Below.refl _ _).drew.alloc (Nat.le_refl _) o
  have tA : ∀ o, (w3.drew.alloc o).cell? ⟨n, 64, none⟩ = some (.slice (some ⟨L, 0, none⟩) r.length r.length) := fun o => ((hBA o).cell (p := ⟨n, 64, none⟩) (show n < w3.heap.size by omega)).trans t3
  have bA : ∀ o, (w3.drew.alloc o).cell? ⟨w.heap.size, 0, none⟩ = some (.pointer (some ⟨p.blk, 0, none⟩)) := fun o => ((hBA o).cell (p := ⟨w.heap.size, 0, none⟩) (show w.heap.size < w3.heap.size by omega)).trans b3
  have tA' : ∀ o, (w3.alloc o).cell? ⟨n, 64, none⟩ = some (.slice (some ⟨L, 0, none⟩) r.length r.length) := fun o => tA o
  have bA' : ∀ o, (w3.alloc o).cell? ⟨w.heap.size, 0, none⟩ = some (.pointer (some ⟨p.blk, 0, none⟩)) := fun o => bA o
  have HINS : Hid (∀ W V, Below w3.heap.size w3 W → W.heap[V]? = some (.cells #[.pointer (some ⟨p.blk, 0, none⟩)] 84 (0, 0)) → Calls Try.prog 133 #[.slice (some ⟨L, 0, none⟩) r.length r.length, .int .i64 k, .slice (some ⟨V, 0, none⟩) 1 1] W fun e w5 =>
      ∃ N c, e = .returned (.slice (some ⟨N, 0, none⟩) (r.length + 1) c) ∧ w3.heap.size ≤ N ∧ r.length + 1 ≤ c ∧ Below w3.heap.size w3 w5 ∧ PRow w5 N (r.length + 1) (insP (psOf K r) k (some ⟨p.blk, 0, none⟩)) ∧ w5.cell? ⟨n, 64, none⟩ = some (.slice (some ⟨L, 0, none⟩) r.length r.length) ∧ w5.frozen? ⟨n, 64, none⟩ = false ∧ w5.cell? ⟨w.heap.size, 0, none⟩ = some (.pointer (some ⟨p.blk, 0, none⟩))) := fun W V hbW hV => by
    have hLl : L < w3.heap.size := by obtain ⟨la, h1, _⟩ := HROW3.out; exact heap_lt h1
    refine (insert_any L V r.length k (psOf K r) (some ⟨p.blk, 0, none⟩) W (HROW3.out.kept (hbW.block L hLl)) (by rw [cell_of_cells hV]; rfl) (by omega) HKL.out).mono ?_
    rintro e w5 ⟨N, c, rfl, h1, h2, h3, h4, h5⟩
    have hb5 : Below w3.heap.size w3 w5 := hbW.trans (h5.mono hbW.size)
    exact ⟨N, c, rfl, Nat.le_trans hbW.size h4, h1, hb5, h3, (hb5.cell (p := ⟨n, 64, none⟩) (show n < w3.heap.size by omega)).trans t3, (hb5.frozen (p := ⟨n, 64, none⟩) (show n < w3.heap.size by omega)).trans HL3.out.topcell.2, (hb5.cell (p := ⟨w.heap.size, 0, none⟩) (show w.heap.size < w3.heap.size by omega)).trans b3⟩
  have HINS2 := Lib.hid (HINS.out (w3.drew.alloc (.cells #[.pointer (some ⟨p.blk, 0, none⟩)] 84)) w3.heap.size (hBA _) (heap_alloc_new w3.drew _))
  have hlt3 : w.heap.size < w3.heap.size := by omega
  clear hBA hz2 hz3 hz1
  rcases hor with ⟨hkl, _, rfl⟩ | ⟨hkl, rfl⟩
  · have v0 : decide ((k : Int) < 0) = false := by simp
    go_wp2_with fail
    go_region_with ((go_at_call 133; refine HINS2.out.mono ?_; rintro e w5 ⟨N5, c5, rfl, hN5, hc5, hb5, hrow5, t5, tf5, b5⟩; have HROW5 := Lib.hid hrow5; clear hrow5))
    all_goals
      go_wp2
      go_ret
      exact HFIN.out N5 c5 w5 _ hN5 hc5 hb5 HROW5.out rfl
  · subst hkl
    go_wp2_with fail
    go_region_with ((go_at_call 133; refine HINS2.out.mono ?_; rintro e w5 ⟨N5, c5, rfl, hN5, hc5, hb5, hrow5, t5, tf5, b5⟩; have HROW5 := Lib.hid hrow5; clear hrow5))
    all_goals
      go_wp2
      go_ret
      exact HFIN.out N5 c5 w5 _ hN5 hc5 hb5 HROW5.out rfl
end Go.Proofs.Ytndjkokipiikpaa
