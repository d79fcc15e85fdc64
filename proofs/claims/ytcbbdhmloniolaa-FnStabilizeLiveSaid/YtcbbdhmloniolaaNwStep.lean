/- Steps of a network: follow, wants, drop, adopt, closer, notify. -/
import Derived.Test.YtcbbdhmloniolaaNw
import Derived.Handy
import Derived.IntWalk
namespace Go.Proofs.Ytcbbdhmloniolaa
open Go.RowKit
set_option linter.unusedVariables false

set_option maxHeartbeats 400000 in
theorem follow_any (g s : Nat) (u0 u1 v : Option Addr) (w : World) (c3 : w.cell? ⟨s, 3, none⟩ = some (.pointer v)) (d3 : w.cell? ⟨g, 3, none⟩ = some (.pointer u0)) (d4 : w.cell? ⟨g, 4, none⟩ = some (.pointer u1)) (df : ∀ i, w.frozen? ⟨g, i, none⟩ = false) :
    Calls Try.prog 106 #[.pointer (some ⟨g, 0, none⟩), .pointer (some ⟨s, 0, none⟩)] w fun e w' => e = .returned (.tuple #[]) ∧ w' = (w.setCell ⟨g, 3, none⟩ (.pointer (some ⟨s, 0, none⟩))).setCell ⟨g, 4, none⟩ (.pointer v) := by
  have f3 := df 3
  have f4 := df 4
  clear df
  go_enter Try.func106, Try.ntmps106
  go_wp2
  go_returns
  exact ⟨rfl, rfl⟩

theorem cell_34 {w : World} {g b i : Nat} {u v : Value} (h : i < 3) : ((w.setCell ⟨g, 3, none⟩ u).setCell ⟨g, 4, none⟩ v).cell? ⟨b, i, none⟩ = w.cell? ⟨b, i, none⟩ := by
  rw [World.cell?_setCell_other _ ⟨g, 4, none⟩ ⟨b, i, none⟩ v (by intro e; injection e with _ e; omega), World.cell?_setCell_other _ ⟨g, 3, none⟩ ⟨b, i, none⟩ u (by intro e; injection e with _ e; omega)]

set_option maxHeartbeats 1000000 in
theorem wants_nil (g go : Nat) (w : World) (c2 : w.cell? ⟨g, 2, none⟩ = some (.pointer none)) :
    Calls Try.prog 107 #[.pointer (some ⟨g, 0, none⟩), .pointer (some ⟨go, 0, none⟩)] w fun e w' => e = .returned (.bool true) ∧ Same w w' := by
  go_enter Try.func107, Try.ntmps107
  go_wp2
  go_quiet (fail)
  go_wp2
  go_ret
  exact ⟨rfl, (Same.refl _).drewN _⟩

theorem pnil2 (w : World) (b : Nat) : (binOp .eql 74 (.pointer (some ⟨b, 0, none⟩)) (.pointer none)).run Try.prog w = .ok (.bool false) w := by
  have h : ∀ d : Nat, (Op.equalIn (d + 1) 74 (.pointer (some ⟨b, 0, none⟩)) (.pointer none)).run Try.prog w = .ok false w := fun d => by
    simp [Op.equalIn, run_underlying Try.underlying74]
  simp only [binOp]
  simp [Op.equal, Op.maxDepth, h 9999]

set_option maxHeartbeats 1000000 in
theorem wants_dead (g go gb : Nat) (w : World) (c2 : w.cell? ⟨g, 2, none⟩ = some (.pointer (some ⟨gb, 0, none⟩))) (c1 : w.cell? ⟨gb, 1, none⟩ = some (.bool false)) :
    Calls Try.prog 107 #[.pointer (some ⟨g, 0, none⟩), .pointer (some ⟨go, 0, none⟩)] w fun e w' => e = .returned (.bool true) ∧ Same w w' := by
  have hcmp : ∀ n, (binOp .eql 74 (.pointer (some ⟨gb, 0, none⟩)) (.pointer none)).run Try.prog (w.drewN n) = .ok (.bool false) (w.drewN n) := fun n => pnil2 _ gb
  go_enter Try.func107, Try.ntmps107
  go_wp2
  go_quiet (fail)
  go_wp2
  go_ret
  exact ⟨rfl, (Same.refl _).drewN _⟩

set_option maxHeartbeats 1000000 in
theorem wants_live (g go gb : Nat) (b o p : Int) (v : Bool) (w : World) (c2 : w.cell? ⟨g, 2, none⟩ = some (.pointer (some ⟨gb, 0, none⟩))) (c1 : w.cell? ⟨gb, 1, none⟩ = some (.bool true))
    (c0 : w.cell? ⟨g, 0, none⟩ = some (.int .i64 p)) (cb : w.cell? ⟨gb, 0, none⟩ = some (.int .i64 b)) (co : w.cell? ⟨go, 0, none⟩ = some (.int .i64 o)) (hp : 0 ≤ p ∧ p < 64) (hb : 0 ≤ b ∧ b < 64) (ho : 0 ≤ o ∧ o < 64) (hv : btwI b o p = v) :
    Calls Try.prog 107 #[.pointer (some ⟨g, 0, none⟩), .pointer (some ⟨go, 0, none⟩)] w fun e w' => e = .returned (.bool v) ∧ Same w w' := by
  have hcmp : ∀ n, (binOp .eql 74 (.pointer (some ⟨gb, 0, none⟩)) (.pointer none)).run Try.prog (w.drewN n) = .ok (.bool false) (w.drewN n) := fun n => pnil2 _ gb
  have HV := Lib.hid hv
  clear hv
  go_enter Try.func107, Try.ntmps107
  go_wp2
  go_quiet ((go_at_call 99; exact Calls.quiet_of_same (calls_flip (between_as _ _ _ _ _ hb.1 hb.2 ho.1 ho.2 hp.1 hp.2 HV.out))))
  go_wp2
  go_ret
  exact ⟨rfl, (Same.refl _).drewN _⟩

theorem wants_any (n L cap : Nat) (K : Nat → Option Pr) (r : List Nd) (k : Nat) (p q : Pr) (o : Int) (w : World) (h : NW w n L cap K r) (hv : rvB r = true) (hk : k < r.length) (hp : K (gn r k).pos.toNat = some p) (ho : 0 ≤ o ∧ o < 64) (hq : K o.toNat = some q) :
    Calls Try.prog 107 #[.pointer p.ad, .pointer q.ad] w fun e w' => e = .returned (.bool (!keepB r (gn r k) o)) ∧ Same w w' := by
  obtain ⟨hpp, hbf, _⟩ := nd_open hv hk
  obtain ⟨p', q0, q1, hp', hlv, hb, e0, e1, h0, h1⟩ := h.node hv hk
  rw [hp] at hp'; injection hp' with hp'; subst hp'
  obtain ⟨c0, c1, c2, c3, c4, cf, _⟩ := h.known hv hpp hp
  obtain ⟨d0, d1, _⟩ := h.known hv ho hq
  rcases hb with ⟨hb, eb⟩ | ⟨hb, qb, hqb, eb⟩
  · rw [eb] at c2
    have : (!keepB r (gn r k) o) = true := by simp [keepB, hb]
    rw [this]
    exact wants_nil _ _ w c2
  · rw [eb] at c2
    have hbr : 0 ≤ (gn r k).bef ∧ (gn r k).bef < 64 := by omega
    obtain ⟨b0, b1, _⟩ := h.known hv hbr hqb
    rcases (show liveB r (gn r k).bef = true ∨ liveB r (gn r k).bef = false by cases liveB r (gn r k).bef <;> simp) with hl | hl
    · rw [hl] at b1
      have : (!keepB r (gn r k) o) = btwI (gn r k).bef o (gn r k).pos := by simp [keepB, hl, hbr.1]
      rw [this]
      exact wants_live _ _ _ _ _ _ _ w c2 b1 c0 b0 d0 hpp hbr ho rfl
    · rw [hl] at b1
      have : (!keepB r (gn r k) o) = true := by simp [keepB, hl]
      rw [this]
      exact wants_dead _ _ _ w c2 b1

theorem StepPost.stay {n L cap : Nat} {K : Nat → Option Pr} {r : List Nd} {b : Bool} {w w' : World} (h : NW w n L cap K r) (hb : Below w.heap.size w w') : StepPost n L cap K r b w (.returned (.bool b)) w' :=
  ⟨rfl, K, h.keepB hb, KLe.refl _, hb.mono (by have := h.lt; omega), Fr.kept hb⟩
theorem below_two {B g i j : Nat} {w : World} {u v : Value} (h : B ≤ g) : Below B w ((w.setCell ⟨g, i, none⟩ u).setCell ⟨g, j, none⟩ v) :=
  ((Below.refl B w).setCell (p := ⟨g, i, none⟩) h u).setCell (p := ⟨g, j, none⟩) h v
/-- both successors are stored -/
theorem NW.follow {w : World} {n L cap : Nat} {K : Nat → Option Pr} {r : List Nd} (h : NW w n L cap K r) (hv : rvB r = true) {k : Nat} (hk : k < r.length) {p q q1 : Pr} {x y : Int} (hp : K (gn r k).pos.toNat = some p) (hq : K x.toNat = some q) (hq1 : K y.toNat = some q1) :
    ∃ K', NW ((w.setCell ⟨p.blk, 3, none⟩ (.pointer q.ad)).setCell ⟨p.blk, 4, none⟩ (.pointer q1.ad)) n L cap K' (r.set k (wAft (gn r k) x y)) ∧ KLe K K' ∧ Back K K' := by
  obtain ⟨hpp, _⟩ := nd_open hv hk
  obtain ⟨p', _, _, hp', hlv, hb, _⟩ := h.node hv hk
  rw [hp] at hp'; injection hp' with hp'; subst hp'
  suffices hsu : _ from ⟨_, (NW.set h hv hk (p := p) (p' := { p with s0 := q.ad, s1 := q1.ad }) (nd := wAft (gn r k) x y) hp rfl hlv rfl hb ⟨q, hq, rfl⟩ ⟨q1, hq1, rfl⟩ hsu).1, (NW.set h hv hk (p := p) (p' := { p with s0 := q.ad, s1 := q1.ad }) (nd := wAft (gn r k) x y) hp rfl hlv rfl hb ⟨q, hq, rfl⟩ ⟨q1, hq1, rfl⟩ hsu).2, back_put hp rfl⟩
  intro la tp hL
  have h1 := hL.put (p' := { p with s0 := q.ad }) (by omega) hp rfl 3 (.pointer q.ad) rfl
  have h2 := h1.put (p := { p with s0 := q.ad }) (p' := { p with s0 := q.ad, s1 := q1.ad }) (by omega) (setK_at _ _ _) rfl 4 (.pointer q1.ad) rfl
  have e : setK (setK K (gn r k).pos.toNat { p with s0 := q.ad }) (gn r k).pos.toNat { p with s0 := q.ad, s1 := q1.ad } = setK K (gn r k).pos.toNat { p with s0 := q.ad, s1 := q1.ad } := by
    funext y; unfold setK; split <;> rfl
  rw [e] at h2
  exact h2

set_option maxHeartbeats 1000000 in
theorem drop_live (n L cap : Nat) (K : Nat → Option Pr) (r : List Nd) (k : Nat) (p : Pr) (po : Option Addr) (w : World) (h : NW w n L cap K r) (hv : rvB r = true) (hk : k < r.length) (hp : K (gn r k).pos.toNat = some p) :
    Calls Try.prog 84 #[.pointer (some ⟨n, 0, none⟩), .pointer p.ad, .pointer po] w (StepPost n L cap K (dropR r k) (dropB r k) w) := by
  obtain ⟨hpp, hbf, ha0, ha1, haf⟩ := nd_open hv hk
  clear haf
  obtain ⟨p', q0, q1, hp', hlv, hb, e0, e1, h0, h1⟩ := h.node hv hk
  rw [hp] at hp'; injection hp' with hp'; subst hp'
  obtain ⟨c0, c1, c2, c3, c4, cf, _, hpn, clv⟩ := h.known hv hpp hp
  obtain ⟨d0, d1, _⟩ := h.known hv ha0 h0
  obtain ⟨b0, b1, _⟩ := h.known hv ha1 h1
  rw [live_at hk] at c1
  rw [e0] at c3
  rw [e1] at c4
  have HN := Lib.hid h
  have HV := Lib.hid hv
  have HP := Lib.hid hp
  have H1 := Lib.hid h1
  have hnl := h.lt
  have hap : ∀ q : Pr, q.ad = some ⟨q.blk, 0, none⟩ := fun _ => rfl
  clear h hv hp c2 hb h0 hlv clv d0 hap e0 e1
  simp only [Pr.ad] at c3 c4 ⊢
  rcases (show liveB r (gt (gn r k).aft 0) = true ∨ liveB r (gt (gn r k).aft 0) = false by cases liveB r (gt (gn r k).aft 0) <;> simp) with hl | hl
  · rw [hl] at d1
    have HB : Hid (dropB r k = false) := by show dropB r k = false; simp [dropB, hl]
    have HR : Hid (dropR r k = r) := by show dropR r k = r; simp [dropR, hl]
    clear hl cf
    go_enter Try.func84, Try.ntmps84
    go_wp2
    go_ret
    rw [HB.out, HR.out]
    exact StepPost.stay HN.out (Below.refl _ _)
  · rw [hl] at d1
    have HB : Hid (dropB r k = true) := by show dropB r k = true; simp [dropB, hl]
    have HR : Hid (dropR r k = dropS r k) := by show dropR r k = _; simp [dropR, hl]
    clear hl
    have z0 : 0 ≤ (gt (gn r k).aft 1 + 1) % 64 := by omega
    have z1 : (gt (gn r k).aft 1 + 1) % 64 < 64 := by omega
    have HF : Hid (∀ K' w', NW w' n L cap K' r → KLe K K' → (∃ p', K' (gn r k).pos.toNat = some p' ∧ p'.blk = p.blk)) := fun K' w' _ hle => hle _ _ HP.out
    have hmod : (gt (gn r k).aft 1 + 1).tmod 64 = (gt (gn r k).aft 1 + 1) % 64 := Int.tmod_eq_emod_of_nonneg (by omega)
    have hwr : IntKind.i64.wrap (gt (gn r k).aft 1 + 1) = gt (gn r k).aft 1 + 1 := IntWalk.i64_in _ (by omega)
    generalize hX : (gt (gn r k).aft 1 + 1) % 64 = X at *
    have HX := Lib.hid hX
    clear hX
    go_enter Try.func84, Try.ntmps84
    go_wp2
    obtain ⟨wi, rfl⟩ : ∃ x, x = w := ⟨_, rfl⟩
    go_region_held3 (fun w' => w'.cell? ⟨q1.blk, 0, none⟩ = some (.int .i64 (gt (gn r k).aft 1))) (first | assumption | go_keep | (rw [cell_34 (by omega)]; assumption))
      (first | (go_at_call 62; refine (peerAt_nw n L cap K r X wi.drew z0 z1 (HN.out.keep (w' := wi.drew) (fun g _ => rfl))).mono ?_; rintro e w5 ⟨q5, K5, rfl, hq5, hn5, hle5, hb5, hf5⟩; obtain ⟨p5, hp5, hpb5⟩ := HF.out K5 w5 hn5 hle5; obtain ⟨y0, y1, y2, y3, y4, yf, _, _, y9⟩ := hn5.known HV.out hpp hp5; rw [hpb5] at y3 y4 yf; have yf3 := yf 3; have yf4 := yf 4; clear y0 y1 y2 yf y9; obtain ⟨q15, hq15, hqb15⟩ := hle5 _ _ H1.out; have y10 := (hn5.known HV.out ha1 hq15).1; rw [hqb15] at y10; have HQ5 := Lib.hid hq5; have HP5 := Lib.hid hp5; have HPB5 := Lib.hid hpb5; have HQ15 := Lib.hid hq15; have HQB15 := Lib.hid hqb15; clear hq5 hp5 hpb5 hq15 hqb15))
    go_wp2
    go_ret
    rw [HB.out, HR.out]
    have hq5 := HQ5.out
    have hp5 := HP5.out
    have hpb5 := HPB5.out
    obtain ⟨q1', hq1', hqb1⟩ := hle5 _ _ H1.out
    obtain ⟨K6, hn6, hle6, hbk6⟩ := NW.follow hn5 HV.out hk hp5 hq1' hq5
    refine ⟨rfl, K6, ?_, hle5.trans hle6, ((Below.refl n wi).drew.trans hb5).trans (by rw [← hpb5]; exact below_two (hn5.known HV.out hpp hp5).2.2.2.2.2.2.2.1), (show Fr n K K5 wi w5 from hf5).trans (by rw [← hpb5]; exact fr_two (by omega) hp5 hbk6)⟩
    unfold dropS
    rw [HX.out]
    have e1 : q1'.ad = some ⟨q1.blk, 0, none⟩ := by simp [Pr.ad, hqb1]
    rw [e1, hpb5] at hn6
    exact hn6

set_option maxHeartbeats 1000000 in
theorem drop_dead (g : Nat) (pn po : Option Addr) (w : World) (c1 : w.cell? ⟨g, 1, none⟩ = some (.bool false)) :
    Calls Try.prog 84 #[.pointer pn, .pointer (some ⟨g, 0, none⟩), .pointer po] w fun e w' => e = .returned (.bool false) ∧ Same w w' := by
  go_enter Try.func84, Try.ntmps84
  go_wp2
  go_ret
  exact ⟨rfl, Same.refl _⟩

set_option maxHeartbeats 1000000 in
theorem adopt_dead (g : Nat) (pn po : Option Addr) (w : World) (c1 : w.cell? ⟨g, 1, none⟩ = some (.bool false)) :
    Calls Try.prog 85 #[.pointer pn, .pointer (some ⟨g, 0, none⟩), .pointer po] w fun e w' => e = .returned (.bool false) ∧ Same w w' := by
  go_enter Try.func85, Try.ntmps85
  go_wp2
  go_ret
  exact ⟨rfl, Same.refl _⟩

set_option maxHeartbeats 1000000 in
theorem closer_dead (g : Nat) (pn po : Option Addr) (w : World) (c1 : w.cell? ⟨g, 1, none⟩ = some (.bool false)) :
    Calls Try.prog 86 #[.pointer pn, .pointer (some ⟨g, 0, none⟩), .pointer po] w fun e w' => e = .returned (.bool false) ∧ Same w w' := by
  go_enter Try.func86, Try.ntmps86
  go_wp2
  go_quiet (fail)
  go_wp2
  go_ret
  exact ⟨rfl, (Same.refl _).drewN _⟩

set_option maxHeartbeats 1000000 in
theorem notify_dead (g : Nat) (pn po : Option Addr) (w : World) (c1 : w.cell? ⟨g, 1, none⟩ = some (.bool false)) :
    Calls Try.prog 87 #[.pointer pn, .pointer (some ⟨g, 0, none⟩), .pointer po] w fun e w' => e = .returned (.bool false) ∧ Same w w' := by
  go_enter Try.func87, Try.ntmps87
  go_wp2
  go_ret
  exact ⟨rfl, Same.refl _⟩

set_option maxHeartbeats 1000000 in
theorem stabilize_dead (g : Nat) (pn po : Option Addr) (w : World) (c1 : w.cell? ⟨g, 1, none⟩ = some (.bool false)) :
    Calls Try.prog 73 #[.pointer pn, .pointer (some ⟨g, 0, none⟩), .pointer po] w fun e w' => e = .returned (.bool false) ∧ Same w w' := by
  go_enter Try.func73, Try.ntmps73
  go_wp2
  go_ret
  exact ⟨rfl, Same.refl _⟩

/-- what a live node's peer has in memory -/
theorem NW.cells {w : World} {n L cap : Nat} {K : Nat → Option Pr} {r : List Nd} (h : NW w n L cap K r) (hv : rvB r = true) {k : Nat} (hk : k < r.length) {p : Pr} (hp : K (gn r k).pos.toNat = some p) :
    ∃ q0 q1, K (gt (gn r k).aft 0).toNat = some q0 ∧ K (gt (gn r k).aft 1).toNat = some q1 ∧ p.s0 = q0.ad ∧ p.s1 = q1.ad ∧ w.cell? ⟨p.blk, 0, none⟩ = some (.int .i64 (gn r k).pos) ∧ w.cell? ⟨p.blk, 1, none⟩ = some (.bool true) ∧ w.cell? ⟨p.blk, 2, none⟩ = some (.pointer p.b) ∧ w.cell? ⟨p.blk, 3, none⟩ = some (.pointer (some ⟨q0.blk, 0, none⟩)) ∧ w.cell? ⟨p.blk, 4, none⟩ = some (.pointer (some ⟨q1.blk, 0, none⟩)) ∧ (∀ i, w.frozen? ⟨p.blk, i, none⟩ = false) ∧ n ≤ p.blk ∧
      w.cell? ⟨q0.blk, 0, none⟩ = some (.int .i64 (gt (gn r k).aft 0)) ∧ w.cell? ⟨q0.blk, 1, none⟩ = some (.bool (liveB r (gt (gn r k).aft 0))) ∧ w.cell? ⟨q0.blk, 2, none⟩ = some (.pointer q0.b) ∧ w.cell? ⟨q0.blk, 3, none⟩ = some (.pointer q0.s0) ∧ PtrTo K (gn r k).bef p.b := by
  obtain ⟨hpp, hbf, ha0, ha1, haf⟩ := nd_open hv hk
  obtain ⟨p', q0, q1, hp', hlv, hb, e0, e1, h0, h1⟩ := h.node hv hk
  rw [hp] at hp'; injection hp' with hp'; subst hp'
  obtain ⟨c0, c1, c2, c3, c4, cf, _, hpn, clv⟩ := h.known hv hpp hp
  obtain ⟨d0, d1, d2, d3, _⟩ := h.known hv ha0 h0
  rw [live_at hk] at c1
  rw [e0] at c3
  rw [e1] at c4
  exact ⟨q0, q1, h0, h1, e0, e1, c0, c1, c2, c3, c4, cf, hpn, d0, d1, d2, d3, hb⟩

set_option maxHeartbeats 1000000 in
theorem adopt_live (n L cap : Nat) (K : Nat → Option Pr) (r : List Nd) (k : Nat) (p : Pr) (pn po : Option Addr) (w : World) (h : NW w n L cap K r) (hv : rvB r = true) (hk : k < r.length) (hp : K (gn r k).pos.toNat = some p) :
    Calls Try.prog 85 #[.pointer pn, .pointer p.ad, .pointer po] w (StepPost n L cap K (adoptR r k) (adoptB r k) w) := by
  obtain ⟨q0, q1, h0, h1, e0, e1, c0, c1, c2, c3, c4, cf, hpn, d0, d1, d2, d3, hb⟩ := h.cells hv hk hp
  have HP := Lib.hid hp
  have HPX : Hid ((gn r k).pos.toNat < 64) := by show _ < _; have := (nd_open hv hk).1; omega
  simp only [Pr.ad]
  rcases (show liveB r (gt (gn r k).aft 0) = true ∨ liveB r (gt (gn r k).aft 0) = false by cases liveB r (gt (gn r k).aft 0) <;> simp) with hl | hl
  · obtain ⟨hs, hso, _⟩ := idx_live hl
    obtain ⟨t0, _, g0, _, f0, _⟩ := h.cells hv hs (p := q0) (by rw [hso]; exact h0)
    have HB : Hid (adoptB r k = true) := hl
    have HE : Hid (∃ K', NW ((w.setCell ⟨p.blk, 3, none⟩ (.pointer q0.ad)).setCell ⟨p.blk, 4, none⟩ (.pointer t0.ad)) n L cap K' (adoptR r k) ∧ KLe K K' ∧ Back K K') := by
      obtain ⟨K', hn', hle, hbk⟩ := h.follow hv hk hp h0 g0
      refine ⟨K', ?_, hle, hbk⟩
      have e : adoptR r k = r.set k (wAft (gn r k) (gt (gn r k).aft 0) (gt (gn r (idxR r (gt (gn r k).aft 0))).aft 0)) := by
        rw [adoptR, HB.out, if_pos rfl, folR, hso]
      rw [e]; exact hn'
    rw [hl] at d1
    rw [f0] at d3
    have HC := Lib.hid cf
    have HD3 := Lib.hid d3
    clear h hp h0 h1 e0 e1 hl hso f0 g0 cf d3 hb
    go_enter Try.func85, Try.ntmps85
    go_wp2_with (go_at_call 106; refine (follow_any p.blk q0.blk _ _ _ w HD3.out c3 c4 HC.out).mono ?_; rintro e w1 ⟨rfl, rfl⟩)
    go_ret
    obtain ⟨K', hn', hle, hbk⟩ := HE.out
    rw [HB.out]
    exact ⟨rfl, K', hn', hle, below_two hpn, fr_two HPX.out HP.out hbk⟩
  · have HB : Hid (adoptB r k = false) := hl
    have HR : Hid (adoptR r k = r) := by show adoptR r k = r; rw [adoptR, HB.out]; rfl
    rw [hl] at d1
    have HN := Lib.hid h
    clear h hp h0 h1 e0 e1 hl cf hb
    go_enter Try.func85, Try.ntmps85
    go_wp2
    go_ret
    rw [HB.out, HR.out]
    exact StepPost.stay HN.out (Below.refl _ _)

set_option maxHeartbeats 2000000 in
theorem closer_live (n L cap : Nat) (K : Nat → Option Pr) (r : List Nd) (k : Nat) (p q : Pr) (o : Int) (pn : Option Addr) (w : World) (h : NW w n L cap K r) (hv : rvB r = true) (hk : k < r.length) (hp : K (gn r k).pos.toNat = some p) (ho : 0 ≤ o ∧ o < 64) (hq : K o.toNat = some q) :
    Calls Try.prog 86 #[.pointer pn, .pointer p.ad, .pointer q.ad] w (StepPost n L cap K (closerR r k o) (closerB r k o) w) := by
  obtain ⟨q0, q1, h0, h1, e0, e1, c0, c1, c2, c3, c4, cf, hpn, d0, d1, d2, d3, hb⟩ := h.cells hv hk hp
  obtain ⟨o0, o1, o2, o3, o4, of, _⟩ := h.known hv ho hq
  obtain ⟨hpp, hbf, ha0, ha1, haf⟩ := nd_open hv hk
  have HP := Lib.hid hp
  have HPX : Hid ((gn r k).pos.toNat < 64) := by show _ < _; omega
  simp only [Pr.ad]
  have HN := Lib.hid h
  rcases (show liveB r o = true ∨ liveB r o = false by cases liveB r o <;> simp) with hl | hl
  · rcases (show btwI (gn r k).pos o (gt (gn r k).aft 0) = true ∨ btwI (gn r k).pos o (gt (gn r k).aft 0) = false by cases btwI (gn r k).pos o (gt (gn r k).aft 0) <;> simp) with hbt | hbt
    · obtain ⟨hs, hso, _⟩ := idx_live hl
      obtain ⟨t0, _, g0, _, f0, _⟩ := h.cells hv hs (p := q) (by rw [hso]; exact hq)
      have HB : Hid (closerB r k o = true) := by show closerB r k o = true; rw [closerB, hl, hbt]; rfl
      have HE : Hid (∃ K', NW ((w.setCell ⟨p.blk, 3, none⟩ (.pointer q.ad)).setCell ⟨p.blk, 4, none⟩ (.pointer t0.ad)) n L cap K' (closerR r k o) ∧ KLe K K' ∧ Back K K') := by
        obtain ⟨K', hn', hle, hbk⟩ := h.follow hv hk hp hq g0
        refine ⟨K', ?_, hle, hbk⟩
        have e : closerR r k o = r.set k (wAft (gn r k) o (gt (gn r (idxR r o)).aft 0)) := by
          rw [closerR, HB.out, if_pos rfl, folR, hso]
        rw [e]; exact hn'
      rw [hl] at o1
      rw [f0] at o3
      have HC := Lib.hid cf
      have HO3 := Lib.hid o3
      have HT := Lib.hid hbt
      have HC3 := Lib.hid c3
      have HC4 := Lib.hid c4
      clear h hp h0 h1 e0 e1 hl hso f0 g0 cf o3 hb hbt haf hq of
      go_enter Try.func86, Try.ntmps86
      go_wp2
      go_quiet ((go_at_call 99; exact Calls.quiet_of_same (calls_flip (between_as _ _ _ _ _ hpp.1 hpp.2 ho.1 ho.2 ha0.1 ha0.2 HT.out))))
      go_wp2_with fail
      refine (follow_any p.blk q.blk _ _ _ _ (((Same.refl w).drewN _ |>.cell _).trans HO3.out) (((Same.refl w).drewN _ |>.cell _).trans HC3.out) (((Same.refl w).drewN _ |>.cell _).trans HC4.out) HC.out).mono ?_
      rintro e w1 ⟨rfl, rfl⟩
      go_wp2
      go_ret
      obtain ⟨K', hn', hle, hbk⟩ := HE.out
      rw [HB.out]
      exact ⟨rfl, K', hn'.keep (fun g _ => rfl), hle, ((Same.refl w).drewN _ |>.below n).trans (below_two hpn), (Fr.kept ((Same.refl w).drewN _ |>.below _)).trans (fr_two HPX.out HP.out hbk)⟩
    · have HB : Hid (closerB r k o = false) := by show closerB r k o = false; rw [closerB, hl, hbt]; rfl
      have HR : Hid (closerR r k o = r) := by show closerR r k o = r; rw [closerR, HB.out]; rfl
      rw [hl] at o1
      have HT := Lib.hid hbt
      clear h hp h0 h1 e0 e1 hl cf hb hbt haf hq of
      go_enter Try.func86, Try.ntmps86
      go_wp2
      go_quiet ((go_at_call 99; exact Calls.quiet_of_same (calls_flip (between_as _ _ _ _ _ hpp.1 hpp.2 ho.1 ho.2 ha0.1 ha0.2 HT.out))))
      go_wp2
      go_ret
      rw [HB.out, HR.out]
      exact StepPost.stay HN.out ((Same.refl w).drewN _ |>.below _)
  · have HB : Hid (closerB r k o = false) := by show closerB r k o = false; rw [closerB, hl]; rfl
    have HR : Hid (closerR r k o = r) := by show closerR r k o = r; rw [closerR, HB.out]; rfl
    rw [hl] at o1
    clear h hp h0 h1 e0 e1 hl cf hb haf hq of
    go_enter Try.func86, Try.ntmps86
    go_wp2
    go_quiet (fail)
    go_wp2
    go_ret
    rw [HB.out, HR.out]
    exact StepPost.stay HN.out ((Same.refl w).drewN _ |>.below _)

theorem NW.blk {w : World} {n L cap : Nat} {K : Nat → Option Pr} {r : List Nd} (h : NW w n L cap K r) {z : Int} (hz : 0 ≤ z ∧ z < 64) {q : Pr} (hq : K z.toNat = some q) : ∃ cs, w.heap[q.blk]? = some (.cells cs 91 (0, 0)) := h.net.blk hz ⟨q, hq, rfl⟩
theorem NW.eq {w : World} {n L cap : Nat} {K : Nat → Option Pr} {r : List Nd} (h : NW w n L cap K r) {x z : Int} (hx : 0 ≤ x ∧ x < 64) (hz : 0 ≤ z ∧ z < 64) {p q : Pr} (hp : K x.toNat = some p) (hq : K z.toNat = some q) : p.blk = q.blk ↔ x = z := ptr_iff h.net hx hz ⟨p, hp, rfl⟩ ⟨q, hq, rfl⟩

theorem wants_as (v : Bool) (n L cap : Nat) (K : Nat → Option Pr) (r : List Nd) (k : Nat) (p q : Pr) (o : Int) (w : World) (h : NW w n L cap K r) (hv : rvB r = true) (hk : k < r.length) (hp : K (gn r k).pos.toNat = some p) (ho : 0 ≤ o ∧ o < 64) (hq : K o.toNat = some q) (hres : (!keepB r (gn r k) o) = v) :
    Calls Try.prog 107 #[.pointer (some ⟨p.blk, 0, none⟩), .pointer (some ⟨q.blk, 0, none⟩)] w fun e w' => e = .returned (.bool v) ∧ Same w w' := by
  subst hres; exact wants_any n L cap K r k p q o w h hv hk hp ho hq
theorem block_lt {w : World} {p : Addr} {v : Value} (h : w.cell? p = some v) : p.block < w.heap.size := by
  rcases Nat.lt_or_ge p.block w.heap.size with hlt | hge
  · exact hlt
  · exfalso
    have hn : w.heap[p.block]? = none := Array.getElem?_eq_none hge
    simp [World.cell?, hn] at h

set_option maxHeartbeats 2000000 in
theorem notify_live (n L cap : Nat) (K : Nat → Option Pr) (r : List Nd) (k : Nat) (p q : Pr) (o : Int) (pn : Option Addr) (w : World) (h : NW w n L cap K r) (hv : rvB r = true) (hk : k < r.length) (hp : K (gn r k).pos.toNat = some p) (ho : 0 ≤ o ∧ o < 64) (hq : K o.toNat = some q) :
    Calls Try.prog 87 #[.pointer pn, .pointer p.ad, .pointer q.ad] w (StepPost n L cap K (notR r k o) (notB r k o) w) := by
  obtain ⟨q0, q1, h0, h1, e0, e1, c0, c1, c2, c3, c4, cf, hpn, d0, d1, d2, d3, hb⟩ := h.cells hv hk hp
  obtain ⟨o0, o1, o2, o3, o4, of, _⟩ := h.known hv ho hq
  obtain ⟨hpp, hbf, ha0, ha1, haf⟩ := nd_open hv hk
  have cf2 := cf 2
  have HN := Lib.hid h
  have HV := Lib.hid hv
  have HP := Lib.hid hp
  have HQ := Lib.hid hq
  have hnl : ∀ b, StepPost n L cap K r b w (.returned (.bool b)) w := fun b => StepPost.stay h (Below.refl _ _)
  have HNL := Lib.hid hnl
  clear hnl
  rcases (show liveB r o = true ∨ liveB r o = false by cases liveB r o <;> simp) with hl | hl
  rotate_left
  · have HB : Hid (notB r k o = false) := by show notB r k o = false; rw [notB, hl]; rfl
    have HR : Hid (notR r k o = r) := by show notR r k o = r; rw [notR, HB.out]; rfl
    rw [hl] at o1
    clear h hp h0 h1 e0 e1 hl cf hb haf hq of
    simp only [Pr.ad]
    go_enter Try.func87, Try.ntmps87
    go_wp2
    go_ret
    rw [HB.out, HR.out]
    exact HNL.out _
  have hcmp : (binOp .eql 74 (.pointer (some ⟨q.blk, 0, none⟩)) (.pointer (some ⟨p.blk, 0, none⟩))).run Try.prog w = .ok (.bool (decide (o = (gn r k).pos))) w := by
    obtain ⟨ca, ha⟩ := h.blk ho hq
    obtain ⟨cb, hb'⟩ := h.blk hpp hp
    rw [peq ha hb', decide_eq_decide.2 (h.eq ho hpp hq hp)]
  rcases (show decide (o = (gn r k).pos) = true ∨ decide (o = (gn r k).pos) = false by cases decide (o = (gn r k).pos) <;> simp) with hs | hs
  · have HB : Hid (notB r k o = false) := by show notB r k o = false; rw [notB, hs]; simp
    have HR : Hid (notR r k o = r) := by show notR r k o = r; rw [notR, HB.out]; rfl
    rw [hl] at o1
    rw [hs] at hcmp
    clear h hp h0 h1 e0 e1 hl cf hb haf hq of hs
    simp only [Pr.ad]
    go_enter Try.func87, Try.ntmps87
    go_wp2
    go_ret
    rw [HB.out, HR.out]
    exact HNL.out _
  rw [hl] at o1
  rw [hs] at hcmp
  rcases (show keepB r (gn r k) o = true ∨ keepB r (gn r k) o = false by cases keepB r (gn r k) o <;> simp) with hkp | hkp
  · have HB : Hid (notB r k o = false) := by show notB r k o = false; rw [notB, hkp]; simp
    have HR : Hid (notR r k o = r) := by show notR r k o = r; rw [notR, HB.out]; rfl
    have HK := Lib.hid hkp
    clear h hp h0 h1 e0 e1 hl cf hb haf hq of hs hkp
    simp only [Pr.ad]
    go_enter Try.func87, Try.ntmps87
    go_wp2_with (go_at_call 107; refine (wants_as false n L cap K r k p q o w HN.out HV.out hk HP.out ho HQ.out (by rw [HK.out]; rfl)).mono ?_; rintro e w1 ⟨rfl, hs1⟩)
    go_ret
    rw [HB.out, HR.out]
    exact StepPost.stay HN.out (hs1.below _)
  · have HB : Hid (notB r k o = true) := by show notB r k o = true; rw [notB, hkp, hl, hs]; rfl
    have HR : Hid (notR r k o = r.set k ⟨(gn r k).pos, o, (gn r k).aft⟩) := by show notR r k o = _; rw [notR, HB.out]; rfl
    have HK := Lib.hid hkp
    have HE : Hid (∀ w1, Same w w1 → ∃ K', NW (w1.setCell ⟨p.blk, 2, none⟩ (.pointer q.ad)) n L cap K' (r.set k ⟨(gn r k).pos, o, (gn r k).aft⟩) ∧ KLe K K' ∧ Back K K') := fun w1 hs1 => by
      have h' := h.same hs1
      obtain ⟨p', _, _, hp', hlv, hb', _⟩ := h.node hv hk
      rw [hp] at hp'; injection hp' with hp'; subst hp'
      suffices hsu : _ from ⟨_, (NW.set h' hv hk (p := p) (p' := { p with b := q.ad }) (nd := ⟨(gn r k).pos, o, (gn r k).aft⟩) hp rfl hlv rfl (.inr ⟨by show o ≠ -1; omega, q, hq, rfl⟩) ⟨q0, h0, e0⟩ ⟨q1, h1, e1⟩ hsu).1, (NW.set h' hv hk (p := p) (p' := { p with b := q.ad }) (nd := ⟨(gn r k).pos, o, (gn r k).aft⟩) hp rfl hlv rfl (.inr ⟨by show o ≠ -1; omega, q, hq, rfl⟩) ⟨q0, h0, e0⟩ ⟨q1, h1, e1⟩ hsu).2, back_put hp rfl⟩
      intro la tp hL
      exact hL.put (p' := { p with b := q.ad }) (by omega) hp rfl 2 (.pointer q.ad) rfl
    have HC2 := Lib.hid c2
    have HF2 := Lib.hid cf2
    clear h hp h0 h1 e0 e1 hl cf hb haf hq of hs hkp c2 cf2
    simp only [Pr.ad]
    go_enter Try.func87, Try.ntmps87
    go_wp2_with (go_at_call 107; refine (wants_as true n L cap K r k p q o w HN.out HV.out hk HP.out ho HQ.out (by rw [HK.out]; rfl)).mono ?_; rintro e w1 ⟨rfl, hs1⟩; have c2 := (hs1.cell ⟨p.blk, 2, none⟩).trans HC2.out; have cf2 : w1.frozen? ⟨p.blk, 2, none⟩ = false := (hs1.below w.heap.size |>.frozen (p := ⟨p.blk, 2, none⟩) (block_lt HC2.out)).trans HF2.out)
    go_ret
    obtain ⟨K', hn', hle, hbk⟩ := HE.out w1 hs1
    rw [HB.out, HR.out]
    exact ⟨rfl, K', hn', hle, (hs1.below _).trans ((Below.refl n w1).setCell (p := ⟨p.blk, 2, none⟩) hpn _), (Fr.kept (hs1.below _)).trans (fr_one (by omega) HP.out hbk)⟩
end Go.Proofs.Ytcbbdhmloniolaa
