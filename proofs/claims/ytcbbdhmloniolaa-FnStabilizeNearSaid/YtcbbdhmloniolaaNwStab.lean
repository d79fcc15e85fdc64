/- A network's node stabilizes. -/
import Derived.Test.YtcbbdhmloniolaaNwStep
import Derived.Deep.LoopGhost
namespace Go.Proofs.Ytcbbdhmloniolaa
open Go.RowKit
set_option linter.unusedVariables false

theorem drop_as (b : Bool) (n L cap : Nat) (K : Nat → Option Pr) (r : List Nd) (k : Nat) (p : Pr) (g : Nat) (po : Option Addr) (w : World) (h : NW w n L cap K r) (hv : rvB r = true) (hk : k < r.length) (hp : K (gn r k).pos.toNat = some p) (hg : p.blk = g) (hb : dropB r k = b) :
    Calls Try.prog 84 #[.pointer (some ⟨n, 0, none⟩), .pointer (some ⟨g, 0, none⟩), .pointer po] w (StepPost n L cap K (dropR r k) b w) := by subst hb hg; exact drop_live n L cap K r k p po w h hv hk hp
theorem adopt_as (n L cap : Nat) (K : Nat → Option Pr) (r : List Nd) (k : Nat) (p : Pr) (g : Nat) (pn po : Option Addr) (w : World) (h : NW w n L cap K r) (hv : rvB r = true) (hk : k < r.length) (hp : K (gn r k).pos.toNat = some p) (hg : p.blk = g) :
    Calls Try.prog 85 #[.pointer pn, .pointer (some ⟨g, 0, none⟩), .pointer po] w (StepPost n L cap K (adoptR r k) (adoptB r k) w) := by subst hg; exact adopt_live n L cap K r k p pn po w h hv hk hp
theorem closer_as (n L cap : Nat) (K : Nat → Option Pr) (r : List Nd) (k : Nat) (p q : Pr) (g g' : Nat) (o : Int) (pn : Option Addr) (w : World) (h : NW w n L cap K r) (hv : rvB r = true) (hk : k < r.length) (hp : K (gn r k).pos.toNat = some p) (hg : p.blk = g) (ho : 0 ≤ o ∧ o < 64) (hq : K o.toNat = some q) (hg' : q.blk = g') :
    Calls Try.prog 86 #[.pointer pn, .pointer (some ⟨g, 0, none⟩), .pointer (some ⟨g', 0, none⟩)] w (StepPost n L cap K (closerR r k o) (closerB r k o) w) := by subst hg hg'; exact closer_live n L cap K r k p q o pn w h hv hk hp ho hq
theorem notify_as (n L cap : Nat) (K : Nat → Option Pr) (r : List Nd) (k : Nat) (p q : Pr) (g g' : Nat) (o : Int) (pn : Option Addr) (w : World) (h : NW w n L cap K r) (hv : rvB r = true) (hk : k < r.length) (hp : K (gn r k).pos.toNat = some p) (hg : p.blk = g) (ho : 0 ≤ o ∧ o < 64) (hq : K o.toNat = some q) (hg' : q.blk = g') :
    Calls Try.prog 87 #[.pointer pn, .pointer (some ⟨g, 0, none⟩), .pointer (some ⟨g', 0, none⟩)] w (StepPost n L cap K (notR r k o) (notB r k o) w) := by subst hg hg'; exact notify_live n L cap K r k p q o pn w h hv hk hp ho hq
theorem KLe.trans_at {K K' : Nat → Option Pr} (h : KLe K K') {x : Nat} {p : Pr} (hp : K x = some p) : ∃ p', K' x = some p' ∧ p'.blk = p.blk := h x p hp

/-- behind the loop of drops -/
theorem drop_stop {r r' : List Nd} {k : Nat} (h : safeB r = true) (hk : k < r.length) (hr : r' = r ∨ (r' = dropR r k ∧ dropB r k = true)) (hb : dropB r' k = false) : r' = drop2 r k ∧ dropR r' k = r' := by
  have hl : liveB r' (gt (gn r' k).aft 0) = true := by simpa [dropB] using hb
  have e : dropR r' k = r' := by rw [dropR, hl]; rfl
  refine ⟨?_, e⟩
  rcases hr with rfl | ⟨rfl, hd⟩
  · rw [drop2, hb, if_neg (by simp), e]
  · rw [drop2, if_pos hd, e]
theorem drop_once {r : List Nd} {k : Nat} (h : safeB r = true) (hk : k < r.length) (hd : dropB r k = true) : dropB (dropR r k) k = false := by
  have hf := (drop_first h hk).1
  have ho := drop_ok h hk
  rw [drop2, if_pos hd] at hf
  cases hx : dropB (dropR r k) k
  · rfl
  · exfalso
    have h1 := drop_first ho.safe (show k < (dropR r k).length by rw [ho.len]; exact hk)
    have hy : liveB r (gt (gn r k).aft 1) = true := by
      have hls := ((safe_iff r).1 h).2.1 k hk
      have hn : liveB r (gt (gn r k).aft 0) = false := by simpa [dropB] using hd
      rw [lsB, hn] at hls; simpa using hls
    have hn : liveB r (gt (gn r k).aft 0) = false := by simpa [dropB] using hd
    have e : dropR r k = dropS r k := by rw [dropR, hn]; rfl
    have hf' : gt (gn (dropR r k) k).aft 0 = gt (gn r k).aft 1 := by rw [e, dropS, gn_set' hk, if_pos rfl]; rfl
    rw [dropB, hf', live_same ho.len ho.pos, hy] at hx
    cases hx
/-- at the head of the loop of drops -/
def DropAt (n L cap : Nat) (K : Nat → Option Pr) (r : List Nd) (k : Nat) (w : World) (g : Nat) (wr : World) : Prop :=
  ∃ r' K', NW wr n L cap K' r' ∧ KLe K K' ∧ Below n w wr ∧ Fr n K K' w wr ∧ SetOk r r' ∧ ((r' = r ∧ g = 2) ∨ (r' = dropR r k ∧ dropB r k = true ∧ g = 1))

set_option maxHeartbeats 2000000 in
theorem stabilize_live (n L cap : Nat) (K : Nat → Option Pr) (r : List Nd) (k : Nat) (p : Pr) (po : Option Addr) (w : World) (h : NW w n L cap K r) (hs : safeB r = true) (hk : k < r.length) (hp : K (gn r k).pos.toNat = some p) :
    Calls Try.prog 73 #[.pointer (some ⟨n, 0, none⟩), .pointer p.ad, .pointer po] w (StepPost n L cap K (stabR r k) true w) := by
  have hv := safe_rv hs
  obtain ⟨_, _, _, _, _, _, _, c1, _⟩ := h.cells hv hk hp
  have HN := Lib.hid h
  have HS := Lib.hid hs
  have HV := Lib.hid hv
  have HP := Lib.hid hp
  obtain ⟨hpp, _, _, _, haf⟩ := nd_open hv hk
  clear h hs hv hp haf
  simp only [Pr.ad]
  go_enter Try.func73, Try.ntmps73
  go_wp2_with fail
  go_loopg [] 2 (fun g wr => DropAt n L cap K r k w g wr)
  case atStart => exact ⟨r, K, HN.out, KLe.refl _, Below.refl _ _, Fr.refl _ _ _, SetOk.refl HS.out, .inl ⟨rfl, rfl⟩⟩
  case round =>
    obtain ⟨r1, K1, hn1, hle1, hb1, hf1, hok1, hor⟩ := hrel
    have HN1 := Lib.hid hn1
    have HOK1 := Lib.hid hok1
    have HK1 : Hid (k < r1.length) := by show k < r1.length; rw [hok1.len]; exact hk
    have HV1 := Lib.hid (safe_rv hok1.safe)
    have HPOS1 := Lib.hid (hok1.pos k hk)
    obtain ⟨p1, hp1, hpb1⟩ := hle1.trans_at HP.out
    have HP1 : Hid (K1 (gn r1 k).pos.toNat = some p1) := by show _ = _; rw [hok1.pos k hk]; exact hp1
    have HPB1 := Lib.hid hpb1
    have HOR := Lib.hid hor
    clear hn1 hok1 hp1 hpb1 hor c1
    rcases (show dropB r1 k = true ∨ dropB r1 k = false by cases dropB r1 k <;> simp) with hd | hd
    · have HD := Lib.hid hd
      clear hd
      go_wp2_with fail
      refine (drop_as true n L cap K1 r1 k p1 p.blk _ wr HN1.out HV1.out HK1.out HP1.out HPB1.out HD.out).mono ?_
      rintro e w2 ⟨rfl, K2, hn2, hle2, hb2, hf2⟩
      have HN2 := Lib.hid hn2
      clear hn2
      go_wp2
      go_roundg 1
      case rel =>
        rcases HOR.out with ⟨rfl, _⟩ | ⟨rfl, hd', _⟩
        · exact ⟨_, K2, HN2.out, hle1.trans hle2, hb1.trans hb2, hf1.trans hf2, drop_ok HS.out hk, .inr ⟨rfl, HD.out, rfl⟩⟩
        · have := drop_once HS.out hk hd'
          rw [HD.out] at this; cases this
      case measure =>
        rcases HOR.out with ⟨_, hg⟩ | ⟨rfl, hd', _⟩
        · omega
        · have := drop_once HS.out hk hd'
          rw [HD.out] at this; cases this
    · have hst : r1 = drop2 r k ∧ dropR r1 k = r1 := drop_stop HS.out hk (by rcases HOR.out with ⟨h1, _⟩ | ⟨h1, h2, _⟩; exact .inl h1; exact .inr ⟨h1, h2⟩) hd
      have HD := Lib.hid hd
      have HST := Lib.hid hst
      clear hd hst
      go_wp2_with fail
      refine (drop_as false n L cap K1 r1 k p1 p.blk _ wr HN1.out HV1.out HK1.out HP1.out HPB1.out HD.out).mono ?_
      rintro e w2 ⟨rfl, K2, hn2, hle2, hb2, hf2⟩
      rw [HST.out.2] at hn2
      have HN2 := Lib.hid hn2
      have HP2 := Lib.hid (hle2.trans_at HP1.out)
      clear hn2
      obtain ⟨p2, hp2⟩ := HP2.out
      have HP2' : Hid (K2 (gn r1 k).pos.toNat = some p2 ∧ p2.blk = p.blk) := ⟨hp2.1, hp2.2.trans HPB1.out⟩
      clear hp2
      go_wp2_with fail
      refine (adopt_as n L cap K2 r1 k p2 p.blk _ _ w2 HN2.out HV1.out HK1.out HP2'.out.1 HP2'.out.2).mono ?_
      rintro e w3 ⟨rfl, K3, hn3, hle3, hb3, hf3⟩
      have hB3 : Below n w w3 := (hb1.trans hb2).trans hb3
      have hLE3 : KLe K K3 := (hle1.trans hle2).trans hle3
      have HFR3 : Hid (Fr n K K3 w w3) := (hf1.trans hf2).trans hf3
      have HR2 : Hid (adoptR r1 k = stab2 r k) := by show _ = _; rw [HST.out.1]; rfl
      rw [HR2.out] at hn3
      obtain ⟨hok2, hlf2⟩ := stab2_ok HS.out hk
      have HOK2 := Lib.hid hok2
      have HLF2 := Lib.hid hlf2
      have HK2 : Hid (k < (stab2 r k).length) := by show _ < _; rw [hok2.len]; exact hk
      have HV2 := Lib.hid (safe_rv hok2.safe)
      obtain ⟨p3, hp3, hpb3⟩ := hLE3.trans_at HP.out
      have HP3 : Hid (K3 (gn (stab2 r k) k).pos.toNat = some p3) := by show _ = _; rw [hok2.pos k hk]; exact hp3
      have HPB3 := Lib.hid hpb3
      obtain ⟨f0, f1, g0, g1, _, _, a0, a1, a2, a3, a4, _, _, b0, b1, b2, b3, _⟩ := hn3.cells HV2.out HK2.out HP3.out
      rw [hpb3] at a3
      obtain ⟨hi2, hio2, _⟩ := idx_live hlf2
      have hbe := (hn3.node HV2.out hi2)
      have HBE : Hid (PtrTo K3 (gn (stab2 r k) (idxR (stab2 r k) (first (stab2 r k) k))).bef f0.b) := by
        show PtrTo _ _ _
        obtain ⟨p', _, _, hp', _, hb', _⟩ := hbe
        rw [hio2] at hp'
        have g0' : K3 (first (stab2 r k) k).toNat = some f0 := g0
        rw [g0'] at hp'; injection hp' with hp'; subst hp'; exact hb'
      have HN3 := Lib.hid hn3
      have HBR := Lib.hid (nd_open HV2.out hi2).2.1
      have HG0 := Lib.hid g0
      clear hn3 hbe g0 g1 a0 a1 a2 a4 b0 b1 b3 hok2 hlf2 hp3 hpb3 hio2
      have HFIN : Hid (∀ K4 w4, NW w4 n L cap K4 (stab3 r k) → KLe K K4 → ∃ s3 p4, K4 (first (stab3 r k) k).toNat = some s3 ∧ K4 (gn (stab3 r k) k).pos.toNat = some p4 ∧ p4.blk = p.blk ∧ w4.cell? ⟨p.blk, 3, none⟩ = some (.pointer (some ⟨s3.blk, 0, none⟩)) ∧ K4 (gn (stab3 r k) (idxR (stab3 r k) (first (stab3 r k) k))).pos.toNat = some s3) := fun K4 w4 hn4 hle4 => by
        obtain ⟨hok3, hlf3⟩ := stab3_ok HS.out hk
        obtain ⟨p4, hp4, hpb4⟩ := hle4.trans_at HP.out
        have hp4' : K4 (gn (stab3 r k) k).pos.toNat = some p4 := by rw [hok3.pos k hk]; exact hp4
        obtain ⟨s3, _, g0, _, _, _, _, _, _, a3, _⟩ := hn4.cells (safe_rv hok3.safe) (by rw [hok3.len]; exact hk) hp4'
        rw [hpb4] at a3
        refine ⟨s3, p4, g0, hp4', hpb4, a3, ?_⟩
        rw [(idx_live hlf3).2.1]; exact g0
      have HV3 : Hid (rvB (stab3 r k) = true) := safe_rv (stab3_ok HS.out hk).1.safe
      have HI3 : Hid (idxR (stab3 r k) (first (stab3 r k) k) < (stab3 r k).length) := (idx_live (stab3_ok HS.out hk).2).1
      have HPO : Hid ((gn (stab3 r k) k).pos = (gn r k).pos) := (stab3_ok HS.out hk).1.pos k hk
      rcases HBE.out with ⟨hbm, hbn⟩ | ⟨hbm, qb, hqb, hbn⟩
      · rw [hbn] at b2
        have HR3 : Hid (stab2 r k = stab3 r k) := by show _ = _; rw [stab3, if_neg (by rw [hbm]; omega)]
        clear hbm hbn
        have HF := Lib.hid (HFIN.out K3 w3 (by have := HN3.out; rw [HR3.out] at this; exact this) hLE3)
        obtain ⟨s3, p4, t0, t1, t2, t3, t4⟩ := HF.out
        have es : s3 = f0 := by
          have h0 := HG0.out
          rw [HR3.out] at h0
          have h1 : K3 (first (stab3 r k) k).toNat = some f0 := h0
          rw [t0] at h1; injection h1
        subst es
        have HT := Lib.hid (And.intro t1 (And.intro t2 t4))
        clear t0 t1 t2 t4 t3
        have HN3' : Hid (NW w3 n L cap K3 (stab3 r k)) := by show NW _ _ _ _ _ _; have := HN3.out; rw [HR3.out] at this; exact this
        clear HR3
        go_wp2_with fail
        refine (notify_as n L cap K3 (stab3 r k) _ s3 p4 s3.blk p.blk (gn (stab3 r k) k).pos _ w3 HN3'.out HV3.out HI3.out HT.out.2.2 rfl (by rw [HPO.out]; exact hpp) HT.out.1 HT.out.2.1).mono ?_
        rintro e w5 ⟨rfl, K5, hn5, hle5, hb5, hf5⟩
        have HN5 := Lib.hid hn5
        clear hn5
        go_wp2
        go_ret
        exact ⟨rfl, K5, HN5.out, hLE3.trans hle5, hB3.trans hb5, HFR3.out.trans hf5⟩
      · rw [hbn] at b2
        have hbr : 0 ≤ (gn (stab2 r k) (idxR (stab2 r k) (first (stab2 r k) k))).bef ∧ (gn (stab2 r k) (idxR (stab2 r k) (first (stab2 r k) k))).bef < 64 := by rcases HBR.out with h | h; exact absurd h hbm; exact h
        have HR3 : Hid (closerR (stab2 r k) k (gn (stab2 r k) (idxR (stab2 r k) (first (stab2 r k) k))).bef = stab3 r k) := by show _ = _; rw [stab3, if_pos hbr.1]
        have HBR2 := Lib.hid hbr
        have HQB := Lib.hid hqb
        clear hbm hbn hbr hqb
        go_wp2_with fail
        refine (closer_as n L cap K3 (stab2 r k) k p3 qb p.blk qb.blk _ _ w3 HN3.out HV2.out HK2.out HP3.out HPB3.out HBR2.out HQB.out rfl).mono ?_
        rintro e w4 ⟨rfl, K4, hn4, hle4, hb4, hf4⟩
        rw [HR3.out] at hn4
        have HN4 := Lib.hid hn4
        have hLE4 : KLe K K4 := hLE3.trans hle4
        have HF := Lib.hid (HFIN.out K4 w4 hn4 hLE4)
        clear hn4 b2 a3
        obtain ⟨s3, p4, t0, t1, t2, t3, t4⟩ := HF.out
        have HT := Lib.hid (And.intro t1 (And.intro t2 t4))
        clear t0 t1 t2 t4
        go_wp2_with fail
        refine (notify_as n L cap K4 (stab3 r k) _ s3 p4 s3.blk p.blk (gn (stab3 r k) k).pos _ w4 HN4.out HV3.out HI3.out HT.out.2.2 rfl (by rw [HPO.out]; exact hpp) HT.out.1 HT.out.2.1).mono ?_
        rintro e w5 ⟨rfl, K5, hn5, hle5, hb5, hf5⟩
        have HN5 := Lib.hid hn5
        clear hn5
        go_wp2
        go_ret
        exact ⟨rfl, K5, HN5.out, hLE4.trans hle5, (hB3.trans hb4).trans hb5, (HFR3.out.trans hf4).trans hf5⟩
end Go.Proofs.Ytcbbdhmloniolaa
