/- Finding a node, skipping, principals and safety: what the model computes. -/
import Derived.Test.YtfhjmfcdogpbeaaRingIds
namespace Go.Proofs.Ytfhjmfcdogpbeaa
open Go.RowKit
set_option linter.unusedVariables false
attribute [local go_sem ↓] Go.wp_at_zero Go.wp_at_succ

/-- the index of a node, or -1 -/
def fndI (r : List Nd) (x : Int) : Int := if r.findIdx (fun n => decide (n.pos = x)) < r.length then ((r.findIdx (fun n => decide (n.pos = x)) : Nat) : Int) else -1
def NotAt (r : List Nd) (x : Int) (k : Nat) : Prop := ∀ i, i < k → (gn r i).pos ≠ x
theorem notAt_zero (r : List Nd) (x : Int) : NotAt r x 0 := fun i h => absurd h (by omega)
theorem notAt_succ {r : List Nd} {x : Int} {k : Nat} (h : NotAt r x k) (hk : ¬ (gn r k).pos = x) : NotAt r x (k + 1) := by
  intro i hi
  rcases Nat.lt_or_ge i k with h' | h'
  · exact h i h'
  · have : i = k := by omega
    subst this; exact hk
theorem fnd_at {r : List Nd} {x : Int} {k : Nat} (hk : k < r.length) (hn : NotAt r x k) (he : (gn r k).pos = x) : fndI r x = k := by
  have : r.findIdx (fun n => decide (n.pos = x)) = k := by
    rw [List.findIdx_eq hk]
    refine ⟨by rw [gn_get hk] at he; simpa using he, fun j hj => ?_⟩
    have := hn j hj
    rw [gn_get (by omega)] at this
    simpa using this
  rw [fndI, this, if_pos hk]
theorem fnd_none {r : List Nd} {x : Int} (hn : NotAt r x r.length) : fndI r x = -1 := by
  have : r.findIdx (fun n => decide (n.pos = x)) = r.length := by
    rw [List.findIdx_eq_length]
    intro n hn'
    obtain ⟨i, hi, rfl⟩ := List.getElem_of_mem hn'
    have := hn i hi
    rw [gn_get hi] at this
    simpa using this
  rw [fndI, this, if_neg (by omega)]
theorem fnd_live {r : List Nd} {x : Int} (h : liveB r x = true) : ∃ k : Nat, k < r.length ∧ fndI r x = k ∧ (gn r k).pos = x := by
  obtain ⟨i, hi, he⟩ := (live_iff r x).1 h
  have hlt : r.findIdx (fun n => decide (n.pos = x)) < r.length := List.findIdx_lt_length_of_exists ⟨r[i], List.getElem_mem hi, by rw [gn_get hi] at he; simpa using he⟩
  refine ⟨_, hlt, by rw [fndI, if_pos hlt], ?_⟩
  have := List.findIdx_getElem (w := hlt)
  rw [gn_get hlt]
  simpa using this
theorem fnd_dead {r : List Nd} {x : Int} (h : liveB r x = false) : fndI r x = -1 := fnd_none ((live_no r x).1 h)
theorem fnd_ge (r : List Nd) (x : Int) : decide (0 ≤ fndI r x) = liveB r x := by
  cases h : liveB r x
  · rw [fnd_dead h]; rfl
  · obtain ⟨k, _, he, _⟩ := fnd_live h
    rw [he]; simp

set_option maxHeartbeats 1000000 in
theorem sfind_any (a : Option Addr) (len cap : Nat) (r : List Nd) (x : Int) (w : World) (h : RingAt w a r) (hz : r.length = len) (hm : len ≤ maxLen) :
    Calls Try.prog 77 #[.slice a len cap, .int .i64 x] w fun e w' => e = .returned (.int .i64 (fndI r x)) ∧ w = w' := by
  unfold maxLen at hm
  have HI := Lib.hid h
  have HZ := Lib.hid hz
  clear h hz
  go_enter Try.func77, Try.ntmps77
  go_wp2
  go_loop [5] (fun i => ∃ k : Nat, k ≤ len ∧ i = .int .i64 k ∧ NotAt r x k) (fun i => len - (intOf i).toNat)
  case atStart => exact ⟨0, by omega, rfl, notAt_zero _ _⟩
  case round =>
    obtain ⟨k, hk, rfl, hn⟩ := hrel
    by_cases hlt : k < len
    · obtain ⟨b, off, rfl, hb0, hnodes⟩ := HI.out.at_ (by rw [HZ.out]; exact hlt)
      obtain ⟨sa, sc, hc0, _, _, _, _, _⟩ := node_open (hnodes k (by rw [HZ.out]; exact hlt))
      clear hnodes
      cases he : ((gn r k).pos == x)
      · have he' : ¬ (gn r k).pos = x := by simpa using he
        have HE := Lib.hid he'
        clear he'
        go_wp2
        go_round
        case rel => exact ⟨k + 1, by omega, by go_num, notAt_succ hn HE.out⟩
        case measure => simp [intOf]; omega
      · have he' : (gn r k).pos = x := by simpa using he
        have HE := Lib.hid he'
        clear he'
        go_wp2
        go_ret
        exact ⟨ret_int (fnd_at (by rw [HZ.out]; exact hlt) hn HE.out).symm, rfl⟩
    · go_wp2
      go_ret
      exact ⟨ret_int (fnd_none (by rw [HZ.out, show len = k by omega]; exact hn)).symm, rfl⟩

def SkAt (p q x y : Int) (l i : Value) : Prop := (l = .int .i64 p ∧ i = .int .i64 0) ∨ (l = .int .i64 x ∧ i = .int .i64 1 ∧ Hid (btwI p q x = false)) ∨ (l = .int .i64 y ∧ i = .int .i64 2 ∧ Hid (btwI p q x = false) ∧ Hid (btwI x q y = false))

set_option maxHeartbeats 1000000 in
theorem sskip_any (p bf x y : Int) (sa : Option Addr) (sc : Nat) (q : Int) (w : World) (h : IntsAt w sa [x, y]) (hl : 2 ≤ sc) (hm : sc ≤ maxLen) :
    Calls Try.prog 73 #[.agg #[.int .i64 p, .int .i64 bf, .slice sa 2 sc], .int .i64 q] w fun e w' => e = .returned (.bool (btwI p q x || btwI x q y)) ∧ Below w.heap.size w w' := by
  unfold maxLen at hm
  obtain ⟨b, off, rfl, hb, hc0, hc1⟩ := ints_two h
  clear h
  have hB : ∀ o, Below w.heap.size w (w.alloc o) := fun o => (Below.refl _ _).alloc (Nat.le_refl _) _
  have HB := Lib.hid hB
  clear hB
  go_enter Try.func73, Try.ntmps73
  go_wp2
  go_loop [5, 6] (fun l i => SkAt p q x y l i) (fun _ i => 2 - (intOf i).toNat)
  case atStart => exact .inl ⟨rfl, rfl⟩
  case round =>
    rcases hrel with ⟨rfl, rfl⟩ | ⟨rfl, rfl, h1⟩ | ⟨rfl, rfl, h1, h2⟩
    · cases hs : btwI p q x
      · have HS := Lib.hid hs
        go_wp2_with (go_at_call 86; refine (sbetw_any _ _ _ _).mono ?_; rintro e w' ⟨rfl, rfl⟩)
        go_round
        case rel => exact .inr (.inl ⟨rfl, rfl, HS⟩)
        case measure => simp [intOf]
      · go_wp2_with (go_at_call 86; refine (sbetw_any _ _ _ _).mono ?_; rintro e w' ⟨rfl, rfl⟩)
        go_ret
        exact ⟨ret_bool (by simp [hs]), HB.out _⟩
    · cases hs : btwI x q y
      · have HS := Lib.hid hs
        go_wp2_with (go_at_call 86; refine (sbetw_any _ _ _ _).mono ?_; rintro e w' ⟨rfl, rfl⟩)
        go_round
        case rel => exact .inr (.inr ⟨rfl, rfl, h1, HS⟩)
        case measure => simp [intOf]
      · go_wp2_with (go_at_call 86; refine (sbetw_any _ _ _ _).mono ?_; rintro e w' ⟨rfl, rfl⟩)
        go_ret
        exact ⟨ret_bool (by simp [hs]), HB.out _⟩
    · go_wp2
      go_ret
      exact ⟨ret_bool (by rw [h1.out, h2.out]; rfl), HB.out _⟩

theorem aft_two {n : Nd} (h : ndB n = true) : ∃ x y, n.aft = [x, y] ∧ (0 ≤ x ∧ x < 64) ∧ 0 ≤ y ∧ y < 64 := ((ndB_iff n).1 h).2.2
theorem sskip_as (v : Bool) (n : Nd) (sa : Option Addr) (sc : Nat) (q : Int) (w : World) (hn : ndB n = true) (h : IntsAt w sa n.aft) (hl : n.aft.length ≤ sc) (hm : sc ≤ maxLen) (hv : skB n q = v) :
    Calls Try.prog 73 #[.agg #[.int .i64 n.pos, .int .i64 n.bef, .slice sa n.aft.length sc], .int .i64 q] w fun e w' => e = .returned (.bool v) ∧ Below w.heap.size w w' := by
  subst hv
  obtain ⟨x, y, ha, _⟩ := aft_two hn
  have hl2 : n.aft.length = 2 := by rw [ha]; rfl
  have hs : skB n q = (btwI n.pos q x || btwI x q y) := by rw [skB, ha]; rfl
  rw [hl2, hs]
  exact sskip_any n.pos n.bef x y sa sc q w (by rw [← ha]; exact h) (by omega) hm

/-- the principals so far -/
theorem OwnI.keepB {w w' : World} {base B : Nat} {a : Option Addr} {cap : Nat} {zs : List Int} (h : OwnI w base a cap zs) (hb : Below B w w') (hB : w.heap.size ≤ B) : OwnI w' base a cap zs :=
  h.kept fun g _ hg => hb.block g (by omega)

set_option maxHeartbeats 2000000 in
theorem spr_any (a : Option Addr) (len cap : Nat) (r : List Nd) (w : World) (h : RingAt w a r) (hz : r.length = len) (hv : rvB r = true) :
    Calls Try.prog 48 #[.slice a len cap] w (NewInts (prL r) w) := by
  have hm := rv_len hv
  rw [hz] at hm
  have HI := Lib.hid h
  have HZ := Lib.hid hz
  have HV := Lib.hid hv
  clear h hz hv
  go_enter Try.func48, Try.ntmps48
  go_wp2
  go_loopw [3, 4] (fun o i wr => ∃ k : Nat, k ≤ len ∧ i = .int .i64 k ∧ IntsSoFar (prTo r k) w o wr) (fun _ i _ => len - (intOf i).toNat)
  case atStart => exact ⟨0, by omega, rfl, sofar_new w _ rfl⟩
  case round =>
    obtain ⟨k, hk, rfl, g, gc, rfl, hown, hbel⟩ := hrel
    obtain ⟨wo, rfl⟩ : ∃ x, x = wr := ⟨_, rfl⟩
    by_cases hlt : k < len
    · have hpl := prTo_len r k
      go_wp2
      go_loopw [5, 6] (fun sk i wi => ∃ m : Nat, m ≤ len ∧ i = .int .i64 m ∧ sk = .bool (anyTo (fun j => skB (gn r j) (gn r k).pos) m) ∧ Below wo.heap.size wo wi) (fun _ i _ => len - (intOf i).toNat)
      case atStart => exact ⟨0, by omega, rfl, rfl, Below.refl _ _⟩
      case round =>
        obtain ⟨m, hm', rfl, rfl, hbi⟩ := hrel
        obtain ⟨wi, rfl⟩ : ∃ x, x = wr := ⟨_, rfl⟩
        by_cases hmt : m < len
        · obtain ⟨b, off, rfl, hb0, hnodes⟩ := ((HI.out.keepB hbel (Nat.le_refl _)).keepB hbi (Nat.le_refl _)).at_ (by rw [HZ.out]; exact hlt)
          obtain ⟨sa, sc, hc0, hc1, hc2, hl, hmx, hints⟩ := node_open (hnodes m (by rw [HZ.out]; exact hmt))
          obtain ⟨sa', sc', hd0, hd1, hd2, _, _, _⟩ := node_open (hnodes k (by rw [HZ.out]; exact hlt))
          have hnd := rv_nd HV.out (k := m) (by rw [HZ.out]; exact hmt)
          have HND := Lib.hid hnd
          clear hnd hnodes
          have HX := Lib.hid hmx
          have HT := Lib.hid hints
          clear hmx hints
          have e0 : ∀ x : Cls (Below wi.heap.size wi), x.to.cell? ⟨b, off + m * 3, none⟩ = some (.int .i64 (gn r m).pos) := fun x => (x.ok.cell (p := ⟨b, off + m * 3, none⟩) hb0).trans hc0
          have e1 : ∀ x : Cls (Below wi.heap.size wi), x.to.cell? ⟨b, off + m * 3 + 1, none⟩ = some (.int .i64 (gn r m).bef) := fun x => (x.ok.cell (p := ⟨b, off + m * 3 + 1, none⟩) hb0).trans hc1
          have e2 : ∀ x : Cls (Below wi.heap.size wi), x.to.cell? ⟨b, off + m * 3 + 2, none⟩ = some (.slice sa (gn r m).aft.length sc) := fun x => (x.ok.cell (p := ⟨b, off + m * 3 + 2, none⟩) hb0).trans hc2
          have e3 : ∀ x : Cls (Below wi.heap.size wi), x.to.cell? ⟨b, off + k * 3, none⟩ = some (.int .i64 (gn r k).pos) := fun x => (x.ok.cell (p := ⟨b, off + k * 3, none⟩) hb0).trans hd0
          have i0 : (0 : Int) ≤ (m : Int) := by omega
          have i1 : (m : Int) < (len : Int) := by omega
          have i2 : (0 : Int) ≤ (k : Int) := by omega
          have i3 : (k : Int) < (len : Int) := by omega
          cases hsk : anyTo (fun j => skB (gn r j) (gn r k).pos) m
          · cases hs1 : skB (gn r m) (gn r k).pos
            all_goals
              have HS : Hid (anyTo (fun j => skB (gn r j) (gn r k).pos) (m + 1) = skB (gn r m) (gn r k).pos) := by show anyTo _ (m + 1) = _; rw [anyTo, hsk, Bool.false_or]
              have HSK := Lib.hid hsk
              have HS1 := Lib.hid hs1
              clear hs1 hsk
              go_wp2
              refine wp_region_cls (Below wi.heap.size wi) (by kernel_rfl) (by kernel_rfl) below_drawn ?_
              repeat (go_big_quiet_step ((go_at_call 73; rename_i x; exact cls_below (sskip_as _ (gn r m) sa sc _ _ HND.out (HT.out.keepB x.ok (Nat.le_refl _)) hl HX.out HS1.out) x.ok (Nat.le_refl _))))
              refine wpQuiet_nil ?_
              intro w2 hw'
              have hb2 := cls_out hw'
              clear hw' e0 e1 e2 e3
              go_wp2
              go_roundw
              case rel => exact ⟨m + 1, by omega, by go_num, by rw [HS.out, HS1.out], hbi.trans (hb2.mono hbi.size)⟩
              case measure => simp [intOf]; omega
          · have HS : Hid (anyTo (fun j => skB (gn r j) (gn r k).pos) (m + 1) = true) := by show anyTo _ (m + 1) = _; rw [anyTo, hsk, Bool.true_or]
            have HSK := Lib.hid hsk
            clear hsk
            go_wp2
            refine wp_region_cls (Below wi.heap.size wi) (by kernel_rfl) (by kernel_rfl) below_drawn ?_
            repeat (go_big_quiet_step (fail))
            refine wpQuiet_nil ?_
            intro w2 hw'
            have hb2 := cls_out hw'
            clear hw' e0 e1 e2 e3
            go_wp2
            go_roundw
            case rel => exact ⟨m + 1, by omega, by go_num, by rw [HS.out], hbi.trans (hb2.mono hbi.size)⟩
            case measure => simp [intOf]; omega
        · have HM : Hid (anyTo (fun j => skB (gn r j) (gn r k).pos) m = skdB r (gn r k).pos) := by show _ = _; rw [skdB, HZ.out, show m = len by omega]
          have hbel2 : Below w.heap.size w wi := hbel.trans (hbi.mono hbel.size)
          have hown2 : OwnI wi w.heap.size (some ⟨g, 0, none⟩) gc (prTo r k) := hown.keepB hbi (Nat.le_refl _)
          cases hsd : skdB r (gn r k).pos
          · have hmm : anyTo (fun j => skB (gn r j) (gn r k).pos) m = false := HM.out.trans hsd
            rw [hmm]
            have HP : Hid (prTo r (k + 1) = prTo r k ++ [(gn r k).pos]) := by show prTo r (k + 1) = _; rw [prTo, hsd]; rfl
            clear hmm hsd
            obtain ⟨b, off, rfl, hb0, hnodes⟩ := ((HI.out.keepB hbel (Nat.le_refl _)).keepB hbi (Nat.le_refl _)).at_ (by rw [HZ.out]; exact hlt)
            obtain ⟨sa, sc, hc0, hc1, hc2, hl, hmx, hints⟩ := node_open (hnodes k (by rw [HZ.out]; exact hlt))
            clear hnodes hints hmx
            have hgl := hown2.lt
            have HO := Lib.hid hown2
            clear hown2 hown
            unfold OwnI at HO
            go_wp2_with (at_builtin; refine wl_app _ (by rfl) _ _ (by rfl) w.heap.size g (prTo r k).length gc (vals (prTo r k)) (by rfl) (HO.out.alloc _) ⟨wi.heap.size, 0, none⟩ 1 1 [.int .i64 (gn r k).pos] (by rfl) rfl (src_one (heap_alloc_new wi _)) (by simp [Value.oneCell']) ((prTo r k).length + 1) (vals (prTo r k ++ [(gn r k).pos])) rfl (by simp [vals]) (by omega) (by simp; omega) ?_; intro g5 cap5 w5 hown5 hg5 hat5)
            go_roundw
            case rel => exact ⟨k + 1, by omega, by go_num, by rw [HP.out]; exact sofar_next hbel2 ((Below.refl _ _).alloc (Nat.le_refl _) _) hg5 hgl.1 hown5⟩
            case measure => simp [intOf]; omega
          · have hmm : anyTo (fun j => skB (gn r j) (gn r k).pos) m = true := HM.out.trans hsd
            rw [hmm]
            have HP : Hid (prTo r (k + 1) = prTo r k) := by show prTo r (k + 1) = _; rw [prTo, hsd]; rfl
            clear hmm hsd
            have HO := Lib.hid hown2
            clear hown2 hown
            go_wp2
            go_roundw
            case rel => exact ⟨k + 1, by omega, by go_num, by rw [HP.out]; exact ⟨g, gc, rfl, HO.out, hbel2⟩⟩
            case measure => simp [intOf]; omega
    · have HF : Hid (prTo r k = prL r) := by show _ = _; rw [prL, HZ.out, show k = len by omega]
      go_wp2
      go_ret
      rw [← HF.out]
      exact new_of_sofar ⟨g, gc, rfl, hown, hbel⟩
end Go.Proofs.Ytfhjmfcdogpbeaa
