/- A node joins (the model). -/
import Derived.Test.YtfhjmfcdogpbeaaJoinMath2
namespace Go.Proofs.Ytfhjmfcdogpbeaa
open Go.RowKit
set_option linter.unusedVariables false

set_option maxHeartbeats 4000000 in
theorem sjoin_any (a : Option Addr) (len cap : Nat) (x y : Int) (r : List Nd) (w : World) (h : RingAt w a r) (hz : r.length = len) (hcap : len ≤ cap) (hcm : cap ≤ maxLen) :
    Calls Try.prog 89 #[.slice a len cap, .int .i64 x, .int .i64 y] w (NewRB (joinR r x y) (arg3 r x y && joinB r x y) w) := by
  have hm : len ≤ maxLen := Nat.le_trans hcap hcm
  have HI := Lib.hid h
  have HZ := Lib.hid hz
  have HM := Lib.hid hm
  unfold maxLen at hcm
  clear h hz hm
  rcases bool_cases (safeB r) with hs | hs
  · have HS := Lib.hid hs
    clear hs
    go_enter Try.func89, Try.ntmps89
    go_wp2_with fail
    refine (ssafe_as _ a len cap r w HI.out HZ.out HM.out HS.out).mono ?_
    rintro e w1 ⟨rfl, hb1⟩
    go_wp2
    go_ret2
    have e0 : arg3 r x y = false := by unfold arg3; rw [HS.out]; rfl
    rw [joinR, e0, if_neg (by simp), Bool.false_and]
    exact (newRB_nil w1 _).mono hb1
  have HS := Lib.hid hs
  have HV := Lib.hid (safe_rv hs)
  clear hs
  rcases bool_cases (ptB x) with hx | hx
  · have HX := Lib.hid hx
    clear hx
    go_enter Try.func89, Try.ntmps89
    go_wp2_with fail
    refine (ssafe_as _ a len cap r w HI.out HZ.out HM.out HS.out).mono ?_
    rintro e w1 ⟨rfl, hb1⟩
    go_wp2_with fail
    refine (point_as _ x _ HX.out).mono ?_
    rintro e w2 ⟨rfl, rfl⟩
    go_wp2
    go_ret2
    have e0 : arg3 r x y = false := by unfold arg3; rw [HX.out]; simp
    rw [joinR, e0, if_neg (by simp), Bool.false_and]
    exact (newRB_nil w1 _).mono hb1
  have HX := Lib.hid hx
  clear hx
  rcases bool_cases (ptB y) with hy | hy
  · have HY := Lib.hid hy
    clear hy
    go_enter Try.func89, Try.ntmps89
    go_wp2_with fail
    refine (ssafe_as _ a len cap r w HI.out HZ.out HM.out HS.out).mono ?_
    rintro e w1 ⟨rfl, hb1⟩
    go_wp2_with fail
    refine (point_as _ x _ HX.out).mono ?_
    rintro e w2 ⟨rfl, rfl⟩
    go_wp2_with fail
    refine (point_as _ y _ HY.out).mono ?_
    rintro e w2 ⟨rfl, rfl⟩
    go_wp2
    go_ret2
    have e0 : arg3 r x y = false := by unfold arg3; rw [HY.out]; simp
    rw [joinR, e0, if_neg (by simp), Bool.false_and]
    exact (newRB_nil w1 _).mono hb1
  have HY := Lib.hid hy
  clear hy
  have HA : Hid (arg3 r x y = true) := by show arg3 r x y = true; unfold arg3; rw [HS.out, HX.out, HY.out]; rfl
  rcases bool_cases (liveB r y) with hl | hl
  · have HL := Lib.hid hl
    have HFY := Lib.hid (fnd_dead hl)
    clear hl
    go_enter Try.func89, Try.ntmps89
    go_wp2_with fail
    refine (ssafe_as _ a len cap r w HI.out HZ.out HM.out HS.out).mono ?_
    rintro e w1 ⟨rfl, hb1⟩
    go_wp2_with fail
    refine (point_as _ x _ HX.out).mono ?_
    rintro e w2 ⟨rfl, rfl⟩
    go_wp2_with fail
    refine (point_as _ y _ HY.out).mono ?_
    rintro e w2 ⟨rfl, rfl⟩
    go_wp2_with fail
    refine (sfind_any _ len cap r y _ (HI.out.keepB hb1 (Nat.le_refl _)) HZ.out HM.out).mono ?_
    rintro e w2 ⟨rfl, rfl⟩
    rw [HFY.out]
    go_wp2_with fail
    refine (copy_any _ len cap r _ (HI.out.keepB hb1 (Nat.le_refl _)) HZ.out HV.out).mono ?_
    rintro e w2 ⟨N, c2, F, rfl, ho, h1, h2, hB⟩
    have HO := Lib.hid ho
    have HC := Lib.hid (And.intro h1 h2)
    clear ho h1 h2
    go_wp2
    go_ret2
    have e0 : joinB r x y = false := by unfold joinB; rw [HL.out]; rfl
    rw [joinR, HA.out, e0, if_pos rfl, if_neg (by simp), Bool.and_false]
    exact NewOwn.toRB hb1 HO.out HC.out.1 HC.out.2 hB _ (by simp)
  obtain ⟨hir, _, hfy⟩ := idx_live hl
  have HL := Lib.hid hl
  have HFY := Lib.hid hfy
  have hil : idxR r y < len := by rw [← HZ.out]; exact hir
  have d0 : decide ((idxR r y : Int) < 0) = false := by simp
  have h10 := rv_len HV.out
  rw [HZ.out] at h10
  clear hl hfy
  rcases bool_cases (liveB r x) with hlx | hlx
  rotate_left
  · have HLX := Lib.hid hlx
    obtain ⟨_, _, hfx⟩ := idx_live hlx
    have HFX := Lib.hid hfx
    have d1 : decide (0 ≤ (idxR r x : Int)) = true := by simp
    clear hlx hfx
    go_enter Try.func89, Try.ntmps89
    go_wp2_with fail
    refine (ssafe_as _ a len cap r w HI.out HZ.out HM.out HS.out).mono ?_
    rintro e w1 ⟨rfl, hb1⟩
    go_wp2_with fail
    refine (point_as _ x _ HX.out).mono ?_
    rintro e w2 ⟨rfl, rfl⟩
    go_wp2_with fail
    refine (point_as _ y _ HY.out).mono ?_
    rintro e w2 ⟨rfl, rfl⟩
    go_wp2_with fail
    refine (sfind_any _ len cap r y _ (HI.out.keepB hb1 (Nat.le_refl _)) HZ.out HM.out).mono ?_
    rintro e w2 ⟨rfl, rfl⟩
    rw [HFY.out]
    go_wp2_with fail
    refine (sfind_any _ len cap r x _ (HI.out.keepB hb1 (Nat.le_refl _)) HZ.out HM.out).mono ?_
    rintro e w2 ⟨rfl, rfl⟩
    rw [HFX.out]
    go_wp2_with fail
    refine (copy_any _ len cap r _ (HI.out.keepB hb1 (Nat.le_refl _)) HZ.out HV.out).mono ?_
    rintro e w2 ⟨N, c2, F, rfl, ho, h1, h2, hB⟩
    have HO := Lib.hid ho
    have HC := Lib.hid (And.intro h1 h2)
    clear ho h1 h2
    go_wp2
    go_ret2
    have e0 : joinB r x y = false := by unfold joinB; rw [HLX.out]; simp
    rw [joinR, HA.out, e0, if_pos rfl, if_neg (by simp), Bool.and_false]
    exact NewOwn.toRB hb1 HO.out HC.out.1 HC.out.2 hB _ (by simp)
  have HLX := Lib.hid hlx
  have HFX := Lib.hid (fnd_dead hlx)
  clear hlx
  by_cases h10' : 10 ≤ len
  · have d1 : decide ((10 : Int) ≤ (len : Int)) = true := by simp; omega
    have H10 := Lib.hid h10'
    clear h10'
    go_enter Try.func89, Try.ntmps89
    go_wp2_with fail
    refine (ssafe_as _ a len cap r w HI.out HZ.out HM.out HS.out).mono ?_
    rintro e w1 ⟨rfl, hb1⟩
    go_wp2_with fail
    refine (point_as _ x _ HX.out).mono ?_
    rintro e w2 ⟨rfl, rfl⟩
    go_wp2_with fail
    refine (point_as _ y _ HY.out).mono ?_
    rintro e w2 ⟨rfl, rfl⟩
    go_wp2_with fail
    refine (sfind_any _ len cap r y _ (HI.out.keepB hb1 (Nat.le_refl _)) HZ.out HM.out).mono ?_
    rintro e w2 ⟨rfl, rfl⟩
    rw [HFY.out]
    go_wp2_with fail
    refine (sfind_any _ len cap r x _ (HI.out.keepB hb1 (Nat.le_refl _)) HZ.out HM.out).mono ?_
    rintro e w2 ⟨rfl, rfl⟩
    rw [HFX.out]
    go_wp2_with fail
    refine (copy_any _ len cap r _ (HI.out.keepB hb1 (Nat.le_refl _)) HZ.out HV.out).mono ?_
    rintro e w2 ⟨N, c2, F, rfl, ho, h1, h2, hB⟩
    have HO := Lib.hid ho
    have HC := Lib.hid (And.intro h1 h2)
    clear ho h1 h2
    go_wp2
    go_ret2
    have e0 : joinB r x y = false := by unfold joinB; rw [decide_eq_false (by have := HZ.out; have := H10.out; omega)]; simp
    rw [joinR, HA.out, e0, if_pos rfl, if_neg (by simp), Bool.and_false]
    exact NewOwn.toRB hb1 HO.out HC.out.1 HC.out.2 hB _ (by simp)
  have d1 : decide ((10 : Int) ≤ (len : Int)) = false := by simp; omega
  rcases bool_cases (btwI y x (first r (idxR r y))) with hbt | hbt
  · have HBT : Hid (btwI y x (gt (gn r (idxR r y)).aft 0) = false) := hbt
    have HBT2 := Lib.hid hbt
    clear hbt
    go_enter Try.func89, Try.ntmps89
    go_wp2_with fail
    refine (ssafe_as _ a len cap r w HI.out HZ.out HM.out HS.out).mono ?_
    rintro e w1 ⟨rfl, hb1⟩
    obtain ⟨b, off, b3, o3, sc, rfl, hb0, hb3, hsc, _, hc0, hc1, hc2, hx3, hy3, _⟩ := ring_node (HI.out.keepB hb1 (Nat.le_refl _)) HV.out hir
    go_wp2_with fail
    refine (point_as _ x _ HX.out).mono ?_
    rintro e w2 ⟨rfl, rfl⟩
    go_wp2_with fail
    refine (point_as _ y _ HY.out).mono ?_
    rintro e w2 ⟨rfl, rfl⟩
    go_wp2_with fail
    refine (sfind_any _ len cap r y _ (HI.out.keepB hb1 (Nat.le_refl _)) HZ.out HM.out).mono ?_
    rintro e w2 ⟨rfl, rfl⟩
    rw [HFY.out]
    go_wp2_with fail
    refine (sfind_any _ len cap r x _ (HI.out.keepB hb1 (Nat.le_refl _)) HZ.out HM.out).mono ?_
    rintro e w2 ⟨rfl, rfl⟩
    rw [HFX.out]
    go_wp2_with fail
    refine (sbetw_as _ _ _ _ _ HBT.out).mono ?_
    rintro e w2 ⟨rfl, rfl⟩
    go_wp2_with fail
    refine (copy_any _ len cap r _ (HI.out.keepB hb1 (Nat.le_refl _)) HZ.out HV.out).mono ?_
    rintro e w2 ⟨N, c2, F, rfl, ho, h1, h2, hB⟩
    have HO := Lib.hid ho
    have HC := Lib.hid (And.intro h1 h2)
    clear ho h1 h2
    go_wp2
    go_ret2
    have e0 : joinB r x y = false := by unfold joinB; rw [HBT2.out]; simp
    rw [joinR, HA.out, e0, if_pos rfl, if_neg (by simp), Bool.and_false]
    exact NewOwn.toRB hb1 HO.out HC.out.1 HC.out.2 hB _ (by simp)
  have HBT : Hid (btwI y x (gt (gn r (idxR r y)).aft 0) = true) := hbt
  have HJ : Hid (joinB r x y = true) := by show joinB r x y = true; unfold joinB; rw [HL.out, HLX.out, hbt, decide_eq_true (by have := HZ.out; omega)]; rfl
  clear hbt
  obtain ⟨_, _, hnd, hio, _⟩ := join_pre HA.out HJ.out
  have HND := Lib.hid hnd
  have HIO := Lib.hid hio
  clear hnd hio
  go_enter Try.func89, Try.ntmps89
  go_wp2_with fail
  refine (ssafe_as _ a len cap r w HI.out HZ.out HM.out HS.out).mono ?_
  rintro e w1 ⟨rfl, hb1⟩
  obtain ⟨b, off, b3, o3, sc, rfl, hb0, hb3, hsc, hscm, hc0, hc1, hc2, hx3, hy3, hin0⟩ := ring_node (HI.out.keepB hb1 (Nat.le_refl _)) HV.out hir
  have HIN := Lib.hid hin0
  clear hin0
  go_wp2_with fail
  refine (point_as _ x _ HX.out).mono ?_
  rintro e w2 ⟨rfl, rfl⟩
  go_wp2_with fail
  refine (point_as _ y _ HY.out).mono ?_
  rintro e w2 ⟨rfl, rfl⟩
  go_wp2_with fail
  refine (sfind_any _ len cap r y _ (HI.out.keepB hb1 (Nat.le_refl _)) HZ.out HM.out).mono ?_
  rintro e w2 ⟨rfl, rfl⟩
  rw [HFY.out]
  go_wp2_with fail
  refine (sfind_any _ len cap r x _ (HI.out.keepB hb1 (Nat.le_refl _)) HZ.out HM.out).mono ?_
  rintro e w2 ⟨rfl, rfl⟩
  rw [HFX.out]
  go_wp2_with fail
  refine (sbetw_as _ _ _ _ _ HBT.out).mono ?_
  rintro e w2 ⟨rfl, rfl⟩
  have hring1 := HI.out.keepB hb1 (Nat.le_refl _)
  obtain ⟨b', off', L, hab, _, hLm, hLc, hLi⟩ := ring_list hring1 (by omega)
  injection hab with hab
  injection hab with hbb hoo
  subst hbb hoo
  have hLl : L.length = len := by have := congrArg List.length hLm; simp at this; rw [this]; exact HZ.out
  have HLM := Lib.hid hLm
  have HLC := Lib.hid hLc
  have HLI := Lib.hid hLi
  have HLL := Lib.hid hLl
  clear hring1 hLm hLc hLi hLl
  go_wp2
  go_loopw [9, 10] (fun v q wr => ∃ j : Nat, j ≤ len ∧ q = .int .i64 j ∧ (∀ q', q' < j → (gn r q').pos < x) ∧ RowSoFar (L.take j) w1 v wr) (fun _ q _ => len - (intOf q).toNat)
  case atStart => exact ⟨0, by omega, rfl, fun q hq => absurd hq (by omega), by simpa using rowfar_new w1 _ rfl⟩
  case round =>
    obtain ⟨j, hj, rfl, hall, g, gc, rfl, hrow, hbel⟩ := hrel
    have hlj : (L.take j).length = j := by rw [List.length_take, HLL.out]; omega
    have HLJ := Lib.hid hlj
    have HALL := Lib.hid hall
    have HR := Lib.hid hrow
    have hgl := hrow.blk.1
    have hz1 := hbel.size
    rw [hlj]
    clear hlj hall hrow
    have k2 : wr.cell? ⟨b, off + idxR r y * 3 + 2, none⟩ = some (.slice (some ⟨b3, o3, none⟩) 2 sc) := (hbel.cell (p := ⟨b, off + idxR r y * 3 + 2, none⟩) hb0).trans hc2
    have hcont : (j < len ∧ (gn r j).pos < x) ∨ (cntR r x = j ∧ (j = len ∨ j < len ∧ ¬ (gn r j).pos < x)) := by
      by_cases h1 : j < len
      · by_cases h2 : (gn r j).pos < x
        · exact .inl ⟨h1, h2⟩
        · exact .inr ⟨cnt_unique (by rw [HZ.out]; exact hj) HALL.out (fun _ => h2), .inr ⟨h1, h2⟩⟩
      · exact .inr ⟨cnt_unique (by rw [HZ.out]; exact hj) HALL.out (fun h => absurd h (by rw [HZ.out]; exact h1)), .inl (by omega)⟩
    rcases hcont with ⟨hlt, hpx⟩ | ⟨hcnt, hend⟩
    · have hjr : j < r.length := by rw [HZ.out]; exact hlt
      obtain ⟨p, hp⟩ : ∃ p, L[j]? = some p := ⟨_, List.getElem?_eq_getElem (by rw [HLL.out]; exact hlt)⟩
      have hp1 : p.1 = gn r j := by
        have := congrArg (fun l : List Nd => l[j]?) HLM.out
        simp [hp] at this
        rw [gn_get hjr]
        rw [List.getElem?_eq_getElem hjr] at this
        exact Option.some.inj this
      obtain ⟨f0, f1, f2⟩ := flatL_at hp
      have e0 := (hbel.cell (p := ⟨b, off + j * 3, none⟩) hb0).trans (HLC.out _ _ f0)
      have e1 := (hbel.cell (p := ⟨b, off + (j * 3 + 1), none⟩) hb0).trans (HLC.out _ _ f1)
      have e2 := (hbel.cell (p := ⟨b, off + (j * 3 + 2), none⟩) hb0).trans (HLC.out _ _ f2)
      rw [hp1] at e0 e1
      rw [← Nat.add_assoc] at e1 e2
      have hmem := List.mem_of_getElem? hp
      have hpo : IntsOff wr g p.2 p.1.aft := ((HLI.out p hmem).offNew hgl).keepB hbel (Nat.le_refl _)
      obtain ⟨sv, cv, hsv, _⟩ := id hpo
      have hp1' : p = (gn r j, .slice sv (gn r j).aft.length cv) := by rw [← hp1, ← hsv]
      have HPO := Lib.hid hpo
      have HP := Lib.hid hp
      have HP1 := Lib.hid hp1'
      rw [hsv, hp1] at e2
      have HTK : Hid (L.take (j + 1) = L.take j ++ [p]) := by show _ = _; rw [List.take_add_one, hp]; rfl
      clear f0 f1 f2 hp hp1 hpo hsv hp1'
      have t0 : decide ((gn r j).pos < x) = true := by simp; exact hpx
      go_wp2_with (at_builtin; refine wl_appN _ (by rfl) _ _ (by rfl) w1.heap.size g j gc (L.take j) [p] (by rfl) (HR.out.keepB ((Below.refl _ _).alloc (Nat.le_refl _) _) (Nat.le_refl _)) HLJ.out ⟨wr.heap.size, 0, none⟩ 1 1 (by rfl) rfl (by rw [HP1.out]; exact srcN_one (heap_alloc_new wr _)) (fun q hq => by rw [List.mem_singleton] at hq; subst hq; exact HPO.out.keepB ((Below.refl _ _).alloc (Nat.le_refl _) _) (Nat.le_refl _)) (j + 1) rfl (by omega) (by simp; omega) ?_; intro g5 cap5 w5 hown5 hg5 hat5)
      go_roundw
      case rel =>
        refine ⟨j + 1, by omega, by go_num, fun q hq => ?_, g5, cap5, ?_, by rw [HTK.out]; exact hown5, (hbel.alloc hz1 _).grown hg5 (by simp; omega) (fun q hq => by injection hq with hq; omega)⟩
        · rcases Nat.lt_or_ge q j with h | h
          · exact HALL.out q h
          · rw [show q = j by omega]; exact hpx
        · rw [HTK.out, List.length_append, HLJ.out]; rfl
      case measure => simp [intOf]; omega
    · have HCN := Lib.hid hcnt
      have hin : IntsAt wr (some ⟨b3, o3, none⟩) (gn r (idxR r y)).aft := HIN.out.keepB hbel (Nat.le_refl _)
      have hl2 : (gn r (idxR r y)).aft.length = 2 := by rw [(nd_open HV.out (by rw [HZ.out]; exact hil)).2.2.2.2]; rfl
      have hnoff : IntsOff wr g (.slice (some ⟨b3, o3, none⟩) 2 sc) (joinN r x y).aft := by
        have hjn : (joinN r x y).aft = (gn r (idxR r y)).aft := rfl
        rw [hjn]
        have hv1 : IntsV w1 (.slice (some ⟨b3, o3, none⟩) 2 sc) (gn r (idxR r y)).aft := ⟨some ⟨b3, o3, none⟩, sc, by rw [hl2], by omega, hscm, HIN.out⟩
        exact (hv1.offNew hgl).keepB hbel (Nat.le_refl _)
      have HNO := Lib.hid hnoff
      have HJA : Hid ((joinN r x y).aft.length = 2) := hl2
      have HJL : Hid ((insR r j (joinN r x y)).length = len + 1) := by show _ = _; rw [ins_len (by rw [HZ.out]; exact hj), HZ.out]
      have HJV : Hid (rvB (insR r j (joinN r x y)) = true) := by show _ = _; rw [← hcnt]; exact ins_rv HV.out (by rw [HZ.out]; omega) HND.out HIO.out
      have HBA : Hid (∀ o, Below wr.heap.size wr (wr.alloc o)) := fun o => (Below.refl _ _).alloc (Nat.le_refl _) _
      clear hcnt hin hnoff hl2
      have s0 : (0 : Int) ≤ (j : Int) := by omega
      have s1 : (j : Int) ≤ (len : Int) := by omega
      have s2 : (j : Int) ≤ (cap : Int) := by omega
      have s3 : j ≤ len := hj
      have s4 : j ≤ cap := by omega
      have hpos : (decide ((j : Int) < (len : Int)) = false) ∨ (decide ((j : Int) < (len : Int)) = true ∧ decide ((gn r j).pos < x) = false ∧ j < len) := by
        rcases hend with h | ⟨h1, h2⟩
        · exact .inl (by simp; omega)
        · exact .inr ⟨by simp; omega, by simp; omega, h1⟩
      clear hend
      have hfin : ∀ (g5 cap5 : Nat) (w5 : World) (M : List (Nd × Value)), M.map (fun p => p.1) = r.drop j → RowL w5 w1.heap.size g5 cap5 ((L.take j ++ [(joinN r x y, .slice (some ⟨b3, o3, none⟩) 2 sc)]) ++ M) → RingAt w5 (some ⟨g5, 0, none⟩) (insR r j (joinN r x y)) := by
        intro g5 cap5 w5 M hM hrow5
        have h5 := hrow5.ring
        have em : ((L.take j ++ [(joinN r x y, .slice (some ⟨b3, o3, none⟩) 2 sc)]) ++ M : List (Nd × Value)).map (fun p => p.1) = insR r j (joinN r x y) := by
          rw [List.map_append, List.map_append, List.map_take, HLM.out, hM, List.append_assoc]; rfl
        rw [em] at h5; exact h5
      have HFIN := Lib.hid hfin
      have HDR : Hid ((L.drop j).map (fun p => p.1) = r.drop j) := by show _ = _; rw [List.map_drop, HLM.out]
      clear hfin
      rcases hpos with d3 | ⟨d3, d4, hjl⟩
      rotate_left
      · have hjr : j < r.length := by rw [HZ.out]; exact hjl
        obtain ⟨_, _, hnodes⟩ : ∃ u v, NodeAt wr b (off + j * 3) (gn r j) := by
          obtain ⟨b9, off9, hab9, hlt9, hn9⟩ := (HI.out.keepB (hb1.trans (hbel.mono hb1.size)) (Nat.le_refl _)).at_ hjr
          injection hab9 with hab9
          injection hab9 with h91 h92
          subst h91 h92
          exact ⟨0, 0, hn9 j hjr⟩
        have e0 := hnodes.1
        clear hnodes
        have hck : ¬ cap = j := by omega
        go_wp2_with (at_builtin; first
          | (refine wl_appN (o := ⟨some 92, _, _, _, _, _⟩) _ (by rfl) _ _ (by rfl) w1.heap.size g j gc (L.take j) [(joinN r x y, .slice (some ⟨b3, o3, none⟩) 2 sc)] (by rfl) (HR.out.keepB (HBA.out _) (Nat.le_refl _)) HLJ.out ⟨wr.heap.size, 0, none⟩ 1 1 (by rfl) rfl (srcN_one (heap_alloc_new wr _)) (fun q hq => by rw [List.mem_singleton] at hq; subst hq; exact HNO.out.keepB (HBA.out _) (Nat.le_refl _)) (j + 1) rfl (by omega) (by simp; omega) ?_
             intro g3 cap3 w3 hown3 hg3 hat3
             have hB3 : Below w1.heap.size w1 w3 := (hbel.alloc hz1 _).grown hg3 (by simp; omega) (fun q hq => by injection hq with hq; omega)
             have hg31 := hown3.blk.1)
          | (refine wl_appN (o := ⟨some 97, _, _, _, _, _⟩) _ (by rfl) _ _ (by rfl) w1.heap.size g3 (j + 1) cap3 (L.take j ++ [(joinN r x y, .slice (some ⟨b3, o3, none⟩) 2 sc)]) (L.drop j) (by rfl) hown3 (by rw [List.length_append, HLJ.out]; rfl) ⟨b, off + j * 3, none⟩ (len - j) (cap - j) (by rfl) (by rw [List.length_drop, HLL.out]) (fun q u hu => by rw [add_plain, Nat.add_assoc]; exact (hB3.cell (p := ⟨b, off + (j * 3 + q), none⟩) hb0).trans (HLC.out _ u (flat_drop (by rw [HLL.out]; omega) hu))) (fun p hp => ((HLI.out p (List.mem_of_mem_drop hp)).offNew hg31).keepB hB3 (Nat.le_refl _)) (len + 1) (by omega) (by omega) hB3.size ?_
             intro g5 cap5 w5 hown5 hg5 hat5
             have hB5 : Below w1.heap.size w1 w5 := hB3.grown hg5 hB3.size (fun q hq => by injection hq with hq; omega)))
        have hR5 := HFIN.out g5 cap5 w5 _ HDR.out hown5
        have HR5 := Lib.hid hR5
        have hb5 : Below w.heap.size w w5 := hb1.trans (hB5.mono hb1.size)
        clear hR5 hown5 hg5 hat5 hown3 hg3 hat3
        go_wp2_with fail
        refine (copy_any _ _ _ (insR r j (joinN r x y)) w5 HR5.out (by first | exact HJL.out | (rw [HJL.out]; omega)) HJV.out).mono ?_
        rintro e w7 ⟨N, c2, F, rfl, ho, h1, h2, hB⟩
        have HO := Lib.hid ho
        have HC := Lib.hid (And.intro h1 h2)
        clear ho h1 h2
        rw [HJL.out]
        go_wp2
        go_ret2
        rw [joinR, HA.out, HJ.out, if_pos rfl, if_pos rfl, HCN.out, Bool.and_true]
        exact NewOwn.toRB hb5 HO.out HC.out.1 HC.out.2 hB _ (by rw [HJL.out])
      · have hjl : len = j := by simp at d3; omega
        subst hjl
        clear d3 s1 s2
        have hdr : L.drop len = [] := List.drop_eq_nil_of_le (by rw [HLL.out]; omega)
        have HDR0 := Lib.hid hdr
        clear hdr
        have s5 : (len : Int) ≤ (cap : Int) := by omega
        by_cases hck : cap = len
        · go_wp2_with (at_builtin; first
            | (refine wl_appN (o := ⟨some 92, _, _, _, _, _⟩) _ (by rfl) _ _ (by rfl) w1.heap.size g len gc (L.take len) [(joinN r x y, .slice (some ⟨b3, o3, none⟩) 2 sc)] (by rfl) (HR.out.keepB (HBA.out _) (Nat.le_refl _)) HLJ.out ⟨wr.heap.size, 0, none⟩ 1 1 (by rfl) rfl (srcN_one (heap_alloc_new wr _)) (fun q hq => by rw [List.mem_singleton] at hq; subst hq; exact HNO.out.keepB (HBA.out _) (Nat.le_refl _)) (len + 1) rfl (by omega) (by simp; omega) ?_
               intro g3 cap3 w3 hown3 hg3 hat3
               have hB3 : Below w1.heap.size w1 w3 := (hbel.alloc hz1 _).grown hg3 (by simp; omega) (fun q hq => by injection hq with hq; omega)
               have hg31 := hown3.blk.1)
            | (refine wl_appN (o := ⟨some 97, _, _, _, _, _⟩) _ (by rfl) _ _ (by rfl) w1.heap.size g3 (len + 1) cap3 (L.take len ++ [(joinN r x y, .slice (some ⟨b3, o3, none⟩) 2 sc)]) [] (by rfl) hown3 (by rw [List.length_append, HLJ.out]; rfl) ⟨b, off, none⟩ 0 0 (by rfl) rfl (fun q u hu => by simp [flatL] at hu) (fun p hp => by cases hp) (len + 1) (by omega) (by omega) hB3.size ?_
               intro g5 cap5 w5 hown5 hg5 hat5
               have hB5 : Below w1.heap.size w1 w5 := hB3.grown hg5 hB3.size (fun q hq => by injection hq with hq; omega)))
          have hR5 := HFIN.out g5 cap5 w5 _ (by rw [← HDR.out, HDR0.out]) hown5
          have HR5 := Lib.hid hR5
          have hb5 : Below w.heap.size w w5 := hb1.trans (hB5.mono hb1.size)
          clear hR5 hown5 hg5 hat5 hown3 hg3 hat3
          go_wp2_with fail
          refine (copy_any _ _ _ (insR r len (joinN r x y)) w5 HR5.out (by first | exact HJL.out | (rw [HJL.out]; omega)) HJV.out).mono ?_
          rintro e w7 ⟨N, c2, F, rfl, ho, h1, h2, hB⟩
          have HO := Lib.hid ho
          have HC := Lib.hid (And.intro h1 h2)
          clear ho h1 h2
          rw [HJL.out]
          go_wp2
          go_ret2
          rw [joinR, HA.out, HJ.out, if_pos rfl, if_pos rfl, HCN.out, Bool.and_true]
          exact NewOwn.toRB hb5 HO.out HC.out.1 HC.out.2 hB _ (by rw [HJL.out])
        · go_wp2_with (at_builtin; first
            | (refine wl_appN (o := ⟨some 92, _, _, _, _, _⟩) _ (by rfl) _ _ (by rfl) w1.heap.size g len gc (L.take len) [(joinN r x y, .slice (some ⟨b3, o3, none⟩) 2 sc)] (by rfl) (HR.out.keepB (HBA.out _) (Nat.le_refl _)) HLJ.out ⟨wr.heap.size, 0, none⟩ 1 1 (by rfl) rfl (srcN_one (heap_alloc_new wr _)) (fun q hq => by rw [List.mem_singleton] at hq; subst hq; exact HNO.out.keepB (HBA.out _) (Nat.le_refl _)) (len + 1) rfl (by omega) (by simp; omega) ?_
               intro g3 cap3 w3 hown3 hg3 hat3
               have hB3 : Below w1.heap.size w1 w3 := (hbel.alloc hz1 _).grown hg3 (by simp; omega) (fun q hq => by injection hq with hq; omega)
               have hg31 := hown3.blk.1)
            | (refine wl_appN (o := ⟨some 97, _, _, _, _, _⟩) _ (by rfl) _ _ (by rfl) w1.heap.size g3 (len + 1) cap3 (L.take len ++ [(joinN r x y, .slice (some ⟨b3, o3, none⟩) 2 sc)]) [] (by rfl) hown3 (by rw [List.length_append, HLJ.out]; rfl) ⟨b, off + len * 3, none⟩ 0 (cap - len) (by rfl) rfl (fun q u hu => by simp [flatL] at hu) (fun p hp => by cases hp) (len + 1) (by omega) (by omega) hB3.size ?_
               intro g5 cap5 w5 hown5 hg5 hat5
               have hB5 : Below w1.heap.size w1 w5 := hB3.grown hg5 hB3.size (fun q hq => by injection hq with hq; omega)))
          have hR5 := HFIN.out g5 cap5 w5 _ (by rw [← HDR.out, HDR0.out]) hown5
          have HR5 := Lib.hid hR5
          have hb5 : Below w.heap.size w w5 := hb1.trans (hB5.mono hb1.size)
          clear hR5 hown5 hg5 hat5 hown3 hg3 hat3
          go_wp2_with fail
          refine (copy_any _ _ _ (insR r len (joinN r x y)) w5 HR5.out (by first | exact HJL.out | (rw [HJL.out]; omega)) HJV.out).mono ?_
          rintro e w7 ⟨N, c2, F, rfl, ho, h1, h2, hB⟩
          have HO := Lib.hid ho
          have HC := Lib.hid (And.intro h1 h2)
          clear ho h1 h2
          rw [HJL.out]
          go_wp2
          go_ret2
          rw [joinR, HA.out, HJ.out, if_pos rfl, if_pos rfl, HCN.out, Bool.and_true]
          exact NewOwn.toRB hb5 HO.out HC.out.1 HC.out.2 hB _ (by rw [HJL.out])
end Go.Proofs.Ytfhjmfcdogpbeaa
