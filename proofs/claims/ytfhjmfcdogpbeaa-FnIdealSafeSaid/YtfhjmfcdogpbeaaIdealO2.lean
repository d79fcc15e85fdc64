/- The model's RingNew makes a ring in blocks of its own. -/
import Derived.Test.YtfhjmfcdogpbeaaIdealO
namespace Go.Proofs.Ytfhjmfcdogpbeaa
open Go.RowKit
set_option linter.unusedVariables false

theorem two_blk {W : World} {N : Nat} {x y : Int} (h : W.heap[N]? = some (.cells #[.int .i64 x, .int .i64 y] 3 (0, 0))) : IntsBlk W N [x, y] :=
  ⟨_, h, fun j hj => by
    have : j = 0 ∨ j = 1 := by simp at hj; omega
    rcases this with rfl | rfl <;> rfl⟩
theorem ownL_step {w wo W2 w5 : World} {g gc g3 c3 : Nat} {L : List (Nd × Value)} {F : Nat → Nat} {n : Nd} (hrow : RowL wo w.heap.size g gc L) (hbel : Below w.heap.size w wo) (ho : OwnL wo w.heap.size L F) (hB : Below wo.heap.size wo W2) (hi : IntsBlk W2 g3 n.aft)
    (h3 : wo.heap.size ≤ g3) (h31 : n.aft.length ≤ c3) (h32 : c3 ≤ maxLen) (hg5 : W2.grownBy w5 (some g)) : OwnL w5 w.heap.size (L ++ [(n, .slice (some ⟨g3, 0, none⟩) n.aft.length c3)]) (fun i => if i = L.length then g3 else F i) := by
  obtain ⟨hg1, hg2, cs, hgb, _⟩ := hrow.blk
  have hz := hB.size
  have hF : ∀ i, i < L.length → F i < wo.heap.size ∧ F i ≠ g := fun i hi => by
    obtain ⟨_, h2, _⟩ := ho.1 i _ (List.getElem?_eq_getElem hi)
    exact ⟨h2.lt, h2.ne hgb⟩
  have ho5 : OwnL w5 w.heap.size L F := ho.kept (fun i hi => (hg5.block _ (by have := (hF i hi).1; omega) (by intro e; injection e with e; exact (hF i hi).2 e)).trans (hB.block _ (hF i hi).1))
  have hi5 : IntsBlk w5 g3 n.aft := hi.kept (hg5.block _ hi.lt (by intro e; injection e with e; omega))
  exact ho5.add hi5 (by have := hbel.size; omega) (fun i hi => by have := (hF i hi).1; omega) h31 h32

set_option maxHeartbeats 2000000 in
theorem sidealO_any (a : Option Addr) (len cap : Nat) (zs : List Int) (w : World) (h : IntsAt w a zs) (hz : zs.length = len) (hm : len ≤ 10) :
    Calls Try.prog 59 #[.slice a len cap] w (NewOwn (idR zs) w) := by
  have HI := Lib.hid h
  have HZ := Lib.hid hz
  clear h hz
  go_enter Try.func59, Try.ntmps59
  go_wp2
  go_loopw [3, 5] (fun o i wr => ∃ (k : Nat) (L : List (Nd × Value)) (F : Nat → Nat), k ≤ len ∧ i = .int .i64 k ∧ L.length = k ∧ L.map (·.1) = (List.range k).map (idNd zs) ∧ RowSoFar L w o wr ∧ OwnL wr w.heap.size L F) (fun _ i _ => len - (intOf i).toNat)
  case atStart => exact ⟨0, [], fun _ => 0, by omega, rfl, rfl, rfl, rowfar_new w _ rfl, fun i p hp => by simp at hp, fun i j hi => absurd hi (by simp)⟩
  case round =>
    obtain ⟨k, L, F, hk, rfl, hLl, hLm, ⟨g, gc, rfl, hrow, hbel⟩, hownl⟩ := hrel
    have HOW := Lib.hid hownl
    clear hownl
    have HLM := Lib.hid hLm
    have HLL := Lib.hid hLl
    rw [hLl]
    clear hLm hLl
    by_cases hlt : k < len
    · have h' : ∃ b off, a = some ⟨b, off, none⟩ ∧ b < w.heap.size ∧ ∀ j, j < len → wr.cell? ⟨b, off + j, none⟩ = some (.int .i64 (gt zs j)) := by
        rcases HI.out with h0 | ⟨b, off, ha, hb, hc⟩
        · have := HZ.out; rw [h0] at this; simp at this; omega
        · exact ⟨b, off, ha, hb, fun j hj => (hbel.cell (p := ⟨b, off + j, none⟩) hb).trans (hc j (by rw [HZ.out]; exact hj))⟩
      obtain ⟨b, off, rfl, hb, hc⟩ := h'
      have hm0 : (k + len - 1) % len < len := Nat.mod_lt _ (by omega)
      have hm1 : (k + 1) % len < len := Nat.mod_lt _ (by omega)
      have hm2 : (k + 2) % len < len := Nat.mod_lt _ (by omega)
      have c0 := hc k hlt
      have c1 := hc _ hm0
      have c2 := hc _ hm1
      have c3 := hc _ hm2
      have t0 := idx_m hlt
      have t1 : ((k : Int) + 1).tmod len = ((k + 1) % len : Nat) := idx_p 1 hlt
      have t2 : ((k : Int) + 2).tmod len = ((k + 2) % len : Nat) := idx_p 2 hlt
      have HE : Hid (idNd zs k = ⟨gt zs k, gt zs ((k + len - 1) % len), [gt zs ((k + 1) % len), gt zs ((k + 2) % len)]⟩) := by show idNd zs k = _; rw [idNd, HZ.out]
      clear hc
      generalize (k + len - 1) % len = jm at *
      generalize (k + 1) % len = j1 at *
      generalize (k + 2) % len = j2 at *
      generalize gt zs k = z0 at *
      generalize gt zs jm = zm at *
      generalize gt zs j1 = z1 at *
      generalize gt zs j2 = z2 at *
      have n0 : ¬ len = 0 := by omega
      have s0 : IntKind.i64.wrap ((k : Int) + len) = k + len := by rw [IntKind.wrap_i64]; omega
      have s1 : IntKind.i64.wrap ((k : Int) + len - 1) = k + len - 1 := by rw [IntKind.wrap_i64]; omega
      have s2 : IntKind.i64.wrap ((k : Int) + 1) = k + 1 := by rw [IntKind.wrap_i64]; omega
      have s3 : IntKind.i64.wrap ((k : Int) + 2) = k + 2 := by rw [IntKind.wrap_i64]; omega
      have wm : IntKind.i64.wrap (jm : Int) = jm := by rw [IntKind.wrap_i64]; omega
      have w1 : IntKind.i64.wrap (j1 : Int) = j1 := by rw [IntKind.wrap_i64]; omega
      have w2 : IntKind.i64.wrap (j2 : Int) = j2 := by rw [IntKind.wrap_i64]; omega
      have i0 : (0 : Int) ≤ (k : Int) := by omega
      have i1 : (k : Int) < (len : Int) := by omega
      have i2 : (0 : Int) ≤ (jm : Int) := by omega
      have i3 : (jm : Int) < (len : Int) := by omega
      have i4 : (0 : Int) ≤ (j1 : Int) := by omega
      have i5 : (j1 : Int) < (len : Int) := by omega
      have i6 : (0 : Int) ≤ (j2 : Int) := by omega
      have i7 : (j2 : Int) < (len : Int) := by omega
      have HR := Lib.hid hrow
      have hgl := hrow.blk
      clear hrow
      obtain ⟨wo, rfl⟩ : ∃ x, x = wr := ⟨_, rfl⟩
      have hz0 := hbel.size
      have HS : Hid (∀ w', Below w.heap.size wo w' → (w'.cell? ⟨b, off + k, none⟩ = some (.int .i64 z0) ∧ w'.cell? ⟨b, off + jm, none⟩ = some (.int .i64 zm) ∧ w'.cell? ⟨b, off + j1, none⟩ = some (.int .i64 z1) ∧ w'.cell? ⟨b, off + j2, none⟩ = some (.int .i64 z2))) := fun w' hw' =>
        ⟨(hw'.cell (p := ⟨b, off + k, none⟩) hb).trans c0, (hw'.cell (p := ⟨b, off + jm, none⟩) hb).trans c1, (hw'.cell (p := ⟨b, off + j1, none⟩) hb).trans c2, (hw'.cell (p := ⟨b, off + j2, none⟩) hb).trans c3⟩
      have HB : Hid (∀ o, Below wo.heap.size wo (wo.drew.alloc o)) := fun o => ((Below.refl _ _).drew).alloc (Nat.le_refl _) _
      have HB2 : Hid (∀ o o', Below wo.heap.size wo ((wo.drew.alloc o).alloc o')) := fun o o' => (HB.out o).alloc (by simp) _
      go_wp2_with fail
      go_region_held3 (fun w' => w'.cell? ⟨b, off + k, none⟩ = some (.int .i64 z0) ∧ w'.cell? ⟨b, off + jm, none⟩ = some (.int .i64 zm) ∧ w'.cell? ⟨b, off + j1, none⟩ = some (.int .i64 z1) ∧ w'.cell? ⟨b, off + j2, none⟩ = some (.int .i64 z2))
        (first | exact HS.out _ hB5 | exact HS.out _ ((HB2.out _ _).mono hz0) | exact HS.out _ ((HB.out _).mono hz0) | exact HS.out _ (Below.refl _ _).drew)
        (first | (refine step_appN (o := ⟨some 45, _, _, _, _, _⟩) _ (by rfl) (.tmp 14) (.tmp 44) (by rfl) w.heap.size g k gc L [(⟨z0, zm, [z1, z2]⟩, .slice (some ⟨wo.heap.size, 0, none⟩) 2 2)] (by rfl) (HR.out.keepB (HB2.out _ _) (Nat.le_refl _)) HLL.out ⟨wo.heap.size + 1, 0, none⟩ 1 1 (by rfl) rfl (srcN_one (heap_second wo.drew _ _)) (twoOff (heap_first wo.drew _ _) (by omega)) (k + 1) rfl (by omega) (by simp; omega) ?_; intro g5 cap5 w5 hown5 hg5 hat5; have hOW5 := ownL_step (n := ⟨z0, zm, [z1, z2]⟩) (c3 := 2) HR.out hbel HOW.out (HB2.out _ _) (two_blk (heap_first wo.drew _ _)) (Nat.le_refl _) (Nat.le_refl _) (by unfold maxLen; omega) hg5; have hB5 : Below w.heap.size wo w5 := ((HB2.out _ _).mono hz0).grown hg5 (by simp; omega) (fun q hq => by injection hq with hq; omega)))
      go_wp2
      go_roundw
      case rel =>
        refine ⟨k + 1, _, _, by omega, by go_num, by rw [List.length_append, HLL.out]; rfl, ?_, ⟨g5, cap5, by rw [List.length_append, HLL.out]; rfl, hown5, hbel.trans hB5⟩, hOW5⟩
        rw [List.map_append, HLM.out, List.range_succ, List.map_append]
        simp [HE.out]
      case measure => simp [intOf]; omega
    · have hkk : k = zs.length := by rw [HZ.out]; omega
      have HK := Lib.hid hkk
      clear hkk
      have HR := Lib.hid hrow
      clear hrow
      go_wp2
      go_ret
      have hfull : L.map (fun p => p.1) = idR zs := by rw [HLM.out, HK.out]; rfl
      obtain ⟨h1, _, _, _, h2, h3, _⟩ := HR.out.blk
      have hrl : (idR zs).length = k := by rw [idR_len]; exact HK.out.symm
      exact ⟨g, gc, F, by rw [hrl]; rfl, own_of_row HR.out HOW.out hfull h1, by rw [hrl, ← HLL.out]; exact h2, h3, hbel⟩

set_option maxHeartbeats 1000000 in
theorem srnewO_any (a : Option Addr) (len cap : Nat) (zs : List Int) (w : World) (h : IntsAt w a zs) (hz : zs.length = len) (hm : len ≤ maxLen) :
    Calls Try.prog 40 #[.slice a len cap] w (NewRB (newR zs) (newB zs) w) := by
  have HI := Lib.hid h
  have HZ := Lib.hid hz
  have HM := Lib.hid hm
  clear h hm
  have HN : Hid (∀ w1 : World, Same w w1 → ∀ cs, NewRB [] false w (.returned (.tuple #[.slice (some ⟨w1.heap.size, 0, none⟩) 0 0, .bool false])) (w1.alloc (.cells cs 30))) := fun w1 hs cs =>
    (newRB_nil w1 cs).mono (hs.below w.heap.size)
  cases hv : vldB zs
  · have He : Hid (newB zs = false) := by show newB zs = false; simp [newB, hv]
    have HV := Lib.hid hv
    clear hv hz
    go_enter Try.func40, Try.ntmps40
    go_wp2_with fail
    refine (svalid_as false a len cap zs w HI.out HZ.out HM.out HV.out).mono ?_
    rintro e w1 ⟨rfl, hs1⟩
    go_wp2
    go_ret2
    rw [newR, He.out]
    exact HN.out w1 hs1 _
  have HV := Lib.hid hv
  have h10 := (vld_len hv).2
  rw [hz] at h10
  by_cases h3 : 3 ≤ len
  rotate_left
  · have He : Hid (newB zs = false) := by show newB zs = false; simp [newB, hv, hz]; omega
    have d3 : decide ((len : Int) < 3) = true := by simp; omega
    clear hv hz
    go_enter Try.func40, Try.ntmps40
    go_wp2_with fail
    refine (svalid_as true a len cap zs w HI.out HZ.out HM.out HV.out).mono ?_
    rintro e w1 ⟨rfl, hs1⟩
    go_wp2
    go_ret2
    rw [newR, He.out]
    exact HN.out w1 hs1 _
  have He : Hid (newB zs = true) := by show newB zs = true; simp [newB, hv, hz, h3]
  have d3 : decide ((len : Int) < 3) = false := by simp; omega
  clear hv hz
  go_enter Try.func40, Try.ntmps40
  go_wp2_with fail
  refine (svalid_as true a len cap zs w HI.out HZ.out HM.out HV.out).mono ?_
  rintro e w1 ⟨rfl, hs1⟩
  have hb1 : Below w.heap.size w w1 := hs1.below _
  go_wp2_with fail
  refine (sidealO_any a len cap zs w1 (HI.out.keepB hb1 (Nat.le_refl _)) HZ.out h10).mono ?_
  rintro e w2 ⟨g, gc, F2, rfl, hr2, hl2, hm2, hb2⟩
  have HR2 := Lib.hid hr2
  have HL2 := Lib.hid (And.intro hl2 hm2)
  clear hr2 hl2 hm2
  go_wp2
  go_ret2
  rw [newR, He.out, if_pos rfl]
  exact ⟨g, gc, F2, rfl, HR2.out.wide hb1.size (Nat.le_refl _), HL2.out.1, HL2.out.2, hb1.trans (hb2.mono hb1.size)⟩

end Go.Proofs.Ytfhjmfcdogpbeaa
