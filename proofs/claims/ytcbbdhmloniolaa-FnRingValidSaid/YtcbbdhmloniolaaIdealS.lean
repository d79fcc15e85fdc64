/- The ideal ring of the model. -/
import Derived.Test.YtcbbdhmloniolaaRowsN
import Derived.Test.YtcbbdhmloniolaaIdeal
namespace Go.Proofs.Ytcbbdhmloniolaa
open Go.RowKit
set_option linter.unusedVariables false

theorem idx_m {i n : Nat} (h : i < n) : ((i : Int) + n - 1).tmod n = ((i + n - 1) % n : Nat) := by
  rw [Int.tmod_eq_emod_of_nonneg (by omega), show (i : Int) + n - 1 = ((i + n - 1 : Nat) : Int) by omega]; exact (Int.natCast_emod _ _).symm
theorem idx_p {i n : Nat} (d : Nat) (h : i < n) : ((i : Int) + d).tmod n = ((i + d) % n : Nat) := by
  rw [Int.tmod_eq_emod_of_nonneg (by omega), show (i : Int) + d = ((i + d : Nat) : Int) by omega]; exact (Int.natCast_emod _ _).symm

theorem twoOff {W : World} {N g : Nat} {p q z1 z2 : Int} (h : W.heap[N]? = some (.cells #[.int .i64 z1, .int .i64 z2] 3 (0, 0))) (hg : g < N) :
    ∀ x ∈ [((⟨p, q, [z1, z2]⟩, .slice (some ⟨N, 0, none⟩) 2 2) : Nd × Value)], IntsOff W g x.2 x.1.aft := by
  intro x hx
  rw [List.mem_singleton] at hx
  subst hx
  refine ⟨some ⟨N, 0, none⟩, 2, rfl, Nat.le_refl _, by unfold maxLen; omega, .inr ⟨N, 0, rfl, by omega, heap_lt h, fun i hi => ?_⟩⟩
  rw [cell_of_cells h]
  have : i = 0 ∨ i = 1 := by simp at hi; omega
  rcases this with rfl | rfl <;> rfl
theorem idR_len (zs : List Int) : (idR zs).length = zs.length := by simp [idR]
theorem idR_at {zs : List Int} {i : Nat} (h : i < zs.length) : gn (idR zs) i = idNd zs i := by
  rw [gn_get (by rw [idR_len]; exact h)]; simp [idR]

set_option maxHeartbeats 2000000 in
theorem sideal_any (a : Option Addr) (len cap : Nat) (zs : List Int) (w : World) (h : IntsAt w a zs) (hz : zs.length = len) (hm : len ≤ 10) :
    Calls Try.prog 93 #[.slice a len cap] w (NewRing (idR zs) w) := by
  have HI := Lib.hid h
  have HZ := Lib.hid hz
  clear h hz
  go_enter Try.func93, Try.ntmps93
  go_wp2
  go_loopw [3, 5] (fun o i wr => ∃ (k : Nat) (L : List (Nd × Value)), k ≤ len ∧ i = .int .i64 k ∧ L.length = k ∧ L.map (·.1) = (List.range k).map (idNd zs) ∧ RowSoFar L w o wr) (fun _ i _ => len - (intOf i).toNat)
  case atStart => exact ⟨0, [], by omega, rfl, rfl, rfl, rowfar_new w _ rfl⟩
  case round =>
    obtain ⟨k, L, hk, rfl, hLl, hLm, g, gc, rfl, hrow, hbel⟩ := hrel
    have HLM := Lib.hid hLm
    have HLL := Lib.hid hLl
    rw [hLl]
    clear hLm hLl
    by_cases hlt : k < len
    · have h' : ∃ b off, a = some ⟨b, off, none⟩ ∧ b < w.heap.size ∧ ∀ j, j < len → wr.cell? ⟨b, off + j, none⟩ = some (.int .i64 (gt zs j)) := by
        rcases HI.out with h0 | ⟨b, off, ha, hb, hc⟩
        · have := HZ.out; rw [h0] at this; simp at this; omega
        · exact ⟨b, off, ha, hb, fun j hj => (hbel.cell (p := ⟨b, off + j, none⟩) hb).trans (hc j (by rw [HZ.out]; exact hj))⟩
      obtain ⟨b, off, rfl, hb, hc⟩ := h'
      have hm0 : (k + len - 1) % len < len := Nat.mod_lt _ (by omega)
      have hm1 : (k + 1) % len < len := Nat.mod_lt _ (by omega)
      have hm2 : (k + 2) % len < len := Nat.mod_lt _ (by omega)
      have c0 := hc k hlt
      have c1 := hc _ hm0
      have c2 := hc _ hm1
      have c3 := hc _ hm2
      have t0 := idx_m hlt
      have t1 : ((k : Int) + 1).tmod len = ((k + 1) % len : Nat) := idx_p 1 hlt
      have t2 : ((k : Int) + 2).tmod len = ((k + 2) % len : Nat) := idx_p 2 hlt
      have HE : Hid (idNd zs k = ⟨gt zs k, gt zs ((k + len - 1) % len), [gt zs ((k + 1) % len), gt zs ((k + 2) % len)]⟩) := by show idNd zs k = _; rw [idNd, HZ.out]
      clear hc
      generalize (k + len - 1) % len = jm at *
      generalize (k + 1) % len = j1 at *
      generalize (k + 2) % len = j2 at *
      generalize gt zs k = z0 at *
      generalize gt zs jm = zm at *
      generalize gt zs j1 = z1 at *
      generalize gt zs j2 = z2 at *
      have n0 : ¬ len = 0 := by omega
      have s0 : IntKind.i64.wrap ((k : Int) + len) = k + len := by rw [IntKind.wrap_i64]; omega
      have s1 : IntKind.i64.wrap ((k : Int) + len - 1) = k + len - 1 := by rw [IntKind.wrap_i64]; omega
      have s2 : IntKind.i64.wrap ((k : Int) + 1) = k + 1 := by rw [IntKind.wrap_i64]; omega
      have s3 : IntKind.i64.wrap ((k : Int) + 2) = k + 2 := by rw [IntKind.wrap_i64]; omega
      have wm : IntKind.i64.wrap (jm : Int) = jm := by rw [IntKind.wrap_i64]; omega
      have w1 : IntKind.i64.wrap (j1 : Int) = j1 := by rw [IntKind.wrap_i64]; omega
      have w2 : IntKind.i64.wrap (j2 : Int) = j2 := by rw [IntKind.wrap_i64]; omega
      have i0 : (0 : Int) ≤ (k : Int) := by omega
      have i1 : (k : Int) < (len : Int) := by omega
      have i2 : (0 : Int) ≤ (jm : Int) := by omega
      have i3 : (jm : Int) < (len : Int) := by omega
      have i4 : (0 : Int) ≤ (j1 : Int) := by omega
      have i5 : (j1 : Int) < (len : Int) := by omega
      have i6 : (0 : Int) ≤ (j2 : Int) := by omega
      have i7 : (j2 : Int) < (len : Int) := by omega
      have HR := Lib.hid hrow
      have hgl := hrow.blk
      clear hrow
      obtain ⟨wo, rfl⟩ : ∃ x, x = wr := ⟨_, rfl⟩
      have hz0 := hbel.size
      have HS : Hid (∀ w', Below w.heap.size wo w' → (w'.cell? ⟨b, off + k, none⟩ = some (.int .i64 z0) ∧ w'.cell? ⟨b, off + jm, none⟩ = some (.int .i64 zm) ∧ w'.cell? ⟨b, off + j1, none⟩ = some (.int .i64 z1) ∧ w'.cell? ⟨b, off + j2, none⟩ = some (.int .i64 z2))) := fun w' hw' =>
        ⟨(hw'.cell (p := ⟨b, off + k, none⟩) hb).trans c0, (hw'.cell (p := ⟨b, off + jm, none⟩) hb).trans c1, (hw'.cell (p := ⟨b, off + j1, none⟩) hb).trans c2, (hw'.cell (p := ⟨b, off + j2, none⟩) hb).trans c3⟩
      have HB : Hid (∀ o, Below wo.heap.size wo (wo.drew.alloc o)) := fun o => ((Below.refl _ _).drew).alloc (Nat.le_refl _) _
      have HB2 : Hid (∀ o o', Below wo.heap.size wo ((wo.drew.alloc o).alloc o')) := fun o o' => (HB.out o).alloc (by simp) _
      go_wp2_with fail
      go_region_held3 (fun w' => w'.cell? ⟨b, off + k, none⟩ = some (.int .i64 z0) ∧ w'.cell? ⟨b, off + jm, none⟩ = some (.int .i64 zm) ∧ w'.cell? ⟨b, off + j1, none⟩ = some (.int .i64 z1) ∧ w'.cell? ⟨b, off + j2, none⟩ = some (.int .i64 z2))
        (first | exact HS.out _ hB5 | exact HS.out _ ((HB2.out _ _).mono hz0) | exact HS.out _ ((HB.out _).mono hz0) | exact HS.out _ (Below.refl _ _).drew)
        (first | (refine step_appN (o := ⟨some 45, _, _, _, _, _⟩) _ (by rfl) (.tmp 14) (.tmp 44) (by rfl) w.heap.size g k gc L [(⟨z0, zm, [z1, z2]⟩, .slice (some ⟨wo.heap.size, 0, none⟩) 2 2)] (by rfl) (HR.out.keepB (HB2.out _ _) (Nat.le_refl _)) HLL.out ⟨wo.heap.size + 1, 0, none⟩ 1 1 (by rfl) rfl (srcN_one (heap_second wo.drew _ _)) (twoOff (heap_first wo.drew _ _) (by omega)) (k + 1) rfl (by omega) (by simp; omega) ?_; intro g5 cap5 w5 hown5 hg5 hat5; have hB5 : Below w.heap.size wo w5 := ((HB2.out _ _).mono hz0).grown hg5 (by simp; omega) (fun q hq => by injection hq with hq; omega)))
      go_wp2
      go_roundw
      case rel =>
        refine ⟨k + 1, _, by omega, by go_num, by rw [List.length_append, HLL.out]; rfl, ?_, g5, cap5, by rw [List.length_append, HLL.out]; rfl, hown5, hbel.trans hB5⟩
        rw [List.map_append, HLM.out, List.range_succ, List.map_append]
        simp [HE.out]
      case measure => simp [intOf]; omega
    · have hkk : k = zs.length := by rw [HZ.out]; omega
      have HK := Lib.hid hkk
      clear hkk
      have HR := Lib.hid hrow
      clear hrow
      go_wp2
      go_ret
      refine new_of_row ⟨g, gc, by rw [HLL.out]; rfl, HR.out, hbel⟩ ?_
      rw [HLM.out, HK.out]; rfl
end Go.Proofs.Ytcbbdhmloniolaa
