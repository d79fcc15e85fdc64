/- The draw of chapter 31 with a node of the table. -/
import Derived.Test.YtidabcdaodlfeaaPlDraw2
namespace Go.Proofs.Ytidabcdaodlfeaa
open Go.RowKit
set_option linter.unusedVariables false

set_option maxHeartbeats 2000000 in
theorem drawPlaceLoad (s : Option Addr) (len cap : Nat) (w : World) (h : BytesAt w s len cap) :
    Calls Try.prog 29 #[.slice s len cap] w (DrewTN w) := by
  go_enter Try.func29, Try.ntmps29
  go_wp2_with fail
  refine (open_any s len cap w h).mono ?_
  rintro e w0 ⟨rfl, hr0, hb0, hz0⟩
  have HZ := Lib.hid hz0
  clear hz0
  go_wp2_with fail
  refine (table_any w.heap.size 900000 w0 (hr0.less (by omega))).mono ?_
  rintro e w1 ⟨g, c, L, rfl, hl, ho, hr1, hg1⟩
  have HO := Lib.hid ho
  have HG := Lib.hid hg1
  have hsz : w.heap.size < w0.heap.size := by have := HZ.out; omega
  have hgb := ho.blk.1
  obtain ⟨n, hn⟩ : ∃ n, L.length = n := ⟨_, rfl⟩
  rw [hn] at hl ⊢
  have HN := Lib.hid hn
  have FIN : Hid (∀ (w2 : World) (x : Int), w1.grownBy w2 (some w.heap.size) → DrewTN w (.returned (.tuple #[.slice (some ⟨g, 0, none⟩) n c, .int .i64 x])) w2) := Lib.hid (fun w2 x hg => by
    have e : n = L.length := HN.out.symm
    subst e
    exact ⟨g, c, L, x, rfl, hl, (HO.out.grownQ hg hsz).less hb0.size, below_of_grown hb0 (Nat.le_refl _) (by have := HZ.out; omega) (grown_trans HG.out hg)⟩)
  clear ho hg1 hn
  rcases Nat.eq_zero_or_pos n with h0 | h0
  · subst h0
    go_wp2_with fail
    refine (point_r w.heap.size 10 w1 (hr1.less (by omega))).mono ?_
    rintro e w2 ⟨x, hx0, hx1, rfl, hr2, hk2⟩
    go_wp2
    go_ret2
    exact FIN.out _ _ hk2.grown
  have h0' : (0 : Int) < (n : Int) := by omega
  go_wp2_with fail
  refine (pick_r w.heap.size 1000 4 w1 (hr1.less (by omega)) (by omega) (by omega)).mono ?_
  rintro e w2 ⟨p, hp0, hp1, rfl, hr2, hk2⟩
  have HK2 := Lib.hid hk2
  have HO2 := Lib.hid (HO.out.grownQ hk2.grown hsz)
  clear hk2 hr1
  by_cases hp : p = 0
  · subst hp
    go_wp2_with fail
    refine (point_r w.heap.size 10 w2 (hr2.less (by omega))).mono ?_
    rintro e w3 ⟨x, hx0, hx1, rfl, hr3, hk3⟩
    go_wp2
    go_ret2
    exact FIN.out _ _ (grown_trans HK2.out.grown hk3.grown)
  · have hp' : (0 : Int) < p := by omega
    have HC : Hid (∀ j, j < n → w2.cell? ⟨g, j * 2 + 1, none⟩ = some (.int .i64 (gk L j).n)) := Lib.hid (fun j hj => (HO2.out.cells (i := j) (by rw [HN.out]; exact hj)).2)
    go_wp2
    go_region_with ((go_at_call 47; refine (pick_r w.heap.size 500 _ _ (by exact hr2.less (by omega)) (by omega) (by omega)).mono ?_; rintro e w3 ⟨u, hu0, hu1, rfl, hr3, hk3⟩; obtain ⟨j, rfl⟩ := Int.eq_ofNat_of_zero_le hu0; have hcj : w3.cell? ⟨g, j * 2 + 1, none⟩ = some (.int .i64 (gk L j).n) := (hk3.cell (p := ⟨g, j * 2 + 1, none⟩) (by show g ≠ w.heap.size; omega)).trans (HC.out j (by omega))))
    all_goals
      go_wp2
      go_ret2
      exact FIN.out _ _ (grown_trans HK2.out.grown ⟨hk3.os, hk3.tape, hk3.output, Nat.le_of_eq hk3.size.symm, fun k hk hn => hk3.block k (fun e => hn (by rw [e]))⟩)
end Go.Proofs.Ytidabcdaodlfeaa
