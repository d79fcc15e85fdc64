/- Drawing lookups; comparing two slices of numbers in the laws. -/
import Derived.Test.YtlkpgkhggknphaaRowsI
import Derived.Deep.RegionWith
namespace Go.Proofs.Ytlkpgkhggknphaa
open Go.RowKit
set_option linter.unusedVariables false

attribute [local go_sem ↓] Go.wp_at_zero Go.wp_at_succ

set_option maxHeartbeats 1000000 in
theorem sameI_any (a1 a2 : Option Addr) (len cap1 cap2 : Nat) (zs : List Int) (w : World) (h1 : IntsAt w a1 zs) (h2 : IntsAt w a2 zs) (hz : zs.length = len) (hm : len ≤ 1048576) :
    Calls Try.prog 8 #[.slice a1 len cap1, .slice a2 len cap2] w fun e w' => e = .returned (.bool true) ∧ Same w w' := by
  have H1 := Lib.hid h1
  have H2 := Lib.hid h2
  have HZ := Lib.hid hz
  clear h1 h2 hz
  have hne : ((len : Int) != (len : Int)) = false := by simp
  go_enter Try.func8, Try.ntmps8
  go_wp2
  go_loopw [5] (fun i wr => ∃ k : Nat, k ≤ len ∧ i = .int .i64 k ∧ Same w wr) (fun i _ => len - (intOf i).toNat)
  case atStart => exact ⟨0, by omega, rfl, Same.refl _⟩
  case round =>
    obtain ⟨k, hk, rfl, hsame⟩ := hrel
    by_cases hlt : k < len
    · have h' : ∃ b off, a1 = some ⟨b, off, none⟩ ∧ wr.cell? ⟨b, off + k, none⟩ = some (.int .i64 (gt zs k)) := by
        rcases H1.out with h0 | ⟨b, off, ha, hb, hc⟩
        · have := HZ.out; rw [h0] at this; simp at this; omega
        · exact ⟨b, off, ha, (hsame.cell _).trans (hc k (by rw [HZ.out]; exact hlt))⟩
      have h'' : ∃ b off, a2 = some ⟨b, off, none⟩ ∧ wr.cell? ⟨b, off + k, none⟩ = some (.int .i64 (gt zs k)) := by
        rcases H2.out with h0 | ⟨b, off, ha, hb, hc⟩
        · have := HZ.out; rw [h0] at this; simp at this; omega
        · exact ⟨b, off, ha, (hsame.cell _).trans (hc k (by rw [HZ.out]; exact hlt))⟩
      obtain ⟨b, off, ha, hc⟩ := h'
      obtain ⟨b2, off2, ha2, hc2⟩ := h''
      subst ha ha2
      have hv : ((gt zs k) != (gt zs k)) = false := by simp
      have hlt' : (k : Int) < (len : Int) := by omega
      have h0' : (0 : Int) ≤ (k : Int) := by omega
      go_wp2
      go_quiet (fail)
      go_wp2
      go_roundw
      case rel => exact ⟨k + 1, by omega, by go_num, hsame.drewN _⟩
      case measure => simp [intOf]; omega
    · go_wp2
      go_ret
      exact ⟨rfl, hsame⟩

/-- what drawing nodes and a number leaves -/
def OnePost (q K : Nat) (w : World) (e : Ending) (w' : World) : Prop :=
  ∃ (a : Option Addr) (cap : Nat) (zs : List Int) (id : Int), e = .returned (.tuple #[.slice a zs.length cap, .int .i64 id]) ∧ IntsFrom w' w.heap.size a zs ∧ zs.length ≤ 20 ∧ zs.length ≤ cap ∧ Ready w' q K ∧ w.grownBy w' (some q)

set_option maxHeartbeats 2000000 in
theorem one_any (q K : Nat) (w : World) (h : Ready w q (K + 18)) :
    Calls Try.prog 27 #[.pointer (some ⟨q, 0, none⟩)] w (OnePost q K w) := by
  have hq := h.lt
  have HR := Lib.hid h
  clear h
  go_enter Try.func27, Try.ntmps27
  go_wp2_with fail
  refine (nodes_any q (K + 3) w HR.out).mono ?_
  rintro e w1 ⟨a, cap1, zs, rfl, hi1, hl, hlc, hr1, hg1⟩
  have hs1 := hg1.size
  go_wp2_with fail
  refine (pick_r q (K + 2) 12 w1 hr1 (by omega) (by omega)).mono ?_
  rintro e w2 ⟨v, hv0, hv1, rfl, hr2, hk2⟩
  have hi2 : IntsFrom w2 w.heap.size a zs := hi1.keep (Nat.le_of_eq hk2.size.symm) (fun g hg _ => hk2.block g (by omega))
  have hg2 : w.grownBy w2 (some q) := grown_trans hg1 hk2.grown
  have fin : ∀ (w3 : World) (id : Int) (j : Nat), K ≤ j → Ready w3 q j → Kept q w2 w3 → OnePost q K w (.returned (.tuple #[.slice a zs.length cap1, .int .i64 id])) w3 := by
    intro w3 id j hj hr3 hk3
    exact ⟨a, cap1, zs, id, rfl, hi2.keep (Nat.le_of_eq hk3.size.symm) (fun g hg _ => hk3.block g (by omega)), hl, hlc, hr3.less hj, grown_trans hg2 hk3.grown⟩
  have FIN := Lib.hid fin
  clear fin
  by_cases hz : v = 0
  · subst hz
    go_wp2_with fail
    refine (point_r q K w2 hr2).mono ?_
    rintro e w3 ⟨x, hx0, hx1, rfl, hr3, hk3⟩
    go_wp2
    go_ret2
    exact FIN.out _ _ K (Nat.le_refl _) hr3 hk3
  have hvB : (v == 0) = false := by simp [hz]
  by_cases hl0 : zs.length = 0
  · have hlB : (((zs.length : Nat) : Int) == 0) = true := by simp [hl0]
    have HL := Lib.hid hl0
    clear hl0 hz
    go_wp2_with fail
    refine (point_r q K w2 hr2).mono ?_
    rintro e w3 ⟨x, hx0, hx1, rfl, hr3, hk3⟩
    go_wp2
    go_ret2
    exact FIN.out _ _ K (Nat.le_refl _) hr3 hk3
  · have hlB : (((zs.length : Nat) : Int) == 0) = false := by simp; intro e; exact hl0 (by rw [e]; rfl)
    have hpos : 0 < zs.length := by omega
    clear hz hl0
    rcases hi2 with h0 | ⟨b, off, ha, hb, hlt, hc⟩
    · rw [h0] at hpos; simp at hpos
    · subst ha
      have HC := Lib.hid hc
      clear hc
      go_wp2
      go_region_with ((go_at_call 43; refine (pick_r q (K + 1) _ _ (by exact hr2) (by omega) (by omega)).mono ?_; rintro e w3 ⟨u, hu0, hu1, rfl, hr3, hk3⟩; obtain ⟨j, rfl⟩ := Int.eq_ofNat_of_zero_le hu0; have hcj : w3.cell? ⟨b, off + j, none⟩ = some (.int .i64 (gt zs j)) := (hk3.cell (p := ⟨b, off + j, none⟩) (by show b ≠ q; omega)).trans (HC.out j (by omega))))
      all_goals
        go_wp2
        go_ret2
        exact FIN.out _ _ (K + 1) (by omega) hr3 ⟨hk3.os, hk3.tape, hk3.output, hk3.size, hk3.block⟩

theorem IntsFrom.down {w : World} {base base' : Nat} {a : Option Addr} {zs : List Int} (h : IntsFrom w base a zs) (hb : base' ≤ base) : IntsFrom w base' a zs := by
  rcases h with h0 | ⟨b, off, ha, h1, h2, h3⟩
  · exact .inl h0
  · exact .inr ⟨b, off, ha, by omega, h2, h3⟩

/-- drawn nodes and two drawn numbers -/
def DrewN2 (w : World) (e : Ending) (w' : World) : Prop :=
  ∃ (a : Option Addr) (cap : Nat) (zs : List Int) (x y : Int), e = .returned (.tuple #[.slice a zs.length cap, .int .i64 x, .int .i64 y]) ∧ IntsFrom w' w.heap.size a zs ∧ zs.length ≤ 20 ∧ zs.length ≤ cap ∧ Below w.heap.size w w'


set_option maxHeartbeats 1000000 in
theorem drawNext (s : Option Addr) (len cap : Nat) (w : World) (h : BytesAt w s len cap) :
    Calls Try.prog 10 #[.slice s len cap] w (DrewN2 w) := by
  go_enter Try.func10, Try.ntmps10
  go_wp2_with fail
  refine (open_any s len cap w h).mono ?_
  rintro e w0 ⟨rfl, hr0, hb0, hz0⟩
  have HZ := Lib.hid hz0
  clear hz0
  go_wp2_with fail
  refine (one_any w.heap.size 5 w0 (hr0.less (by omega))).mono ?_
  rintro e w1 ⟨a, cap1, zs, id, rfl, hi, hl, hlc, hr1, hg1⟩
  have hB1 : Below w.heap.size w w1 := below_of_grown hb0 (Nat.le_refl _) (by have := HZ.out; omega) hg1
  have hi1 : IntsFrom w1 (w.heap.size + 1) a zs := hi.down (by have := HZ.out; omega)
  go_wp2_with fail
  refine (point_r w.heap.size 3 w1 hr1).mono ?_
  rintro e w2 ⟨x, hx0, hx1, rfl, hr2, hk2⟩
  have hi2 : IntsFrom w2 (w.heap.size + 1) a zs := hi1.keep (Nat.le_of_eq hk2.size.symm) (fun g hg _ => hk2.block g (by omega))
  go_wp2
  refine bodyPost_ret (v := .tuple #[.slice a zs.length cap1, .int .i64 id, .int .i64 x]) (by simp [results, Try.results10, go_sem]) rfl ?_
  exact ⟨a, cap1, zs, id, x, rfl, hi2.down (by omega), hl, hlc, hB1.trans (hk2.below (Nat.le_refl _))⟩

set_option maxHeartbeats 1000000 in
theorem drawPath (s : Option Addr) (len cap : Nat) (w : World) (h : BytesAt w s len cap) :
    Calls Try.prog 5 #[.slice s len cap] w (DrewN2 w) := by
  go_enter Try.func5, Try.ntmps5
  go_wp2_with fail
  refine (drawNext s len cap w h).mono ?_
  rintro e w1 ⟨a, cap1, zs, x, y, rfl, hi, hl, hlc, hB⟩
  go_wp2
  refine bodyPost_ret (v := .tuple #[.slice a zs.length cap1, .int .i64 x, .int .i64 y]) (by simp [results, Try.results5, go_sem]) rfl ?_
  exact ⟨a, cap1, zs, x, y, rfl, hi, hl, hlc, hB⟩


end Go.Proofs.Ytlkpgkhggknphaa
