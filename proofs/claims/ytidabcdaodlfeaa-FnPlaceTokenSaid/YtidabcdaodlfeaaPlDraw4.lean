/- The draw of two tables. -/
import Derived.Test.YtidabcdaodlfeaaPlDraw3
import Derived.Deep.RegionLaw
namespace Go.Proofs.Ytidabcdaodlfeaa
open Go.RowKit
set_option linter.unusedVariables false

theorem srcK_take {W : World} {g x : Nat} {L : List Tk} (h : ∀ i, i < L.length → TkCell W g (i * 2) (gk L i)) : ∀ (j : Nat) (u : Value), (flatK (L.take x))[j]? = some u → W.cell? ((⟨g, 0, none⟩ : Addr).add j) = some u :=
  src_tk fun i hi => by
    rw [List.length_take] at hi
    have := h i (by omega)
    have e : gk (L.take x) i = gk L i := by simp [gk, show i < x by omega]
    rw [Nat.zero_add, e]; exact this
theorem srcK_drop {W : World} {g x : Nat} {L : List Tk} (h : ∀ i, i < L.length → TkCell W g (i * 2) (gk L i)) : ∀ (j : Nat) (u : Value), (flatK (L.drop x))[j]? = some u → W.cell? ((⟨g, x * 2, none⟩ : Addr).add j) = some u :=
  src_tk fun i hi => by
    rw [List.length_drop] at hi
    have := h (x + i) (by omega)
    have e : gk (L.drop x) i = gk L (x + i) := by simp [gk]
    rw [e, show x * 2 + i * 2 = (x + i) * 2 by omega]; exact this
theorem ownk_empty {W : World} {base g : Nat} (h : W.heap[g]? = some (.cells #[] 35 (0, 0))) (hb : base ≤ g) : OwnK W base g 0 [] :=
  ownk_mk h hb (Nat.zero_le _) (by unfold maxLen; omega) rfl (fun j u h => by simp [flatK] at h)

/-- two drawn tables -/
def DrewTT (w : World) (e : Ending) (w' : World) : Prop :=
  ∃ (g c : Nat) (L : List Tk) (g2 c2 : Nat) (M : List Tk), e = .returned (.tuple #[.slice (some ⟨g, 0, none⟩) L.length c, .slice (some ⟨g2, 0, none⟩) M.length c2]) ∧ L.length ≤ 64 ∧ M.length ≤ 64 ∧
    OwnK w' w.heap.size g c L ∧ OwnK w' w.heap.size g2 c2 M ∧ Below w.heap.size w w'

set_option maxRecDepth 20000 in
set_option maxHeartbeats 4000000 in
theorem drawPlaceMoved (s : Option Addr) (len cap : Nat) (w : World) (h : BytesAt w s len cap) :
    Calls Try.prog 34 #[.slice s len cap] w (DrewTT w) := by
  go_enter Try.func34, Try.ntmps34
  go_wp2_with fail
  refine (open_any s len cap w h).mono ?_
  rintro e w0 ⟨rfl, hr0, hb0, hz0⟩
  have HZ := Lib.hid hz0
  clear hz0
  go_wp2_with fail
  refine (table_any w.heap.size 900000 w0 (hr0.less (by omega))).mono ?_
  rintro e w1 ⟨g, c, L, rfl, hl, ho, hr1, hg1⟩
  have HO := Lib.hid ho
  have HG := Lib.hid hg1
  have hsz : w.heap.size < w0.heap.size := by have := HZ.out; omega
  have hgb := ho.blk.1
  have hgl := ho.blk.2.1
  have hcc : L.length ≤ c := by obtain ⟨_, _, _, _, h, _⟩ := ho.blk; exact h
  obtain ⟨n, hn⟩ : ∃ n, L.length = n := ⟨_, rfl⟩
  rw [hn] at hl hcc ⊢
  have HN := Lib.hid hn
  have hs1 := hg1.size
  have FIN : Hid (∀ (w2 : World) (g2 c2 m : Nat) (M : List Tk), w1.grownBy w2 (some w.heap.size) → M.length = m → m ≤ 64 → OwnK w2 w0.heap.size g2 c2 M → DrewTT w (.returned (.tuple #[.slice (some ⟨g, 0, none⟩) n c, .slice (some ⟨g2, 0, none⟩) m c2])) w2) := Lib.hid (fun w2 g2 c2 m M hg hm h64 ho2 => by
    have e : n = L.length := HN.out.symm
    subst e hm
    exact ⟨g, c, L, g2, c2, M, rfl, hl, h64, (HO.out.grownQ hg hsz).less hb0.size, ho2.less hb0.size, below_of_grown hb0 (Nat.le_refl _) (by have := HZ.out; omega) (grown_trans HG.out hg)⟩)
  clear ho hg1 hn
  go_wp2_with fail
  refine (pick_r w.heap.size 899999 2 w1 hr1 (by omega) (by omega)).mono ?_
  rintro e w2 ⟨p, hp0, hp1, rfl, hr2, hk2⟩
  have HK2 := Lib.hid hk2
  have HO2 := Lib.hid (HO.out.grownQ hk2.grown hsz)
  have hs2 := hk2.grown.size
  clear hk2 hr1
  by_cases hp : p = 0
  · subst hp
    by_cases h1 : 1 < n
    · have h1i : (1 : Int) < (n : Int) := by omega
      go_wp2_with fail
      refine (pick_r w.heap.size 1000 (n : Int) w2 (hr2.less (by omega)) (by omega) (by omega)).mono ?_
      rintro e w3 ⟨pj, hj0, hj1, rfl, hr3, hk3⟩
      obtain ⟨j, rfl, hj⟩ : ∃ j : Nat, pj = (j : Int) ∧ j < n := ⟨pj.toNat, by omega, by omega⟩
      obtain ⟨W, rfl⟩ : ∃ W, W = w3 := ⟨_, rfl⟩
      have HO3 := HO2.out.grownQ hk3.grown hsz
      have HST : Hid (∀ u, Below W.heap.size W u → ∀ i, i < L.length → TkCell u g (i * 2) (gk L i)) := Lib.hid (fun u hu i hi => (HO3.keepB hu (Nat.le_refl _)).cells hi)
      have HGW := Lib.hid (grown_trans HK2.out.grown hk3.grown)
      have hWs : w0.heap.size ≤ W.heap.size := by have := hk3.grown.size; omega
      have hqW : w.heap.size < W.heap.size := by omega
      have hBW : Below W.heap.size W W := Below.refl _ _
      have k1 : (j : Int) + 1 ≤ (n : Int) := by omega
      have k2 : (n : Int) ≤ (c : Int) := by omega
      have k3 : j + 1 ≤ n := by omega
      have k4 : j ≤ c := by omega
      have k5 : (j : Int) ≤ (c : Int) := by omega
      have k6 : (0 : Int) ≤ (j : Int) := by omega
      have k7 : (0 : Int) ≤ (j : Int) + 1 := by omega
      have k8 : ((j : Int) + 1).toNat = j + 1 := by omega
      have k9 : IntKind.i64.wrap ((j : Int) + 1) = (j : Int) + 1 := by rw [IntKind.wrap_i64]; omega
      clear HO3 hk3 hr3 hr2
      by_cases hcj : c = j + 1
      · have hnj : n = j + 1 := by omega
        subst hcj
        subst hnj
        have q1 : (j : Int) ≤ (j : Int) + 1 := by omega
        have q2 : (0 : Int) ≤ (j : Int) + 1 := by omega
        go_wp2
        go_region_law ((first
          | (refine step_appK (o := ⟨some 28, _, _, _, _, _⟩) _ (by rfl) (.tmp 24) (.tmp 27) (by rfl) W.heap.size _ 0 0 [] (L.take j) (by rfl) (ownk_empty (by first | exact heap_alloc_new W _ | exact heap_alloc_new _ _) (by first | exact Nat.le_refl _ | (simp; done) | (simp; omega) | omega)) rfl ⟨g, 0, none⟩ j (j + 1) (by rfl) (by rw [List.length_take, HN.out]; omega) (srcK_take (HST.out _ (by repeat (first | exact hBW | apply Below.drew | (refine Below.alloc ?_ (by first | exact Nat.le_refl _ | (simp; done) | (simp; omega) | omega) _))))) j (by omega) (by omega) (by first | (simp; done) | (simp; omega) | omega) ?_
             intro g3 cap3 w3 hown3 hg3 hat3
             have hB3 : Below W.heap.size W w3 := Below.grown (by repeat (first | exact hBW | apply Below.drew | (refine Below.alloc ?_ (by first | exact Nat.le_refl _ | (simp; done) | (simp; omega) | omega) _))) hg3 (by first | (simp; done) | (simp; omega) | omega) (by first | (simp; done) | (simp; omega))
             have hz3 := hB3.size
             have hgb3 := hown3.blk.1)
          | (refine step_appK (o := ⟨some 33, _, _, _, _, _⟩) _ (by rfl) (.tmp 28) (.tmp 32) (by rfl) W.heap.size g3 j cap3 ([] ++ L.take j) [] (by rfl) hown3 (by rw [List.nil_append, List.length_take, HN.out]; omega) ⟨g, 0, none⟩ 0 0 (by rfl) rfl (srcK_none _ _) j (by omega) (by omega) hz3 ?_
             intro g5 cap5 w5 hown5 hg5 hat5
             have hB5 : Below W.heap.size W w5 := Below.grown (by repeat (first | exact hB3 | apply Below.drew | (refine Below.alloc ?_ (by first | exact Nat.le_refl _ | (simp; done) | (simp; omega) | omega) _))) hg5 hz3 (fun _ hk => by cases hk; exact hgb3))))
        all_goals
          have hO5 := Lib.hid (hown5.less (base' := w0.heap.size) hWs)
          have hF5 := Lib.hid (grown_belowP HGW.out hB5)
          clear hown5 hg5 hat5 hown3 hg3 hat3
          go_wp2
          go_ret2
          exact FIN.out _ _ _ _ _ hF5.out (by rw [List.append_nil, List.nil_append, List.length_take, HN.out]; omega) (by omega) hO5.out
      · have hcj' : ¬ j + 1 = c := by omega
        go_wp2
        go_region_law ((first
          | (refine step_appK (o := ⟨some 28, _, _, _, _, _⟩) _ (by rfl) (.tmp 24) (.tmp 27) (by rfl) W.heap.size _ 0 0 [] (L.take j) (by rfl) (ownk_empty (by first | exact heap_alloc_new W _ | exact heap_alloc_new _ _) (by first | exact Nat.le_refl _ | (simp; done) | (simp; omega) | omega)) rfl ⟨g, 0, none⟩ j c (by rfl) (by rw [List.length_take, HN.out]; omega) (srcK_take (HST.out _ (by repeat (first | exact hBW | apply Below.drew | (refine Below.alloc ?_ (by first | exact Nat.le_refl _ | (simp; done) | (simp; omega) | omega) _))))) j (by omega) (by omega) (by first | (simp; done) | (simp; omega) | omega) ?_
             intro g3 cap3 w3 hown3 hg3 hat3
             have hB3 : Below W.heap.size W w3 := Below.grown (by repeat (first | exact hBW | apply Below.drew | (refine Below.alloc ?_ (by first | exact Nat.le_refl _ | (simp; done) | (simp; omega) | omega) _))) hg3 (by first | (simp; done) | (simp; omega) | omega) (by first | (simp; done) | (simp; omega))
             have hz3 := hB3.size
             have hgb3 := hown3.blk.1)
          | (refine step_appK (o := ⟨some 33, _, _, _, _, _⟩) _ (by rfl) (.tmp 28) (.tmp 32) (by rfl) W.heap.size g3 j cap3 ([] ++ L.take j) (L.drop (j + 1)) (by rfl) hown3 (by rw [List.nil_append, List.length_take, HN.out]; omega) ⟨g, (j + 1) * 2, none⟩ (n - (j + 1)) (c - (j + 1)) (by rfl) (by rw [List.length_drop, HN.out]) (srcK_drop (HST.out _ (by repeat (first | exact hB3 | apply Below.drew | (refine Below.alloc ?_ (by first | exact Nat.le_refl _ | (simp; done) | (simp; omega) | omega) _))))) (n - 1) (by omega) (by omega) hz3 ?_
             intro g5 cap5 w5 hown5 hg5 hat5
             have hB5 : Below W.heap.size W w5 := Below.grown (by repeat (first | exact hB3 | apply Below.drew | (refine Below.alloc ?_ (by first | exact Nat.le_refl _ | (simp; done) | (simp; omega) | omega) _))) hg5 hz3 (fun _ hk => by cases hk; exact hgb3))))
        all_goals
          have hO5 := Lib.hid (hown5.less (base' := w0.heap.size) hWs)
          have hF5 := Lib.hid (grown_belowP HGW.out hB5)
          clear hown5 hg5 hat5 hown3 hg3 hat3
          go_wp2
          go_ret2
          exact FIN.out _ _ _ _ _ hF5.out (by rw [List.nil_append, List.length_append, List.length_take, List.length_drop, HN.out]; omega) (by omega) hO5.out
    · have h1i : decide ((1 : Int) < (n : Int)) = false := by rw [decide_eq_false_iff_not]; omega
      have h1j : ¬ (1 : Int) < (n : Int) := by omega
      go_wp2_with fail
      refine (table_any w.heap.size 1000 w2 (hr2.less (by omega))).mono ?_
      rintro e w5 ⟨g5, c5, M, rfl, hl5, ho5, hr5, hg5⟩
      have HO5 := Lib.hid (ho5.less (base' := w0.heap.size) (by omega))
      have HG5 := Lib.hid (grown_trans HK2.out.grown hg5)
      obtain ⟨m, hm⟩ : ∃ m, M.length = m := ⟨_, rfl⟩
      rw [hm] at hl5 ⊢
      have HM := Lib.hid hm
      clear ho5 hg5 hm hr5 hr2
      go_wp2
      go_ret2
      exact FIN.out _ _ _ _ _ HG5.out HM.out hl5 HO5.out
  · have hp' : (p == 0) = false := by simp [hp]
    go_wp2_with fail
    refine (table_any w.heap.size 1000 w2 (hr2.less (by omega))).mono ?_
    rintro e w5 ⟨g5, c5, M, rfl, hl5, ho5, hr5, hg5⟩
    have HO5 := Lib.hid (ho5.less (base' := w0.heap.size) (by omega))
    have HG5 := Lib.hid (grown_trans HK2.out.grown hg5)
    obtain ⟨m, hm⟩ : ∃ m, M.length = m := ⟨_, rfl⟩
    rw [hm] at hl5 ⊢
    have HM := Lib.hid hm
    clear ho5 hg5 hm hr5 hr2
    go_wp2
    go_ret2
    exact FIN.out _ _ _ _ _ HG5.out HM.out hl5 HO5.out
end Go.Proofs.Ytidabcdaodlfeaa
