/- Drawing sets of nodes: they are valid. -/
import Derived.Test.YtfhjmfcdogpbeaaGood
namespace Go.Proofs.Ytfhjmfcdogpbeaa
open Go.RowKit
set_option linter.unusedVariables false
attribute [local go_sem ↓] Go.wp_at_zero Go.wp_at_succ

/-- positions, ascending -/
def AscP (zs : List Int) : Prop := (∀ i, i < zs.length → 0 ≤ gt zs i ∧ gt zs i < 64) ∧ ∀ i, i + 1 < zs.length → gt zs i < gt zs (i + 1)
theorem asc_nil : AscP [] := ⟨fun i h => absurd h (by simp), fun i h => absurd h (by simp)⟩
theorem gt_ins {zs : List Int} {x : Int} {k i : Nat} (hk : k ≤ zs.length) (hi : i < zs.length + 1) : gt (zs.take k ++ [x] ++ zs.drop k) i = if i < k then gt zs i else if i = k then x else gt zs (i - 1) := by
  have hl : (zs.take k).length = k := by simp; omega
  rw [gt_get (by simp; omega)]
  by_cases h : i < k
  · rw [if_pos h, List.getElem_append_left (by simp; omega), List.getElem_append_left (by simp; omega), gt_get (by omega)]; simp
  · rw [if_neg h]
    by_cases e : i = k
    · subst e; rw [if_pos rfl, List.getElem_append_left (by simp; omega), List.getElem_append_right (by omega)]; simp
    · rw [if_neg e, List.getElem_append_right (by simp; omega), gt_get (by omega)]
      simp [hl]; congr 1; omega
theorem asc_ins {zs : List Int} {x : Int} {k : Nat} (h : AscP zs) (hx0 : 0 ≤ x) (hx1 : x < 64) (hh : hasB zs x = false) (hk : k ≤ zs.length) (h1 : ∀ m, m < k → gt zs m < x) (h2 : k < zs.length → x ≤ gt zs k) : AscP (zs.take k ++ [x] ++ zs.drop k) := by
  have hl : (zs.take k ++ [x] ++ zs.drop k).length = zs.length + 1 := by simp; omega
  have hne : ∀ i, i < zs.length → gt zs i ≠ x := fun i hi e => by rw [has_at hi e] at hh; cases hh
  refine ⟨fun i hi => ?_, fun i hi => ?_⟩
  · rw [hl] at hi
    rw [gt_ins hk hi]; split
    · exact h.1 i (by omega)
    · split
      · exact ⟨hx0, hx1⟩
      · exact h.1 _ (by omega)
  · rw [hl] at hi
    rw [gt_ins hk (by omega), gt_ins hk hi]
    by_cases a1 : i + 1 < k
    · rw [if_pos (by omega), if_pos a1]; exact h.2 i (by omega)
    · rw [if_neg a1]
      by_cases a2 : i + 1 = k
      · rw [if_pos (by omega), if_pos a2]; exact h1 i (by omega)
      · rw [if_neg a2, if_neg (by omega)]
        by_cases a3 : i = k
        · rw [if_pos a3]
          have := h2 (by omega)
          have := hne k (by omega)
          rw [show i + 1 - 1 = k by omega]; omega
        · rw [if_neg a3]
          have := h.2 (i - 1) (by omega)
          rw [show i - 1 + 1 = i by omega] at this
          exact this
theorem asc_end {zs : List Int} {x : Int} {k : Nat} (h : AscP zs) (hx0 : 0 ≤ x) (hx1 : x < 64) (hk : zs.length ≤ k) (h1 : ∀ m, m < k → gt zs m < x) : AscP (zs.take k ++ [x]) := by
  have e : zs.take k ++ [x] = zs.take zs.length ++ [x] ++ zs.drop zs.length := by simp [List.take_of_length_le hk]
  have hh : hasB zs x = false := has_none (fun i hi e => by have := h1 i (by omega); omega)
  rw [e]
  exact asc_ins h hx0 hx1 hh (Nat.le_refl _) (fun m hm => h1 m (by omega)) (fun hh => absurd hh (by omega))

def GoodPostA (q K : Nat) (least : Nat) (w : World) (e : Ending) (w' : World) : Prop :=
  ∃ (g cap : Nat) (zs : List Int), e = .returned (.slice (some ⟨g, 0, none⟩) zs.length cap) ∧ OwnI w' w.heap.size (some ⟨g, 0, none⟩) cap zs ∧ least ≤ zs.length ∧ zs.length ≤ 10 ∧ Ready w' q K ∧ w.grownBy w' (some q) ∧ AscP zs

/-- at the head of the loop -/
def GoodAtA (q K n : Nat) (w : World) (i : Nat) (v : Value) (wr : World) : Prop :=
  ∃ (g cap : Nat) (zs : List Int), v = .slice (some ⟨g, 0, none⟩) i cap ∧ zs.length = i ∧ OwnI wr w.heap.size (some ⟨g, 0, none⟩) cap zs ∧ Ready wr q (K + (n - i)) ∧ w.grownBy wr (some q) ∧ AscP zs

theorem goodA_next {q K n i : Nat} {w w2 w5 : World} {g5 cap5 : Nat} {ys : List Int} (hq : q < w.heap.size) (hg2 : w.grownBy w2 (some q)) (hr2 : Ready w2 q (K + (n - (i + 1)))) (hB5 : Below w2.heap.size w2 w5)
    (hl : ys.length = i + 1) (hasc : AscP ys) (hown5 : w5.ownsRow w2.heap.size 3 1 (.slice (some ⟨g5, 0, none⟩) (i + 1) cap5) (i + 1) (vals ys)) : GoodAtA q K n w (i + 1) (.slice (some ⟨g5, 0, none⟩) (i + 1) cap5) w5 := by
  have hs := hg2.size
  refine ⟨g5, cap5, ys, rfl, hl, ?_, hr2.below hB5 (by omega), grown_trans hg2 ⟨hB5.os, hB5.tape, hB5.output, hB5.size, fun k hk _ => hB5.block k hk⟩, hasc⟩
  have h : OwnI w5 w2.heap.size (some ⟨g5, 0, none⟩) cap5 ys := by unfold OwnI; rw [hl]; exact hown5
  exact h.less hs

set_option maxHeartbeats 2000000 in
theorem goodA_any (q K least : Nat) (w : World) (h : Ready w q (K + 11)) (h1 : 1 ≤ least) (h2 : least ≤ 10) :
    Calls Try.prog 79 #[.pointer (some ⟨q, 0, none⟩), .int .i64 least] w (GoodPostA q K least w) := by
  have hq := h.lt
  have HR := Lib.hid h
  clear h
  go_enter Try.func79, Try.ntmps79
  go_wp2_with fail
  refine (pick_r q (K + 10) _ _ ?hr (by omega) (by omega)).mono ?_
  case hr => exact (HR.out.less (by omega)).keep (fun i hi => Below.heap_alloc _ _ _ (by omega))
  rintro e w1 ⟨v, hv0, hv1, rfl, hr1, hk1⟩
  obtain ⟨n, hn, hn1, hn2⟩ : ∃ n : Nat, (least : Int) + v = n ∧ least ≤ n ∧ n ≤ 10 := ⟨(least + v).toNat, by omega, by omega, by omega⟩
  have hg1 : w.grownBy w1 (some q) := grown_trans (World.grownBy_alloc w _ _) hk1.grown
  have HN := Lib.hid hn
  have h0 : GoodAtA q K n w 0 (.slice (some ⟨w.heap.size, 0, none⟩) 0 0) w1 := by
    refine ⟨w.heap.size, 0, [], rfl, rfl, ?_, hr1.less (by omega), hg1, asc_nil⟩
    have : OwnI (w.alloc (.cells #[] 3)) w.heap.size (some ⟨w.heap.size, 0, none⟩) 0 [] := by
      refine ⟨by simp [vals], .inr ⟨w.heap.size, 0, #[], rfl, Nat.le_refl _, heap_alloc_new w _, Nat.zero_le _, by unfold maxLen; omega, rfl, by simp [vals]⟩⟩
    exact this.kept (fun g hg hg' => hk1.block g (by omega))
  go_wp2
  clear hn
  go_loopw [5, 7] (fun o i wr => ∃ k : Nat, k ≤ n ∧ i = .int .i64 k ∧ GoodAtA q K n w k o wr) (fun _ i _ => n - (intOf i).toNat)
  case atStart => exact ⟨0, by omega, rfl, h0⟩
  case round =>
    obtain ⟨i, hi, rfl, g, cap, zs, rfl, hz, hown, hr, hg, hasc0⟩ := hrel
    have HZ := Lib.hid hz
    have HASC := Lib.hid hasc0
    clear hasc0
    clear hz h0
    have hcap := hown.cap_le
    rw [HZ.out] at hcap
    unfold maxLen at hcap
    by_cases hlt : i < n
    · go_wp2_with fail
      refine (pick_r q (K + (n - (i + 1))) 64 wr (hr.less (by omega)) (by omega) (by omega)).mono ?_
      rintro e w2 ⟨p0, hp0, hp1, rfl, hr2, hk2⟩
      have hown2 : OwnI w2 w.heap.size (some ⟨g, 0, none⟩) cap zs := hown.kept (fun g hg hg' => hk2.block g (by omega))
      have hg2 : w.grownBy w2 (some q) := grown_trans hg hk2.grown
      obtain ⟨fr, hf0, hf1, hfree⟩ := free_pos (zs := zs) (by rw [HZ.out]; omega)
      have HF := Lib.hid hfree
      clear hfree
      go_wp2_with fail
      go_loop [8] (fun p => ∃ x : Int, 0 ≤ x ∧ x < 64 ∧ p = .int .i64 x) (fun p => ((fr - intOf p) % 64).toNat)
      case atStart => exact ⟨p0, hp0, hp1, rfl⟩
      case round =>
        obtain ⟨x, hx0, hx1, rfl⟩ := hrel
        cases hh : hasB zs x
        · go_wp2_with (go_at_call 88; refine (shas_any _ _ _ zs _ _ hown2.ints HZ.out (by unfold maxLen; omega)).mono ?_; rintro e w' ⟨rfl, rfl⟩)
          have HHAS := Lib.hid hh
          clear hh
          go_loop [9] (fun j => ∃ k : Nat, k ≤ i ∧ j = .int .i64 k ∧ ∀ m, m < k → gt zs m < x) (fun j => i - (intOf j).toNat)
          case atStart => exact ⟨0, by omega, rfl, fun m hm => absurd hm (by omega)⟩
          case round =>
            obtain ⟨k, hk, rfl, hbelow⟩ := hrel
            have HBL := Lib.hid hbelow
            clear hbelow
            by_cases hki : k < i ∧ gt zs k < x
            · obtain ⟨hki, hlt'⟩ := hki
              have hc : w2.cell? ⟨g, k, none⟩ = some (.int .i64 (gt zs k)) := by
                obtain ⟨g', ha, _, _, hc, _⟩ := hown2.at_ (by rw [HZ.out]; omega)
                injection ha with ha; injection ha with ha; subst ha
                exact hc k (by rw [HZ.out]; exact hki)
              go_wp2
              go_round
              case rel => exact ⟨k + 1, by omega, by go_num, fun m hm => by rcases Nat.lt_or_ge m k with h' | h'; exact HBL.out m h'; rw [show m = k by omega]; exact hlt'⟩
              case measure => simp [intOf]; omega
            · have hstop : k < i → w2.cell? ⟨g, k, none⟩ = some (.int .i64 (gt zs k)) ∧ x ≤ gt zs k := by
                intro hki'
                obtain ⟨g', ha, _, _, hc, _⟩ := hown2.at_ (by rw [HZ.out]; omega)
                injection ha with ha; injection ha with ha; subst ha
                exact ⟨hc k (by rw [HZ.out]; exact hki'), by omega⟩
              clear hki
              have hB2 := Below.refl w2.heap.size w2
              by_cases hki' : k < i
              · obtain ⟨hc, hge⟩ := hstop hki'
                clear hstop
                have hck : ¬ cap = k := by omega
                have hkc : k ≤ cap := by omega
                have hkc' : (k : Int) ≤ (cap : Int) := by omega
                have hk0 : (0 : Int) ≤ (k : Int) := by omega
                have hki0 : (k : Int) ≤ (i : Int) := by omega
                go_wp2
                go_region_law ((first
                    | (refine step_app (o := ⟨some 48, _, _, _, _, _⟩) _ (by rfl) (.tmp 44) (.tmp 47) (by rfl) w2.heap.size _ 0 0 [] (by rfl) (own_empty (by first | exact heap_alloc_new w2 _ | exact heap_second w2 _ _ | exact heap_first w2 _ _) (by first | (simp; done) | (simp; omega) | omega)) ⟨g, 0, none⟩ k cap (vals (zs.take k)) (by rfl) (by rw [vals_len, List.length_take, HZ.out]; omega) (src_take hown2 (by repeat (first | exact hB2 | apply Below.drew | (refine Below.alloc ?_ (by first | exact Nat.le_refl _ | (simp; done) | (simp; omega) | omega) _)))) (vals_one _) k (vals (zs.take k)) (by omega) (by simp) (by omega) (by first | (simp; done) | (simp; omega) | omega) ?_
                       intro g3 cap3 w3 hown3 hg3 hat3
                       have hB3 : Below w2.heap.size w2 w3 := Below.grown (by repeat (first | exact hB2 | apply Below.drew | (refine Below.alloc ?_ (by first | exact Nat.le_refl _ | (simp; done) | (simp; omega) | omega) _))) hg3 (by first | (simp; done) | (simp; omega) | omega) (by first | (simp; done) | (simp; omega))
                       have hz3 := hB3.size)
                    | (refine step_app (o := ⟨some 51, _, _, _, _, _⟩) _ (by rfl) (.tmp 48) (.tmp 50) (by rfl) w2.heap.size g3 k cap3 (vals (zs.take k)) (by rfl) (by first | exact hown3 | exact hown3.alloc _) ⟨_, 0, none⟩ 1 1 [.int .i64 x] (by rfl) rfl (src_one (by first | exact heap_alloc_new w3 _ | exact (hg3.block _ (by first | (simp; done) | (simp; omega) | omega) (by first | (simp; done) | (simp; omega))).trans (heap_second w2 _ _) | exact (hg3.block _ (by first | (simp; done) | (simp; omega) | omega) (by first | (simp; done) | (simp; omega))).trans (heap_first w2 _ _))) (by simp [Value.oneCell']) (k + 1) (vals (zs.take k ++ [x])) rfl (by simp [vals]) (by omega) (by first | exact hz3 | (simp; omega)) ?_
                       intro g4 cap4 w4 hown4 hg4 hat4
                       have hB4 : Below w2.heap.size w2 w4 := Below.grown (by repeat (first | exact hB3 | apply Below.drew | (refine Below.alloc ?_ (by first | exact Nat.le_refl _ | (simp; done) | (simp; omega) | omega) _))) hg4 (by first | exact hz3 | (simp; omega)) (fun _ hk => by cases hk; exact (hown3.lt g3 rfl).1)
                       have hz4 := hB4.size)
                    | (refine step_app (o := ⟨some 55, _, _, _, _, _⟩) _ (by rfl) (.tmp 51) (.tmp 54) (by rfl) w2.heap.size g4 (k + 1) cap4 (vals (zs.take k ++ [x])) (by rfl) hown4 ⟨g, k, none⟩ (i - k) (cap - k) (vals (zs.drop k)) (by rfl) (by rw [vals_len, List.length_drop, HZ.out]) (src_drop hown2 (by repeat (first | exact hB4 | apply Below.drew | (refine Below.alloc ?_ (by first | exact Nat.le_refl _ | (simp; done) | (simp; omega) | omega) _)))) (by first | exact vals_one _ | simp) (i + 1) (vals (zs.take k ++ [x] ++ zs.drop k)) (by omega) (by simp [vals]) (by omega) hz4 ?_
                       intro g5 cap5 w5 hown5 hg5 hat5
                       have hB5 : Below w2.heap.size w2 w5 := Below.grown (by repeat (first | exact hB4 | apply Below.drew | (refine Below.alloc ?_ (by first | exact Nat.le_refl _ | (simp; done) | (simp; omega) | omega) _))) hg5 hz4 (fun _ hk => by cases hk; exact (hown4.lt g4 rfl).1))))
                all_goals
                  go_wp2
                  go_roundw
                  case rel => exact ⟨i + 1, by omega, by go_num, goodA_next hq hg2 hr2 (by repeat (first | exact hB5 | apply Below.drew)) (by simp [HZ.out]; try omega) (asc_ins HASC.out hx0 hx1 HHAS.out (by rw [HZ.out]; omega) HBL.out (fun _ => hge)) hown5⟩
                  case measure => simp [intOf]; omega
              · clear hstop
                obtain rfl : i = k := by omega
                have hk0 : (0 : Int) ≤ (i : Int) := by omega
                by_cases hck : cap = i
                · subst hck
                  go_wp2
                  go_region_law ((first
                      | (refine step_app (o := ⟨some 48, _, _, _, _, _⟩) _ (by rfl) (.tmp 44) (.tmp 47) (by rfl) w2.heap.size _ 0 0 [] (by rfl) (own_empty (by first | exact heap_alloc_new w2 _ | exact heap_second w2 _ _ | exact heap_first w2 _ _) (by first | (simp; done) | (simp; omega) | omega)) ⟨g, 0, none⟩ cap cap (vals (zs.take cap)) (by rfl) (by rw [vals_len, List.length_take, HZ.out]; omega) (src_take hown2 (by repeat (first | exact hB2 | apply Below.drew | (refine Below.alloc ?_ (by first | exact Nat.le_refl _ | (simp; done) | (simp; omega) | omega) _)))) (vals_one _) cap (vals (zs.take cap)) (by omega) (by simp) (by omega) (by first | (simp; done) | (simp; omega) | omega) ?_
                         intro g3 cap3 w3 hown3 hg3 hat3
                         have hB3 : Below w2.heap.size w2 w3 := Below.grown (by repeat (first | exact hB2 | apply Below.drew | (refine Below.alloc ?_ (by first | exact Nat.le_refl _ | (simp; done) | (simp; omega) | omega) _))) hg3 (by first | (simp; done) | (simp; omega) | omega) (by first | (simp; done) | (simp; omega))
                         have hz3 := hB3.size)
                      | (refine step_app (o := ⟨some 51, _, _, _, _, _⟩) _ (by rfl) (.tmp 48) (.tmp 50) (by rfl) w2.heap.size g3 cap cap3 (vals (zs.take cap)) (by rfl) (by first | exact hown3 | exact hown3.alloc _) ⟨_, 0, none⟩ 1 1 [.int .i64 x] (by rfl) rfl (src_one (by first | exact heap_alloc_new w3 _ | exact (hg3.block _ (by first | (simp; done) | (simp; omega) | omega) (by first | (simp; done) | (simp; omega))).trans (heap_second w2 _ _) | exact (hg3.block _ (by first | (simp; done) | (simp; omega) | omega) (by first | (simp; done) | (simp; omega))).trans (heap_first w2 _ _))) (by simp [Value.oneCell']) (cap + 1) (vals (zs.take cap ++ [x])) rfl (by simp [vals]) (by omega) (by first | exact hz3 | (simp; omega)) ?_
                         intro g4 cap4 w4 hown4 hg4 hat4
                         have hB4 : Below w2.heap.size w2 w4 := Below.grown (by repeat (first | exact hB3 | apply Below.drew | (refine Below.alloc ?_ (by first | exact Nat.le_refl _ | (simp; done) | (simp; omega) | omega) _))) hg4 (by first | exact hz3 | (simp; omega)) (fun _ hk => by cases hk; exact (hown3.lt g3 rfl).1)
                         have hz4 := hB4.size)
                      | (refine step_app (o := ⟨some 55, _, _, _, _, _⟩) _ (by rfl) (.tmp 51) (.tmp 54) (by rfl) w2.heap.size g4 (cap + 1) cap4 (vals (zs.take cap ++ [x])) (by rfl) hown4 ⟨g, 0, none⟩ 0 0 [] (by rfl) rfl (src_none _ _) (by first | exact vals_one _ | simp) (cap + 1) (vals (zs.take cap ++ [x])) (by omega) (by simp [vals]) (by omega) hz4 ?_
                         intro g5 cap5 w5 hown5 hg5 hat5
                         have hB5 : Below w2.heap.size w2 w5 := Below.grown (by repeat (first | exact hB4 | apply Below.drew | (refine Below.alloc ?_ (by first | exact Nat.le_refl _ | (simp; done) | (simp; omega) | omega) _))) hg5 hz4 (fun _ hk => by cases hk; exact (hown4.lt g4 rfl).1))))
                  all_goals
                    go_wp2
                    go_roundw
                    case rel => exact ⟨cap + 1, by omega, by go_num, goodA_next hq hg2 hr2 (by repeat (first | exact hB5 | apply Below.drew)) (by simp [HZ.out]; try omega) (asc_end HASC.out hx0 hx1 (by rw [HZ.out]; omega) HBL.out) hown5⟩
                    case measure => simp [intOf]; omega
                · have hkc : i ≤ cap := by omega
                  have hkc' : (i : Int) ≤ (cap : Int) := by omega
                  go_wp2
                  go_region_law ((first
                      | (refine step_app (o := ⟨some 48, _, _, _, _, _⟩) _ (by rfl) (.tmp 44) (.tmp 47) (by rfl) w2.heap.size _ 0 0 [] (by rfl) (own_empty (by first | exact heap_alloc_new w2 _ | exact heap_second w2 _ _ | exact heap_first w2 _ _) (by first | (simp; done) | (simp; omega) | omega)) ⟨g, 0, none⟩ i cap (vals (zs.take i)) (by rfl) (by rw [vals_len, List.length_take, HZ.out]; omega) (src_take hown2 (by repeat (first | exact hB2 | apply Below.drew | (refine Below.alloc ?_ (by first | exact Nat.le_refl _ | (simp; done) | (simp; omega) | omega) _)))) (vals_one _) i (vals (zs.take i)) (by omega) (by simp) (by omega) (by first | (simp; done) | (simp; omega) | omega) ?_
                         intro g3 cap3 w3 hown3 hg3 hat3
                         have hB3 : Below w2.heap.size w2 w3 := Below.grown (by repeat (first | exact hB2 | apply Below.drew | (refine Below.alloc ?_ (by first | exact Nat.le_refl _ | (simp; done) | (simp; omega) | omega) _))) hg3 (by first | (simp; done) | (simp; omega) | omega) (by first | (simp; done) | (simp; omega))
                         have hz3 := hB3.size)
                      | (refine step_app (o := ⟨some 51, _, _, _, _, _⟩) _ (by rfl) (.tmp 48) (.tmp 50) (by rfl) w2.heap.size g3 i cap3 (vals (zs.take i)) (by rfl) (by first | exact hown3 | exact hown3.alloc _) ⟨_, 0, none⟩ 1 1 [.int .i64 x] (by rfl) rfl (src_one (by first | exact heap_alloc_new w3 _ | exact (hg3.block _ (by first | (simp; done) | (simp; omega) | omega) (by first | (simp; done) | (simp; omega))).trans (heap_second w2 _ _) | exact (hg3.block _ (by first | (simp; done) | (simp; omega) | omega) (by first | (simp; done) | (simp; omega))).trans (heap_first w2 _ _))) (by simp [Value.oneCell']) (i + 1) (vals (zs.take i ++ [x])) rfl (by simp [vals]) (by omega) (by first | exact hz3 | (simp; omega)) ?_
                         intro g4 cap4 w4 hown4 hg4 hat4
                         have hB4 : Below w2.heap.size w2 w4 := Below.grown (by repeat (first | exact hB3 | apply Below.drew | (refine Below.alloc ?_ (by first | exact Nat.le_refl _ | (simp; done) | (simp; omega) | omega) _))) hg4 (by first | exact hz3 | (simp; omega)) (fun _ hk => by cases hk; exact (hown3.lt g3 rfl).1)
                         have hz4 := hB4.size)
                      | (refine step_app (o := ⟨some 55, _, _, _, _, _⟩) _ (by rfl) (.tmp 51) (.tmp 54) (by rfl) w2.heap.size g4 (i + 1) cap4 (vals (zs.take i ++ [x])) (by rfl) hown4 ⟨g, i, none⟩ 0 (cap - i) [] (by rfl) rfl (src_none _ _) (by first | exact vals_one _ | simp) (i + 1) (vals (zs.take i ++ [x])) (by omega) (by simp [vals]) (by omega) hz4 ?_
                         intro g5 cap5 w5 hown5 hg5 hat5
                         have hB5 : Below w2.heap.size w2 w5 := Below.grown (by repeat (first | exact hB4 | apply Below.drew | (refine Below.alloc ?_ (by first | exact Nat.le_refl _ | (simp; done) | (simp; omega) | omega) _))) hg5 hz4 (fun _ hk => by cases hk; exact (hown4.lt g4 rfl).1))))
                  all_goals
                    go_wp2
                    go_roundw
                    case rel => exact ⟨i + 1, by omega, by go_num, goodA_next hq hg2 hr2 (by repeat (first | exact hB5 | apply Below.drew)) (by simp [HZ.out]; try omega) (asc_end HASC.out hx0 hx1 (by rw [HZ.out]; omega) HBL.out) hown5⟩
                    case measure => simp [intOf]; omega
        · have hne : ¬ x = fr := by intro e; rw [e, HF.out] at hh; cases hh
          go_wp2_with (go_at_call 88; refine (shas_any _ _ _ zs _ _ hown2.ints HZ.out (by unfold maxLen; omega)).mono ?_; rintro e w' ⟨rfl, rfl⟩)
          go_round
          case rel => exact ⟨(x + 1) % 64, by omega, by omega, by simp⟩
          case measure => simp [intOf]; omega
    · go_wp2
      go_ret
      exact ⟨g, cap, zs, by rw [HZ.out]; rfl, hown, by rw [HZ.out]; omega, by rw [HZ.out]; omega, hr.less (by omega), hg, HASC.out⟩
end Go.Proofs.Ytfhjmfcdogpbeaa
