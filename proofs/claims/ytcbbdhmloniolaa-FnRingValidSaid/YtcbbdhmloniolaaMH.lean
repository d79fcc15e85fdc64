/- Good2 · IdealO · IdealO2 · DrawR · DrawR2 · Spoilt · Spoilt2 -/
import Derived.Test.YtcbbdhmloniolaaMA
import Derived.Test.YtcbbdhmloniolaaMG
namespace Go.Proofs.Ytcbbdhmloniolaa

/- Drawing sets of nodes: they are valid. -/

section
open Go.RowKit
set_option linter.unusedVariables false

attribute [local go_sem ↓] Go.wp_at_zero Go.wp_at_succ

/-- positions, ascending -/
def AscP (zs : List Int) : Prop := (∀ i, i < zs.length → 0 ≤ gt zs i ∧ gt zs i < 64) ∧ ∀ i, i + 1 < zs.length → gt zs i < gt zs (i + 1)
theorem asc_nil : AscP [] := ⟨fun i h => absurd h (by simp), fun i h => absurd h (by simp)⟩
theorem gt_ins {zs : List Int} {x : Int} {k i : Nat} (hk : k ≤ zs.length) (hi : i < zs.length + 1) : gt (zs.take k ++ [x] ++ zs.drop k) i = if i < k then gt zs i else if i = k then x else gt zs (i - 1) := by
  have hl : (zs.take k).length = k := by simp; omega
  rw [gt_get (by simp; omega)]
  by_cases h : i < k
  · rw [if_pos h, List.getElem_append_left (by simp; omega), List.getElem_append_left (by simp; omega), gt_get (by omega)]; simp
  · rw [if_neg h]
    by_cases e : i = k
    · subst e; rw [if_pos rfl, List.getElem_append_left (by simp; omega), List.getElem_append_right (by omega)]; simp
    · rw [if_neg e, List.getElem_append_right (by simp; omega), gt_get (by omega)]
      simp [hl]; congr 1; omega
theorem asc_ins {zs : List Int} {x : Int} {k : Nat} (h : AscP zs) (hx0 : 0 ≤ x) (hx1 : x < 64) (hh : hasB zs x = false) (hk : k ≤ zs.length) (h1 : ∀ m, m < k → gt zs m < x) (h2 : k < zs.length → x ≤ gt zs k) : AscP (zs.take k ++ [x] ++ zs.drop k) := by
  have hl : (zs.take k ++ [x] ++ zs.drop k).length = zs.length + 1 := by simp; omega
  have hne : ∀ i, i < zs.length → gt zs i ≠ x := fun i hi e => by rw [has_at hi e] at hh; cases hh
  refine ⟨fun i hi => ?_, fun i hi => ?_⟩
  · rw [hl] at hi
    rw [gt_ins hk hi]; split
    · exact h.1 i (by omega)
    · split
      · exact ⟨hx0, hx1⟩
      · exact h.1 _ (by omega)
  · rw [hl] at hi
    rw [gt_ins hk (by omega), gt_ins hk hi]
    by_cases a1 : i + 1 < k
    · rw [if_pos (by omega), if_pos a1]; exact h.2 i (by omega)
    · rw [if_neg a1]
      by_cases a2 : i + 1 = k
      · rw [if_pos (by omega), if_pos a2]; exact h1 i (by omega)
      · rw [if_neg a2, if_neg (by omega)]
        by_cases a3 : i = k
        · rw [if_pos a3]
          have := h2 (by omega)
          have := hne k (by omega)
          rw [show i + 1 - 1 = k by omega]; omega
        · rw [if_neg a3]
          have := h.2 (i - 1) (by omega)
          rw [show i - 1 + 1 = i by omega] at this
          exact this
theorem asc_end {zs : List Int} {x : Int} {k : Nat} (h : AscP zs) (hx0 : 0 ≤ x) (hx1 : x < 64) (hk : zs.length ≤ k) (h1 : ∀ m, m < k → gt zs m < x) : AscP (zs.take k ++ [x]) := by
  have e : zs.take k ++ [x] = zs.take zs.length ++ [x] ++ zs.drop zs.length := by simp [List.take_of_length_le hk]
  have hh : hasB zs x = false := has_none (fun i hi e => by have := h1 i (by omega); omega)
  rw [e]
  exact asc_ins h hx0 hx1 hh (Nat.le_refl _) (fun m hm => h1 m (by omega)) (fun hh => absurd hh (by omega))

def GoodPostA (q K : Nat) (least : Nat) (w : World) (e : Ending) (w' : World) : Prop :=
  ∃ (g cap : Nat) (zs : List Int), e = .returned (.slice (some ⟨g, 0, none⟩) zs.length cap) ∧ OwnI w' w.heap.size (some ⟨g, 0, none⟩) cap zs ∧ least ≤ zs.length ∧ zs.length ≤ 10 ∧ Ready w' q K ∧ w.grownBy w' (some q) ∧ AscP zs

/-- at the head of the loop -/
def GoodAtA (q K n : Nat) (w : World) (i : Nat) (v : Value) (wr : World) : Prop :=
  ∃ (g cap : Nat) (zs : List Int), v = .slice (some ⟨g, 0, none⟩) i cap ∧ zs.length = i ∧ OwnI wr w.heap.size (some ⟨g, 0, none⟩) cap zs ∧ Ready wr q (K + (n - i)) ∧ w.grownBy wr (some q) ∧ AscP zs

theorem goodA_next {q K n i : Nat} {w w2 w5 : World} {g5 cap5 : Nat} {ys : List Int} (hq : q < w.heap.size) (hg2 : w.grownBy w2 (some q)) (hr2 : Ready w2 q (K + (n - (i + 1)))) (hB5 : Below w2.heap.size w2 w5)
    (hl : ys.length = i + 1) (hasc : AscP ys) (hown5 : w5.ownsRow w2.heap.size 3 1 (.slice (some ⟨g5, 0, none⟩) (i + 1) cap5) (i + 1) (vals ys)) : GoodAtA q K n w (i + 1) (.slice (some ⟨g5, 0, none⟩) (i + 1) cap5) w5 := by
  have hs := hg2.size
  refine ⟨g5, cap5, ys, rfl, hl, ?_, hr2.below hB5 (by omega), grown_trans hg2 ⟨hB5.os, hB5.tape, hB5.output, hB5.size, fun k hk _ => hB5.block k hk⟩, hasc⟩
  have h : OwnI w5 w2.heap.size (some ⟨g5, 0, none⟩) cap5 ys := by unfold OwnI; rw [hl]; exact hown5
  exact h.less hs

set_option maxHeartbeats 2000000 in
theorem goodA_any (q K least : Nat) (w : World) (h : Ready w q (K + 11)) (h1 : 1 ≤ least) (h2 : least ≤ 10) :
    Calls Try.prog 80 #[.pointer (some ⟨q, 0, none⟩), .int .i64 least] w (GoodPostA q K least w) := by
  have hq := h.lt
  have HR := Lib.hid h
  clear h
  go_enter Try.func80, Try.ntmps80
  go_wp2_with fail
  refine (pick_r q (K + 10) _ _ ?hr (by omega) (by omega)).mono ?_
  case hr => exact (HR.out.less (by omega)).keep (fun i hi => Below.heap_alloc _ _ _ (by omega))
  rintro e w1 ⟨v, hv0, hv1, rfl, hr1, hk1⟩
  obtain ⟨n, hn, hn1, hn2⟩ : ∃ n : Nat, (least : Int) + v = n ∧ least ≤ n ∧ n ≤ 10 := ⟨(least + v).toNat, by omega, by omega, by omega⟩
  have hg1 : w.grownBy w1 (some q) := grown_trans (World.grownBy_alloc w _ _) hk1.grown
  have HN := Lib.hid hn
  have h0 : GoodAtA q K n w 0 (.slice (some ⟨w.heap.size, 0, none⟩) 0 0) w1 := by
    refine ⟨w.heap.size, 0, [], rfl, rfl, ?_, hr1.less (by omega), hg1, asc_nil⟩
    have : OwnI (w.alloc (.cells #[] 3)) w.heap.size (some ⟨w.heap.size, 0, none⟩) 0 [] := by
      refine ⟨by simp [vals], .inr ⟨w.heap.size, 0, #[], rfl, Nat.le_refl _, heap_alloc_new w _, Nat.zero_le _, by unfold maxLen; omega, rfl, by simp [vals]⟩⟩
    exact this.kept (fun g hg hg' => hk1.block g (by omega))
  go_wp2
  clear hn
  go_loopw [5, 7] (fun o i wr => ∃ k : Nat, k ≤ n ∧ i = .int .i64 k ∧ GoodAtA q K n w k o wr) (fun _ i _ => n - (intOf i).toNat)
  case atStart => exact ⟨0, by omega, rfl, h0⟩
  case round =>
    obtain ⟨i, hi, rfl, g, cap, zs, rfl, hz, hown, hr, hg, hasc0⟩ := hrel
    have HZ := Lib.hid hz
    have HASC := Lib.hid hasc0
    clear hasc0
    clear hz h0
    have hcap := hown.cap_le
    rw [HZ.out] at hcap
    unfold maxLen at hcap
    by_cases hlt : i < n
    · go_wp2_with fail
      refine (pick_r q (K + (n - (i + 1))) 64 wr (hr.less (by omega)) (by omega) (by omega)).mono ?_
      rintro e w2 ⟨p0, hp0, hp1, rfl, hr2, hk2⟩
      have hown2 : OwnI w2 w.heap.size (some ⟨g, 0, none⟩) cap zs := hown.kept (fun g hg hg' => hk2.block g (by omega))
      have hg2 : w.grownBy w2 (some q) := grown_trans hg hk2.grown
      obtain ⟨fr, hf0, hf1, hfree⟩ := free_pos (zs := zs) (by rw [HZ.out]; omega)
      have HF := Lib.hid hfree
      clear hfree
      go_wp2_with fail
      go_loop [8] (fun p => ∃ x : Int, 0 ≤ x ∧ x < 64 ∧ p = .int .i64 x) (fun p => ((fr - intOf p) % 64).toNat)
      case atStart => exact ⟨p0, hp0, hp1, rfl⟩
      case round =>
        obtain ⟨x, hx0, hx1, rfl⟩ := hrel
        cases hh : hasB zs x
        · go_wp2_with (go_at_call 94; refine (shas_any _ _ _ zs _ _ hown2.ints HZ.out (by unfold maxLen; omega)).mono ?_; rintro e w' ⟨rfl, rfl⟩)
          have HHAS := Lib.hid hh
          clear hh
          go_loop [9] (fun j => ∃ k : Nat, k ≤ i ∧ j = .int .i64 k ∧ ∀ m, m < k → gt zs m < x) (fun j => i - (intOf j).toNat)
          case atStart => exact ⟨0, by omega, rfl, fun m hm => absurd hm (by omega)⟩
          case round =>
            obtain ⟨k, hk, rfl, hbelow⟩ := hrel
            have HBL := Lib.hid hbelow
            clear hbelow
            by_cases hki : k < i ∧ gt zs k < x
            · obtain ⟨hki, hlt'⟩ := hki
              have hc : w2.cell? ⟨g, k, none⟩ = some (.int .i64 (gt zs k)) := by
                obtain ⟨g', ha, _, _, hc, _⟩ := hown2.at_ (by rw [HZ.out]; omega)
                injection ha with ha; injection ha with ha; subst ha
                exact hc k (by rw [HZ.out]; exact hki)
              go_wp2
              go_round
              case rel => exact ⟨k + 1, by omega, by go_num, fun m hm => by rcases Nat.lt_or_ge m k with h' | h'; exact HBL.out m h'; rw [show m = k by omega]; exact hlt'⟩
              case measure => simp [intOf]; omega
            · have hstop : k < i → w2.cell? ⟨g, k, none⟩ = some (.int .i64 (gt zs k)) ∧ x ≤ gt zs k := by
                intro hki'
                obtain ⟨g', ha, _, _, hc, _⟩ := hown2.at_ (by rw [HZ.out]; omega)
                injection ha with ha; injection ha with ha; subst ha
                exact ⟨hc k (by rw [HZ.out]; exact hki'), by omega⟩
              clear hki
              have hB2 := Below.refl w2.heap.size w2
              by_cases hki' : k < i
              · obtain ⟨hc, hge⟩ := hstop hki'
                clear hstop
                have hck : ¬ cap = k := by omega
                have hkc : k ≤ cap := by omega
                have hkc' : (k : Int) ≤ (cap : Int) := by omega
                have hk0 : (0 : Int) ≤ (k : Int) := by omega
                have hki0 : (k : Int) ≤ (i : Int) := by omega
                go_wp2
                go_region_law ((first
                    | (refine step_app (o := ⟨some 48, _, _, _, _, _⟩) _ (by rfl) (.tmp 44) (.tmp 47) (by rfl) w2.heap.size _ 0 0 [] (by rfl) (own_empty (by first | exact heap_alloc_new w2 _ | exact heap_second w2 _ _ | exact heap_first w2 _ _) (by first | (simp; done) | (simp; omega) | omega)) ⟨g, 0, none⟩ k cap (vals (zs.take k)) (by rfl) (by rw [vals_len, List.length_take, HZ.out]; omega) (src_take hown2 (by repeat (first | exact hB2 | apply Below.drew | (refine Below.alloc ?_ (by first | exact Nat.le_refl _ | (simp; done) | (simp; omega) | omega) _)))) (vals_one _) k (vals (zs.take k)) (by omega) (by simp) (by omega) (by first | (simp; done) | (simp; omega) | omega) ?_
                       intro g3 cap3 w3 hown3 hg3 hat3
                       have hB3 : Below w2.heap.size w2 w3 := Below.grown (by repeat (first | exact hB2 | apply Below.drew | (refine Below.alloc ?_ (by first | exact Nat.le_refl _ | (simp; done) | (simp; omega) | omega) _))) hg3 (by first | (simp; done) | (simp; omega) | omega) (by first | (simp; done) | (simp; omega))
                       have hz3 := hB3.size)
                    | (refine step_app (o := ⟨some 51, _, _, _, _, _⟩) _ (by rfl) (.tmp 48) (.tmp 50) (by rfl) w2.heap.size g3 k cap3 (vals (zs.take k)) (by rfl) (by first | exact hown3 | exact hown3.alloc _) ⟨_, 0, none⟩ 1 1 [.int .i64 x] (by rfl) rfl (src_one (by first | exact heap_alloc_new w3 _ | exact (hg3.block _ (by first | (simp; done) | (simp; omega) | omega) (by first | (simp; done) | (simp; omega))).trans (heap_second w2 _ _) | exact (hg3.block _ (by first | (simp; done) | (simp; omega) | omega) (by first | (simp; done) | (simp; omega))).trans (heap_first w2 _ _))) (by simp [Value.oneCell']) (k + 1) (vals (zs.take k ++ [x])) rfl (by simp [vals]) (by omega) (by first | exact hz3 | (simp; omega)) ?_
                       intro g4 cap4 w4 hown4 hg4 hat4
                       have hB4 : Below w2.heap.size w2 w4 := Below.grown (by repeat (first | exact hB3 | apply Below.drew | (refine Below.alloc ?_ (by first | exact Nat.le_refl _ | (simp; done) | (simp; omega) | omega) _))) hg4 (by first | exact hz3 | (simp; omega)) (fun _ hk => by cases hk; exact (hown3.lt g3 rfl).1)
                       have hz4 := hB4.size)
                    | (refine step_app (o := ⟨some 55, _, _, _, _, _⟩) _ (by rfl) (.tmp 51) (.tmp 54) (by rfl) w2.heap.size g4 (k + 1) cap4 (vals (zs.take k ++ [x])) (by rfl) hown4 ⟨g, k, none⟩ (i - k) (cap - k) (vals (zs.drop k)) (by rfl) (by rw [vals_len, List.length_drop, HZ.out]) (src_drop hown2 (by repeat (first | exact hB4 | apply Below.drew | (refine Below.alloc ?_ (by first | exact Nat.le_refl _ | (simp; done) | (simp; omega) | omega) _)))) (by first | exact vals_one _ | simp) (i + 1) (vals (zs.take k ++ [x] ++ zs.drop k)) (by omega) (by simp [vals]) (by omega) hz4 ?_
                       intro g5 cap5 w5 hown5 hg5 hat5
                       have hB5 : Below w2.heap.size w2 w5 := Below.grown (by repeat (first | exact hB4 | apply Below.drew | (refine Below.alloc ?_ (by first | exact Nat.le_refl _ | (simp; done) | (simp; omega) | omega) _))) hg5 hz4 (fun _ hk => by cases hk; exact (hown4.lt g4 rfl).1))))
                all_goals
                  go_wp2
                  go_roundw
                  case rel => exact ⟨i + 1, by omega, by go_num, goodA_next hq hg2 hr2 (by repeat (first | exact hB5 | apply Below.drew)) (by simp [HZ.out]; try omega) (asc_ins HASC.out hx0 hx1 HHAS.out (by rw [HZ.out]; omega) HBL.out (fun _ => hge)) hown5⟩
                  case measure => simp [intOf]; omega
              · clear hstop
                obtain rfl : i = k := by omega
                have hk0 : (0 : Int) ≤ (i : Int) := by omega
                by_cases hck : cap = i
                · subst hck
                  go_wp2
                  go_region_law ((first
                      | (refine step_app (o := ⟨some 48, _, _, _, _, _⟩) _ (by rfl) (.tmp 44) (.tmp 47) (by rfl) w2.heap.size _ 0 0 [] (by rfl) (own_empty (by first | exact heap_alloc_new w2 _ | exact heap_second w2 _ _ | exact heap_first w2 _ _) (by first | (simp; done) | (simp; omega) | omega)) ⟨g, 0, none⟩ cap cap (vals (zs.take cap)) (by rfl) (by rw [vals_len, List.length_take, HZ.out]; omega) (src_take hown2 (by repeat (first | exact hB2 | apply Below.drew | (refine Below.alloc ?_ (by first | exact Nat.le_refl _ | (simp; done) | (simp; omega) | omega) _)))) (vals_one _) cap (vals (zs.take cap)) (by omega) (by simp) (by omega) (by first | (simp; done) | (simp; omega) | omega) ?_
                         intro g3 cap3 w3 hown3 hg3 hat3
                         have hB3 : Below w2.heap.size w2 w3 := Below.grown (by repeat (first | exact hB2 | apply Below.drew | (refine Below.alloc ?_ (by first | exact Nat.le_refl _ | (simp; done) | (simp; omega) | omega) _))) hg3 (by first | (simp; done) | (simp; omega) | omega) (by first | (simp; done) | (simp; omega))
                         have hz3 := hB3.size)
                      | (refine step_app (o := ⟨some 51, _, _, _, _, _⟩) _ (by rfl) (.tmp 48) (.tmp 50) (by rfl) w2.heap.size g3 cap cap3 (vals (zs.take cap)) (by rfl) (by first | exact hown3 | exact hown3.alloc _) ⟨_, 0, none⟩ 1 1 [.int .i64 x] (by rfl) rfl (src_one (by first | exact heap_alloc_new w3 _ | exact (hg3.block _ (by first | (simp; done) | (simp; omega) | omega) (by first | (simp; done) | (simp; omega))).trans (heap_second w2 _ _) | exact (hg3.block _ (by first | (simp; done) | (simp; omega) | omega) (by first | (simp; done) | (simp; omega))).trans (heap_first w2 _ _))) (by simp [Value.oneCell']) (cap + 1) (vals (zs.take cap ++ [x])) rfl (by simp [vals]) (by omega) (by first | exact hz3 | (simp; omega)) ?_
                         intro g4 cap4 w4 hown4 hg4 hat4
                         have hB4 : Below w2.heap.size w2 w4 := Below.grown (by repeat (first | exact hB3 | apply Below.drew | (refine Below.alloc ?_ (by first | exact Nat.le_refl _ | (simp; done) | (simp; omega) | omega) _))) hg4 (by first | exact hz3 | (simp; omega)) (fun _ hk => by cases hk; exact (hown3.lt g3 rfl).1)
                         have hz4 := hB4.size)
                      | (refine step_app (o := ⟨some 55, _, _, _, _, _⟩) _ (by rfl) (.tmp 51) (.tmp 54) (by rfl) w2.heap.size g4 (cap + 1) cap4 (vals (zs.take cap ++ [x])) (by rfl) hown4 ⟨g, 0, none⟩ 0 0 [] (by rfl) rfl (src_none _ _) (by first | exact vals_one _ | simp) (cap + 1) (vals (zs.take cap ++ [x])) (by omega) (by simp [vals]) (by omega) hz4 ?_
                         intro g5 cap5 w5 hown5 hg5 hat5
                         have hB5 : Below w2.heap.size w2 w5 := Below.grown (by repeat (first | exact hB4 | apply Below.drew | (refine Below.alloc ?_ (by first | exact Nat.le_refl _ | (simp; done) | (simp; omega) | omega) _))) hg5 hz4 (fun _ hk => by cases hk; exact (hown4.lt g4 rfl).1))))
                  all_goals
                    go_wp2
                    go_roundw
                    case rel => exact ⟨cap + 1, by omega, by go_num, goodA_next hq hg2 hr2 (by repeat (first | exact hB5 | apply Below.drew)) (by simp [HZ.out]; try omega) (asc_end HASC.out hx0 hx1 (by rw [HZ.out]; omega) HBL.out) hown5⟩
                    case measure => simp [intOf]; omega
                · have hkc : i ≤ cap := by omega
                  have hkc' : (i : Int) ≤ (cap : Int) := by omega
                  go_wp2
                  go_region_law ((first
                      | (refine step_app (o := ⟨some 48, _, _, _, _, _⟩) _ (by rfl) (.tmp 44) (.tmp 47) (by rfl) w2.heap.size _ 0 0 [] (by rfl) (own_empty (by first | exact heap_alloc_new w2 _ | exact heap_second w2 _ _ | exact heap_first w2 _ _) (by first | (simp; done) | (simp; omega) | omega)) ⟨g, 0, none⟩ i cap (vals (zs.take i)) (by rfl) (by rw [vals_len, List.length_take, HZ.out]; omega) (src_take hown2 (by repeat (first | exact hB2 | apply Below.drew | (refine Below.alloc ?_ (by first | exact Nat.le_refl _ | (simp; done) | (simp; omega) | omega) _)))) (vals_one _) i (vals (zs.take i)) (by omega) (by simp) (by omega) (by first | (simp; done) | (simp; omega) | omega) ?_
                         intro g3 cap3 w3 hown3 hg3 hat3
                         have hB3 : Below w2.heap.size w2 w3 := Below.grown (by repeat (first | exact hB2 | apply Below.drew | (refine Below.alloc ?_ (by first | exact Nat.le_refl _ | (simp; done) | (simp; omega) | omega) _))) hg3 (by first | (simp; done) | (simp; omega) | omega) (by first | (simp; done) | (simp; omega))
                         have hz3 := hB3.size)
                      | (refine step_app (o := ⟨some 51, _, _, _, _, _⟩) _ (by rfl) (.tmp 48) (.tmp 50) (by rfl) w2.heap.size g3 i cap3 (vals (zs.take i)) (by rfl) (by first | exact hown3 | exact hown3.alloc _) ⟨_, 0, none⟩ 1 1 [.int .i64 x] (by rfl) rfl (src_one (by first | exact heap_alloc_new w3 _ | exact (hg3.block _ (by first | (simp; done) | (simp; omega) | omega) (by first | (simp; done) | (simp; omega))).trans (heap_second w2 _ _) | exact (hg3.block _ (by first | (simp; done) | (simp; omega) | omega) (by first | (simp; done) | (simp; omega))).trans (heap_first w2 _ _))) (by simp [Value.oneCell']) (i + 1) (vals (zs.take i ++ [x])) rfl (by simp [vals]) (by omega) (by first | exact hz3 | (simp; omega)) ?_
                         intro g4 cap4 w4 hown4 hg4 hat4
                         have hB4 : Below w2.heap.size w2 w4 := Below.grown (by repeat (first | exact hB3 | apply Below.drew | (refine Below.alloc ?_ (by first | exact Nat.le_refl _ | (simp; done) | (simp; omega) | omega) _))) hg4 (by first | exact hz3 | (simp; omega)) (fun _ hk => by cases hk; exact (hown3.lt g3 rfl).1)
                         have hz4 := hB4.size)
                      | (refine step_app (o := ⟨some 55, _, _, _, _, _⟩) _ (by rfl) (.tmp 51) (.tmp 54) (by rfl) w2.heap.size g4 (i + 1) cap4 (vals (zs.take i ++ [x])) (by rfl) hown4 ⟨g, i, none⟩ 0 (cap - i) [] (by rfl) rfl (src_none _ _) (by first | exact vals_one _ | simp) (i + 1) (vals (zs.take i ++ [x])) (by omega) (by simp [vals]) (by omega) hz4 ?_
                         intro g5 cap5 w5 hown5 hg5 hat5
                         have hB5 : Below w2.heap.size w2 w5 := Below.grown (by repeat (first | exact hB4 | apply Below.drew | (refine Below.alloc ?_ (by first | exact Nat.le_refl _ | (simp; done) | (simp; omega) | omega) _))) hg5 hz4 (fun _ hk => by cases hk; exact (hown4.lt g4 rfl).1))))
                  all_goals
                    go_wp2
                    go_roundw
                    case rel => exact ⟨i + 1, by omega, by go_num, goodA_next hq hg2 hr2 (by repeat (first | exact hB5 | apply Below.drew)) (by simp [HZ.out]; try omega) (asc_end HASC.out hx0 hx1 (by rw [HZ.out]; omega) HBL.out) hown5⟩
                    case measure => simp [intOf]; omega
        · have hne : ¬ x = fr := by intro e; rw [e, HF.out] at hh; cases hh
          go_wp2_with (go_at_call 94; refine (shas_any _ _ _ zs _ _ hown2.ints HZ.out (by unfold maxLen; omega)).mono ?_; rintro e w' ⟨rfl, rfl⟩)
          go_round
          case rel => exact ⟨(x + 1) % 64, by omega, by omega, by simp⟩
          case measure => simp [intOf]; omega
    · go_wp2
      go_ret
      exact ⟨g, cap, zs, by rw [HZ.out]; rfl, hown, by rw [HZ.out]; omega, by rw [HZ.out]; omega, hr.less (by omega), hg, HASC.out⟩

end

/- The model's RingNew makes a ring in blocks of its own; the ideal ring of valid nodes is safe. -/

section
open Go.RowKit
set_option linter.unusedVariables false


theorem asc_ltH {zs : List Int} (h : AscP zs) : ∀ {i j : Nat}, i < j → j < zs.length → gt zs i < gt zs j := by
  intro i j hij hj
  induction j with
  | zero => omega
  | succ j ih =>
    have := h.2 j hj
    rcases Nat.lt_or_ge i j with h3 | h3
    · have := ih h3 (by omega); omega
    · rw [show i = j by omega]; exact this
theorem ideal_rv {zs : List Int} (h : AscP zs) (h3 : 3 ≤ zs.length) (h10 : zs.length ≤ 10) : rvB (idR zs) = true := by
  have hp : 0 < zs.length := by omega
  refine (rv_iff _).2 ⟨by rw [idR_len]; exact h10, fun k hk => ?_⟩
  rw [idR_len] at hk
  refine ⟨?_, ?_⟩
  · rw [idR_at hk]
    exact (ndB_iff _).2 ⟨h.1 k hk, .inr (h.1 _ (Nat.mod_lt _ hp)), _, _, rfl, h.1 _ (Nat.mod_lt _ hp), h.1 _ (Nat.mod_lt _ hp)⟩
  · by_cases h0 : k = 0
    · exact .inl h0
    · refine .inr ?_
      rw [idR_at hk, idR_at (by omega)]
      show gt zs (k - 1) < gt zs k
      exact asc_ltH h (by omega) hk
/-- between two neighbours there is no node -/
theorem none_between {zs : List Int} (h : AscP zs) {i j : Nat} (hi : i < zs.length) (hj : j < zs.length) : btwI (gt zs i) (gt zs j) (gt zs ((i + 1) % zs.length)) = false := by
  rw [← Bool.not_eq_true, btwI_iff]
  by_cases hl : i + 1 < zs.length
  · rw [Nat.mod_eq_of_lt hl]
    have h1 := asc_ltH h (show i < i + 1 by omega) hl
    rcases Nat.lt_trichotomy j i with a | a | a
    · have := asc_ltH h a hi; omega
    · subst a; omega
    · rcases Nat.lt_trichotomy j (i + 1) with b | b | b
      · omega
      · subst b; omega
      · have := asc_ltH h b hj; omega
  · have e : (i + 1) % zs.length = 0 := by rw [show i + 1 = zs.length by omega]; exact Nat.mod_self _
    rw [e]
    have h1 : gt zs 0 ≤ gt zs j := by
      rcases Nat.eq_zero_or_pos j with a | a
      · subst a; omega
      · have := asc_ltH h a hj; omega
    have h2 : gt zs j ≤ gt zs i := by
      rcases Nat.lt_or_ge j i with a | a
      · have := asc_ltH h a hi; omega
      · rw [show j = i by omega]; exact Int.le_refl _
    by_cases e0 : zs.length = 1
    · omega
    · have := asc_ltH h (show 0 < i by omega) hi; omega
theorem ideal_safe {zs : List Int} (h : AscP zs) (h3 : 3 ≤ zs.length) (h10 : zs.length ≤ 10) : safeB (idR zs) = true ∧ (prL (idR zs)).length = zs.length := by
  have hv := ideal_rv h h3 h10
  have hp : 0 < zs.length := by omega
  have hl := idR_len zs
  have hpos : ∀ i, i < zs.length → (gn (idR zs) i).pos = gt zs i := fun i hi => by rw [idR_at hi]; rfl
  have hlive : ∀ i, i < zs.length → liveB (idR zs) (gt zs i) = true := fun i hi => (live_iff _ _).2 ⟨i, by rw [hl]; exact hi, hpos i hi⟩
  have hno : ∀ j, j < zs.length → skdB (idR zs) (gt zs j) = false := fun j hj => by
    refine (skd_no _ _).2 fun k hk => ?_
    rw [hl] at hk
    rw [idR_at hk, skB]
    have e1 : gt (idNd zs k).aft 0 = gt zs ((k + 1) % zs.length) := rfl
    have e2 : gt (idNd zs k).aft 1 = gt zs ((k + 2) % zs.length) := rfl
    have e3 : (k + 2) % zs.length = ((k + 1) % zs.length + 1) % zs.length := by rw [Nat.mod_add_mod]
    rw [e1, e2, e3]
    show (btwI (gt zs k) (gt zs j) _ || _) = false
    rw [none_between h hk hj, none_between h (Nat.mod_lt _ hp) hj]; rfl
  have hpr : ∀ k, k ≤ zs.length → (prTo (idR zs) k).length = k := by
    intro k hk
    induction k with
    | zero => rfl
    | succ k ih =>
      rw [prTo, hpos k (by omega), hno k (by omega)]
      simp [ih (by omega)]
  have hlen : (prL (idR zs)).length = zs.length := by rw [prL, hl]; exact hpr _ (Nat.le_refl _)
  refine ⟨(safe_iff _).2 ⟨hv, fun k hk => ?_, by omega⟩, hlen⟩
  rw [hl] at hk
  rw [idR_at hk]
  have : liveB (idR zs) (gt (idNd zs k).aft 0) = true := hlive _ (Nat.mod_lt _ hp)
  unfold lsB; rw [this]; rfl
theorem asc_vld {zs : List Int} (h : AscP zs) (h1 : 1 ≤ zs.length) (h10 : zs.length ≤ 10) : vldB zs = true := by
  refine vld_yes h1 h10 ?_
  have key : ∀ k, k ≤ zs.length → ascTo zs k = true := by
    intro k hk
    induction k with
    | zero => rfl
    | succ k ih =>
      have hp := h.1 k (by omega)
      have hpt : ptB (gt zs k) = true := (ptB_iff _).2 hp
      rcases Nat.eq_zero_or_pos k with e | e
      · subst e; exact ok_zero hpt
      · obtain ⟨j, rfl⟩ : ∃ j, k = j + 1 := ⟨k - 1, by omega⟩
        exact ok_succ (ih (by omega)) hpt (h.2 j (by omega))
  exact key _ (Nat.le_refl _)

end

/- The model's RingNew makes a ring in blocks of its own. -/

section
open Go.RowKit
set_option linter.unusedVariables false


theorem two_blk {W : World} {N : Nat} {x y : Int} (h : W.heap[N]? = some (.cells #[.int .i64 x, .int .i64 y] 3 (0, 0))) : IntsBlk W N [x, y] :=
  ⟨_, h, fun j hj => by
    have : j = 0 ∨ j = 1 := by simp at hj; omega
    rcases this with rfl | rfl <;> rfl⟩
theorem ownL_step {w wo W2 w5 : World} {g gc g3 c3 : Nat} {L : List (Nd × Value)} {F : Nat → Nat} {n : Nd} (hrow : RowL wo w.heap.size g gc L) (hbel : Below w.heap.size w wo) (ho : OwnL wo w.heap.size L F) (hB : Below wo.heap.size wo W2) (hi : IntsBlk W2 g3 n.aft)
    (h3 : wo.heap.size ≤ g3) (h31 : n.aft.length ≤ c3) (h32 : c3 ≤ maxLen) (hg5 : W2.grownBy w5 (some g)) : OwnL w5 w.heap.size (L ++ [(n, .slice (some ⟨g3, 0, none⟩) n.aft.length c3)]) (fun i => if i = L.length then g3 else F i) := by
  obtain ⟨hg1, hg2, cs, hgb, _⟩ := hrow.blk
  have hz := hB.size
  have hF : ∀ i, i < L.length → F i < wo.heap.size ∧ F i ≠ g := fun i hi => by
    obtain ⟨_, h2, _⟩ := ho.1 i _ (List.getElem?_eq_getElem hi)
    exact ⟨h2.lt, h2.ne hgb⟩
  have ho5 : OwnL w5 w.heap.size L F := ho.kept (fun i hi => (hg5.block _ (by have := (hF i hi).1; omega) (by intro e; injection e with e; exact (hF i hi).2 e)).trans (hB.block _ (hF i hi).1))
  have hi5 : IntsBlk w5 g3 n.aft := hi.kept (hg5.block _ hi.lt (by intro e; injection e with e; omega))
  exact ho5.add hi5 (by have := hbel.size; omega) (fun i hi => by have := (hF i hi).1; omega) h31 h32

set_option maxHeartbeats 2000000 in
theorem sidealO_any (a : Option Addr) (len cap : Nat) (zs : List Int) (w : World) (h : IntsAt w a zs) (hz : zs.length = len) (hm : len ≤ 10) :
    Calls Try.prog 93 #[.slice a len cap] w (NewOwn (idR zs) w) := by
  have HI := Lib.hid h
  have HZ := Lib.hid hz
  clear h hz
  go_enter Try.func93, Try.ntmps93
  go_wp2
  go_loopw [3, 5] (fun o i wr => ∃ (k : Nat) (L : List (Nd × Value)) (F : Nat → Nat), k ≤ len ∧ i = .int .i64 k ∧ L.length = k ∧ L.map (·.1) = (List.range k).map (idNd zs) ∧ RowSoFar L w o wr ∧ OwnL wr w.heap.size L F) (fun _ i _ => len - (intOf i).toNat)
  case atStart => exact ⟨0, [], fun _ => 0, by omega, rfl, rfl, rfl, rowfar_new w _ rfl, fun i p hp => by simp at hp, fun i j hi => absurd hi (by simp)⟩
  case round =>
    obtain ⟨k, L, F, hk, rfl, hLl, hLm, ⟨g, gc, rfl, hrow, hbel⟩, hownl⟩ := hrel
    have HOW := Lib.hid hownl
    clear hownl
    have HLM := Lib.hid hLm
    have HLL := Lib.hid hLl
    rw [hLl]
    clear hLm hLl
    by_cases hlt : k < len
    · have h' : ∃ b off, a = some ⟨b, off, none⟩ ∧ b < w.heap.size ∧ ∀ j, j < len → wr.cell? ⟨b, off + j, none⟩ = some (.int .i64 (gt zs j)) := by
        rcases HI.out with h0 | ⟨b, off, ha, hb, hc⟩
        · have := HZ.out; rw [h0] at this; simp at this; omega
        · exact ⟨b, off, ha, hb, fun j hj => (hbel.cell (p := ⟨b, off + j, none⟩) hb).trans (hc j (by rw [HZ.out]; exact hj))⟩
      obtain ⟨b, off, rfl, hb, hc⟩ := h'
      have hm0 : (k + len - 1) % len < len := Nat.mod_lt _ (by omega)
      have hm1 : (k + 1) % len < len := Nat.mod_lt _ (by omega)
      have hm2 : (k + 2) % len < len := Nat.mod_lt _ (by omega)
      have c0 := hc k hlt
      have c1 := hc _ hm0
      have c2 := hc _ hm1
      have c3 := hc _ hm2
      have t0 := idx_m hlt
      have t1 : ((k : Int) + 1).tmod len = ((k + 1) % len : Nat) := idx_p 1 hlt
      have t2 : ((k : Int) + 2).tmod len = ((k + 2) % len : Nat) := idx_p 2 hlt
      have HE : Hid (idNd zs k = ⟨gt zs k, gt zs ((k + len - 1) % len), [gt zs ((k + 1) % len), gt zs ((k + 2) % len)]⟩) := by show idNd zs k = _; rw [idNd, HZ.out]
      clear hc
      generalize (k + len - 1) % len = jm at *
      generalize (k + 1) % len = j1 at *
      generalize (k + 2) % len = j2 at *
      generalize gt zs k = z0 at *
      generalize gt zs jm = zm at *
      generalize gt zs j1 = z1 at *
      generalize gt zs j2 = z2 at *
      have n0 : ¬ len = 0 := by omega
      have s0 : IntKind.i64.wrap ((k : Int) + len) = k + len := by rw [IntKind.wrap_i64]; omega
      have s1 : IntKind.i64.wrap ((k : Int) + len - 1) = k + len - 1 := by rw [IntKind.wrap_i64]; omega
      have s2 : IntKind.i64.wrap ((k : Int) + 1) = k + 1 := by rw [IntKind.wrap_i64]; omega
      have s3 : IntKind.i64.wrap ((k : Int) + 2) = k + 2 := by rw [IntKind.wrap_i64]; omega
      have wm : IntKind.i64.wrap (jm : Int) = jm := by rw [IntKind.wrap_i64]; omega
      have w1 : IntKind.i64.wrap (j1 : Int) = j1 := by rw [IntKind.wrap_i64]; omega
      have w2 : IntKind.i64.wrap (j2 : Int) = j2 := by rw [IntKind.wrap_i64]; omega
      have i0 : (0 : Int) ≤ (k : Int) := by omega
      have i1 : (k : Int) < (len : Int) := by omega
      have i2 : (0 : Int) ≤ (jm : Int) := by omega
      have i3 : (jm : Int) < (len : Int) := by omega
      have i4 : (0 : Int) ≤ (j1 : Int) := by omega
      have i5 : (j1 : Int) < (len : Int) := by omega
      have i6 : (0 : Int) ≤ (j2 : Int) := by omega
      have i7 : (j2 : Int) < (len : Int) := by omega
      have HR := Lib.hid hrow
      have hgl := hrow.blk
      clear hrow
      obtain ⟨wo, rfl⟩ : ∃ x, x = wr := ⟨_, rfl⟩
      have hz0 := hbel.size
      have HS : Hid (∀ w', Below w.heap.size wo w' → (w'.cell? ⟨b, off + k, none⟩ = some (.int .i64 z0) ∧ w'.cell? ⟨b, off + jm, none⟩ = some (.int .i64 zm) ∧ w'.cell? ⟨b, off + j1, none⟩ = some (.int .i64 z1) ∧ w'.cell? ⟨b, off + j2, none⟩ = some (.int .i64 z2))) := fun w' hw' =>
        ⟨(hw'.cell (p := ⟨b, off + k, none⟩) hb).trans c0, (hw'.cell (p := ⟨b, off + jm, none⟩) hb).trans c1, (hw'.cell (p := ⟨b, off + j1, none⟩) hb).trans c2, (hw'.cell (p := ⟨b, off + j2, none⟩) hb).trans c3⟩
      have HB : Hid (∀ o, Below wo.heap.size wo (wo.drew.alloc o)) := fun o => ((Below.refl _ _).drew).alloc (Nat.le_refl _) _
      have HB2 : Hid (∀ o o', Below wo.heap.size wo ((wo.drew.alloc o).alloc o')) := fun o o' => (HB.out o).alloc (by simp) _
      go_wp2_with fail
      go_region_held3 (fun w' => w'.cell? ⟨b, off + k, none⟩ = some (.int .i64 z0) ∧ w'.cell? ⟨b, off + jm, none⟩ = some (.int .i64 zm) ∧ w'.cell? ⟨b, off + j1, none⟩ = some (.int .i64 z1) ∧ w'.cell? ⟨b, off + j2, none⟩ = some (.int .i64 z2))
        (first | exact HS.out _ hB5 | exact HS.out _ ((HB2.out _ _).mono hz0) | exact HS.out _ ((HB.out _).mono hz0) | exact HS.out _ (Below.refl _ _).drew)
        (first | (refine step_appN (o := ⟨some 45, _, _, _, _, _⟩) _ (by rfl) (.tmp 14) (.tmp 44) (by rfl) w.heap.size g k gc L [(⟨z0, zm, [z1, z2]⟩, .slice (some ⟨wo.heap.size, 0, none⟩) 2 2)] (by rfl) (HR.out.keepB (HB2.out _ _) (Nat.le_refl _)) HLL.out ⟨wo.heap.size + 1, 0, none⟩ 1 1 (by rfl) rfl (srcN_one (heap_second wo.drew _ _)) (twoOff (heap_first wo.drew _ _) (by omega)) (k + 1) rfl (by omega) (by simp; omega) ?_; intro g5 cap5 w5 hown5 hg5 hat5; have hOW5 := ownL_step (n := ⟨z0, zm, [z1, z2]⟩) (c3 := 2) HR.out hbel HOW.out (HB2.out _ _) (two_blk (heap_first wo.drew _ _)) (Nat.le_refl _) (Nat.le_refl _) (by unfold maxLen; omega) hg5; have hB5 : Below w.heap.size wo w5 := ((HB2.out _ _).mono hz0).grown hg5 (by simp; omega) (fun q hq => by injection hq with hq; omega)))
      go_wp2
      go_roundw
      case rel =>
        refine ⟨k + 1, _, _, by omega, by go_num, by rw [List.length_append, HLL.out]; rfl, ?_, ⟨g5, cap5, by rw [List.length_append, HLL.out]; rfl, hown5, hbel.trans hB5⟩, hOW5⟩
        rw [List.map_append, HLM.out, List.range_succ, List.map_append]
        simp [HE.out]
      case measure => simp [intOf]; omega
    · have hkk : k = zs.length := by rw [HZ.out]; omega
      have HK := Lib.hid hkk
      clear hkk
      have HR := Lib.hid hrow
      clear hrow
      go_wp2
      go_ret
      have hfull : L.map (fun p => p.1) = idR zs := by rw [HLM.out, HK.out]; rfl
      obtain ⟨h1, _, _, _, h2, h3, _⟩ := HR.out.blk
      have hrl : (idR zs).length = k := by rw [idR_len]; exact HK.out.symm
      exact ⟨g, gc, F, by rw [hrl]; rfl, own_of_row HR.out HOW.out hfull h1, by rw [hrl, ← HLL.out]; exact h2, h3, hbel⟩

set_option maxHeartbeats 1000000 in
theorem srnewO_any (a : Option Addr) (len cap : Nat) (zs : List Int) (w : World) (h : IntsAt w a zs) (hz : zs.length = len) (hm : len ≤ maxLen) :
    Calls Try.prog 79 #[.slice a len cap] w (NewRB (newR zs) (newB zs) w) := by
  have HI := Lib.hid h
  have HZ := Lib.hid hz
  have HM := Lib.hid hm
  clear h hm
  have HN : Hid (∀ w1 : World, Same w w1 → ∀ cs, NewRB [] false w (.returned (.tuple #[.slice (some ⟨w1.heap.size, 0, none⟩) 0 0, .bool false])) (w1.alloc (.cells cs 28))) := fun w1 hs cs =>
    (newRB_nil w1 cs).mono (hs.below w.heap.size)
  cases hv : vldB zs
  · have He : Hid (newB zs = false) := by show newB zs = false; simp [newB, hv]
    have HV := Lib.hid hv
    clear hv hz
    go_enter Try.func79, Try.ntmps79
    go_wp2_with fail
    refine (svalid_as false a len cap zs w HI.out HZ.out HM.out HV.out).mono ?_
    rintro e w1 ⟨rfl, hs1⟩
    go_wp2
    go_ret2
    rw [newR, He.out]
    exact HN.out w1 hs1 _
  have HV := Lib.hid hv
  have h10 := (vld_len hv).2
  rw [hz] at h10
  by_cases h3 : 3 ≤ len
  rotate_left
  · have He : Hid (newB zs = false) := by show newB zs = false; simp [newB, hv, hz]; omega
    have d3 : decide ((len : Int) < 3) = true := by simp; omega
    clear hv hz
    go_enter Try.func79, Try.ntmps79
    go_wp2_with fail
    refine (svalid_as true a len cap zs w HI.out HZ.out HM.out HV.out).mono ?_
    rintro e w1 ⟨rfl, hs1⟩
    go_wp2
    go_ret2
    rw [newR, He.out]
    exact HN.out w1 hs1 _
  have He : Hid (newB zs = true) := by show newB zs = true; simp [newB, hv, hz, h3]
  have d3 : decide ((len : Int) < 3) = false := by simp; omega
  clear hv hz
  go_enter Try.func79, Try.ntmps79
  go_wp2_with fail
  refine (svalid_as true a len cap zs w HI.out HZ.out HM.out HV.out).mono ?_
  rintro e w1 ⟨rfl, hs1⟩
  have hb1 : Below w.heap.size w w1 := hs1.below _
  go_wp2_with fail
  refine (sidealO_any a len cap zs w1 (HI.out.keepB hb1 (Nat.le_refl _)) HZ.out h10).mono ?_
  rintro e w2 ⟨g, gc, F2, rfl, hr2, hl2, hm2, hb2⟩
  have HR2 := Lib.hid hr2
  have HL2 := Lib.hid (And.intro hl2 hm2)
  clear hr2 hl2 hm2
  go_wp2
  go_ret2
  rw [newR, He.out, if_pos rfl]
  exact ⟨g, gc, F2, rfl, HR2.out.wide hb1.size (Nat.le_refl _), HL2.out.1, HL2.out.2, hb1.trans (hb2.mono hb1.size)⟩


end

/- Drawing rings: a drawn step. -/

section
open Go.RowKit
set_option linter.unusedVariables false


/-- a drawn safe ring, in blocks from base on -/
def DrewRing (q K base : Nat) (w : World) (e : Ending) (w' : World) : Prop :=
  ∃ N cap F r, e = .returned (.slice (some ⟨N, 0, none⟩) r.length cap) ∧ RingOwn w' base w'.heap.size N r F ∧ r.length ≤ cap ∧ cap ≤ maxLen ∧ safeB r = true ∧ Ready w' q K ∧ w.grownBy w' (some q)
theorem sel_safe {r : List Nd} {ok : Bool} {i : Int} {f : Nat → List Nd} (hl : liveB r i = true) (hok : ok = true) (hf : ∀ k, k < r.length → safeB (f k) = true) : safeB (selR r ok i f) = true := by
  rw [selR, hok, hl, if_pos rfl, if_pos rfl]; exact hf _ (idx_live hl).1
theorem join_safe {r : List Nd} {x y : Int} (h : arg3 r x y = true) : safeB (joinR r x y) = true := by
  rw [joinR, h, if_pos rfl]
  rcases bool_cases (joinB r x y) with hb | hb
  · rw [hb, if_neg (by simp)]; unfold arg3 at h; simp at h; exact h.1.1
  · rw [hb, if_pos rfl]; exact (join_pre h hb).2.2.2.2
theorem fail_safe {r : List Nd} {i : Int} (h : oneB r i = true) : safeB (failR r i) = true := by
  have hs := one_safe h
  rw [failR, h, if_pos rfl]
  split
  · rename_i hb
    obtain ⟨h1, h2⟩ := Bool.and_eq_true _ _ ▸ hb
    rw [safeB, cut_rv (safe_rv hs) (idx_live h1).1, h2]; rfl
  · exact hs
theorem own_kept {w w' : World} {q base N : Nat} {r : List Nd} {F : Nat → Nat} (h : RingOwn w base w.heap.size N r F) (hk : Kept q w w') (hq : q < base) : RingOwn w' base w'.heap.size N r F := by
  rw [hk.size]; exact h.kept (fun g h1 _ => hk.block g (by omega))
theorem own_pos {w : World} {lo hi N : Nat} {r : List Nd} {F : Nat → Nat} (h : RingOwn w lo hi N r F) {i : Nat} (hi' : i < r.length) : w.cell? ⟨N, i * 3, none⟩ = some (.int .i64 (gn r i).pos) := by
  obtain ⟨cs, hb, hc⟩ := h.row
  rw [cell_of_cells hb]; exact (hc i hi').1
theorem safe_three {r : List Nd} (h : safeB r = true) : 3 ≤ r.length := by
  obtain ⟨_, _, h3⟩ := (safe_iff r).1 h
  exact Nat.le_trans h3 (prTo_len r _)
theorem step_post {q K K' base N cap : Nat} {F : Nat → Nat} {r : List Nd} {w w3 w4 : World} (hg : w.grownBy w3 (some q)) (hr : Ready w3 q K') (hK : K ≤ K') (hb : base ≤ w.heap.size) (ho : RingOwn w4 w3.heap.size w4.heap.size N r F) (h1 : r.length ≤ cap) (h2 : cap ≤ maxLen) (hB : Below w3.heap.size w3 w4) (hs : safeB r = true) (hq : q < base) :
    ∀ n, n = r.length → DrewRing q K base w (.returned (.slice (some ⟨N, 0, none⟩) n cap)) w4 := fun n hn => by
  have hz := hg.size
  exact ⟨N, cap, F, r, by rw [hn], ho.wide (by omega) (Nat.le_refl _), h1, h2, hs, (hr.less hK).below hB (by omega), grown_trans hg ⟨hB.os, hB.tape, hB.output, hB.size, fun k hk _ => hB.block k hk⟩⟩

set_option maxHeartbeats 4000000 in
theorem step_any (q K base N cap : Nat) (F : Nat → Nat) (r : List Nd) (w : World) (hr : Ready w q (K + 4)) (ho : RingOwn w base w.heap.size N r F) (hq : q < base) (hs : safeB r = true) (hl : r.length ≤ cap) (hm : cap ≤ maxLen) :
    Calls Try.prog 81 #[.pointer (some ⟨q, 0, none⟩), .slice (some ⟨N, 0, none⟩) r.length cap] w (DrewRing q K base w) := by
  have h3 := safe_three hs
  have hv := safe_rv hs
  have h10 := rv_len hv
  have hbw : base ≤ w.heap.size := by have := ho.inN; omega
  have HR := Lib.hid hr
  have HO := Lib.hid ho
  have HS := Lib.hid hs
  have HV := Lib.hid hv
  have HM := Lib.hid hm
  have t0 : ((r.length : Int) == 0) = false := by rw [beq_eq_false_iff_ne]; omega
  clear hr ho hs hv hm
  go_enter Try.func81, Try.ntmps81
  go_wp2_with fail
  refine (pick_r q (K + 3) _ w HR.out (by omega) (by omega)).mono ?_
  rintro e w1 ⟨v1, hv0, hv1, rfl, hr1, hk1⟩
  obtain ⟨i, rfl⟩ := Int.eq_ofNat_of_zero_le hv0
  have hi : i < r.length := by omega
  have HO1 := Lib.hid (own_kept HO.out hk1 hq)
  have c1 := own_pos HO1.out hi
  have HR1 := Lib.hid hr1
  clear hr1
  go_wp2_with fail
  refine (pick_r q (K + 2) _ w1 HR1.out (by omega) (by omega)).mono ?_
  rintro e w2 ⟨v2, hv20, hv21, rfl, hr2, hk2⟩
  obtain ⟨j, rfl⟩ := Int.eq_ofNat_of_zero_le hv20
  have hj : j < r.length := by omega
  have HO2 := Lib.hid (own_kept HO1.out hk2 hq)
  have c2 := own_pos HO2.out hj
  have HR2 := Lib.hid hr2
  clear hr2 c1
  go_wp2_with fail
  refine (pick_r q (K + 1) 10 w2 HR2.out (by omega) (by omega)).mono ?_
  rintro e w3 ⟨v3, hv30, hv31, rfl, hr3, hk3⟩
  have HO3 := Lib.hid (own_kept HO2.out hk3 hq)
  have HR3 := Lib.hid hr3
  have hg3 : w.grownBy w3 (some q) := grown_trans hk1.grown (grown_trans hk2.grown hk3.grown)
  clear hr3 c2
  have hip := (nd_open HV.out hi).1
  have hjp := (nd_open HV.out hj).1
  have HLI := Lib.hid (live_at hi)
  have HLJ := Lib.hid (live_at hj)
  have HOK : Hid (oneB r (gn r i).pos = true) := by show _ = _; unfold oneB; rw [HS.out, (ptB_iff _).2 hip]; rfl
  have HPJ : Hid (ptB (gn r j).pos = true) := (ptB_iff _).2 hjp
  have HLR := Lib.hid hl
  generalize (gn r i).pos = x at *
  generalize (gn r j).pos = y at *
  have hcase : v3 = 0 ∨ v3 = 1 ∨ v3 = 2 ∨ v3 = 3 ∨ v3 = 4 ∨ v3 = 5 ∨ v3 = 6 ∨ v3 = 7 ∨ v3 = 8 ∨ v3 = 9 := by omega
  clear hv30 hv31 hv0 hv1 hv20 hv21 t0
  rcases hcase with rfl | rfl | rfl | rfl | rfl | rfl | rfl | rfl | rfl | rfl
  · go_wp2_with fail
    refine (pick_r q K 12 w3 HR3.out (by omega) (by omega)).mono ?_
    rintro e w5 ⟨v5, hv50, hv51, rfl, hr5, hk5⟩
    have HO5 := Lib.hid (own_kept HO3.out hk5 hq)
    have HR5 := Lib.hid hr5
    have hg5 : w.grownBy w5 (some q) := grown_trans hg3 hk5.grown
    clear hr5
    have tm : (x + 1 + v5).tmod 64 = (x + 1 + v5) % 64 := Int.tmod_eq_emod_of_nonneg (by omega)
    go_wp2_with fail
    refine (sjoin_any _ _ cap ((x + 1 + v5) % 64) x r w5 HO5.out.ring rfl HLR.out HM.out).mono ?_
    rintro e w4 ⟨N4, c4, F4, rfl, ho4, h41, h42, hB4⟩
    have HO4 := Lib.hid ho4
    have HC4 := Lib.hid (And.intro h41 h42)
    have HS4 : Hid (safeB (joinR r ((x + 1 + v5) % 64) x) = true) := join_safe (by unfold arg3; rw [HS.out, (ptB_iff _).2 hip, (ptB_iff _).2 (show 0 ≤ (x + 1 + v5) % 64 ∧ (x + 1 + v5) % 64 < 64 by omega)]; rfl)
    clear ho4 h41 h42
    go_wp2
    go_ret
    exact step_post hg5 HR5.out (Nat.le_refl _) hbw HO4.out HC4.out.1 HC4.out.2 hB4 HS4.out hq _ rfl
  · go_wp2_with fail
    refine (pick_r q K 12 w3 HR3.out (by omega) (by omega)).mono ?_
    rintro e w5 ⟨v5, hv50, hv51, rfl, hr5, hk5⟩
    have HO5 := Lib.hid (own_kept HO3.out hk5 hq)
    have HR5 := Lib.hid hr5
    have hg5 : w.grownBy w5 (some q) := grown_trans hg3 hk5.grown
    clear hr5
    have tm : (x + 1 + v5).tmod 64 = (x + 1 + v5) % 64 := Int.tmod_eq_emod_of_nonneg (by omega)
    go_wp2_with fail
    refine (sjoin_any _ _ cap ((x + 1 + v5) % 64) x r w5 HO5.out.ring rfl HLR.out HM.out).mono ?_
    rintro e w4 ⟨N4, c4, F4, rfl, ho4, h41, h42, hB4⟩
    have HO4 := Lib.hid ho4
    have HC4 := Lib.hid (And.intro h41 h42)
    have HS4 : Hid (safeB (joinR r ((x + 1 + v5) % 64) x) = true) := join_safe (by unfold arg3; rw [HS.out, (ptB_iff _).2 hip, (ptB_iff _).2 (show 0 ≤ (x + 1 + v5) % 64 ∧ (x + 1 + v5) % 64 < 64 by omega)]; rfl)
    clear ho4 h41 h42
    go_wp2
    go_ret
    exact step_post hg5 HR5.out (Nat.le_refl _) hbw HO4.out HC4.out.1 HC4.out.2 hB4 HS4.out hq _ rfl
  · go_wp2_with fail
    refine (sfail_any _ _ cap x r w3 HO3.out.ring rfl HLR.out HM.out).mono ?_
    rintro e w4 ⟨N4, c4, F4, rfl, ho4, h41, h42, hB4⟩
    have HO4 := Lib.hid ho4
    have HC4 := Lib.hid (And.intro h41 h42)
    have HS4 : Hid (safeB (failR r x) = true) := fail_safe HOK.out
    clear ho4 h41 h42
    go_wp2
    go_ret
    exact step_post hg3 HR3.out (by omega) hbw HO4.out HC4.out.1 HC4.out.2 hB4 HS4.out hq _ rfl
  · go_wp2_with fail
    refine (sfail_any _ _ cap x r w3 HO3.out.ring rfl HLR.out HM.out).mono ?_
    rintro e w4 ⟨N4, c4, F4, rfl, ho4, h41, h42, hB4⟩
    have HO4 := Lib.hid ho4
    have HC4 := Lib.hid (And.intro h41 h42)
    have HS4 : Hid (safeB (failR r x) = true) := fail_safe HOK.out
    clear ho4 h41 h42
    go_wp2
    go_ret
    exact step_post hg3 HR3.out (by omega) hbw HO4.out HC4.out.1 HC4.out.2 hB4 HS4.out hq _ rfl
  · go_wp2_with fail
    refine (sfail_any _ _ cap x r w3 HO3.out.ring rfl HLR.out HM.out).mono ?_
    rintro e w4 ⟨N4, c4, F4, rfl, ho4, h41, h42, hB4⟩
    have HO4 := Lib.hid ho4
    have HC4 := Lib.hid (And.intro h41 h42)
    have HS4 : Hid (safeB (failR r x) = true) := fail_safe HOK.out
    clear ho4 h41 h42
    go_wp2
    go_ret
    exact step_post hg3 HR3.out (by omega) hbw HO4.out HC4.out.1 HC4.out.2 hB4 HS4.out hq _ rfl
  · go_wp2_with fail
    refine (srdrop_any _ _ cap x r w3 HO3.out.ring rfl (Nat.le_trans HLR.out HM.out)).mono ?_
    rintro e w4 ⟨N4, c4, F4, rfl, ho4, h41, h42, hB4⟩
    have HO4 := Lib.hid ho4
    have HC4 := Lib.hid (And.intro h41 h42)
    have HS4 : Hid (safeB (selR r (oneB r x) x (dropR r)) = true) := sel_safe HLI.out HOK.out (fun k hk => (drop_ok HS.out hk).safe)
    clear ho4 h41 h42
    go_wp2
    go_ret
    exact step_post hg3 HR3.out (by omega) hbw HO4.out HC4.out.1 HC4.out.2 hB4 HS4.out hq _ rfl
  · go_wp2_with fail
    refine (sradopt_any _ _ cap x r w3 HO3.out.ring rfl (Nat.le_trans HLR.out HM.out)).mono ?_
    rintro e w4 ⟨N4, c4, F4, rfl, ho4, h41, h42, hB4⟩
    have HO4 := Lib.hid ho4
    have HC4 := Lib.hid (And.intro h41 h42)
    have HS4 : Hid (safeB (selR r (oneB r x) x (adoptR r)) = true) := sel_safe HLI.out HOK.out (fun k hk => (adopt_ok HS.out hk).safe)
    clear ho4 h41 h42
    go_wp2
    go_ret
    exact step_post hg3 HR3.out (by omega) hbw HO4.out HC4.out.1 HC4.out.2 hB4 HS4.out hq _ rfl
  · go_wp2_with fail
    refine (srcloser_any _ _ cap x y r w3 HO3.out.ring rfl (Nat.le_trans HLR.out HM.out)).mono ?_
    rintro e w4 ⟨N4, c4, F4, rfl, ho4, h41, h42, hB4⟩
    have HO4 := Lib.hid ho4
    have HC4 := Lib.hid (And.intro h41 h42)
    have HS4 : Hid (safeB (selR r (oneB r x && ptB y) x (fun k => closerR r k y)) = true) := sel_safe HLI.out (by rw [HOK.out, HPJ.out]; rfl) (fun k hk => (closer_ok HS.out hk).safe)
    clear ho4 h41 h42
    go_wp2
    go_ret
    exact step_post hg3 HR3.out (by omega) hbw HO4.out HC4.out.1 HC4.out.2 hB4 HS4.out hq _ rfl
  · go_wp2_with fail
    refine (srnot_any _ _ cap x y r w3 HO3.out.ring rfl (Nat.le_trans HLR.out HM.out)).mono ?_
    rintro e w4 ⟨N4, c4, F4, rfl, ho4, h41, h42, hB4⟩
    have HO4 := Lib.hid ho4
    have HC4 := Lib.hid (And.intro h41 h42)
    have HS4 : Hid (safeB (selR r (oneB r x && ptB y) x (fun k => notR r k y)) = true) := sel_safe HLI.out (by rw [HOK.out, HPJ.out]; rfl) (fun k hk => (not_ok HS.out hk).safe)
    clear ho4 h41 h42
    go_wp2
    go_ret
    exact step_post hg3 HR3.out (by omega) hbw HO4.out HC4.out.1 HC4.out.2 hB4 HS4.out hq _ rfl
  · go_wp2_with fail
    refine (srstab_any _ _ cap x r w3 HO3.out.ring rfl (Nat.le_trans HLR.out HM.out)).mono ?_
    rintro e w4 ⟨N4, c4, F4, rfl, ho4, h41, h42, hB4⟩
    have HO4 := Lib.hid ho4
    have HC4 := Lib.hid (And.intro h41 h42)
    have HS4 : Hid (safeB (selR r (oneB r x) x (stabR r)) = true) := sel_safe HLI.out HOK.out (fun k hk => (stab_ok HS.out hk).safe)
    clear ho4 h41 h42
    go_wp2
    go_ret
    exact step_post hg3 HR3.out (by omega) hbw HO4.out HC4.out.1 HC4.out.2 hB4 HS4.out hq _ rfl

end

/- Drawing safe rings. -/

section
open Go.RowKit
set_option linter.unusedVariables false


def RingLoop (q K : Nat) (w : World) (k : Nat) (v : Value) (wr : World) : Prop :=
  ∃ N cap F r, v = .slice (some ⟨N, 0, none⟩) r.length cap ∧ RingOwn wr w.heap.size wr.heap.size N r F ∧ r.length ≤ cap ∧ cap ≤ maxLen ∧ safeB r = true ∧ Ready wr q (K + (5 * (24 - k) + 1)) ∧ w.grownBy wr (some q)

set_option maxHeartbeats 2000000 in
theorem ring_any (q K : Nat) (w : World) (h : Ready w q (K + 132)) :
    Calls Try.prog 57 #[.pointer (some ⟨q, 0, none⟩)] w (DrewRing q K w.heap.size w) := by
  have hq := h.lt
  have HR := Lib.hid h
  clear h
  go_enter Try.func57, Try.ntmps57
  go_wp2_with fail
  refine (goodA_any q (K + 121) 3 w (HR.out.less (by omega)) (by omega) (by omega)).mono ?_
  rintro e w1 ⟨g, gc, zs, rfl, hown, hz3, hz10, hr1, hg1, hasc⟩
  have HI := Lib.hid hown.ints
  have HA := Lib.hid hasc
  have HR1 := Lib.hid hr1
  have hcl := hown.cap_le
  clear hown hasc hr1
  go_wp2_with fail
  refine (srnewO_any _ _ gc zs w1 HI.out rfl (by unfold maxLen; omega)).mono ?_
  rintro e w2 ⟨N, c2, F, rfl, ho, h1, h2, hB⟩
  have hnb : newB zs = true := by unfold newB; rw [asc_vld HA.out (by omega) hz10]; simp; omega
  have hnr : newR zs = idR zs := by rw [newR, hnb]; rfl
  have hg2 : w.grownBy w2 (some q) := grown_trans hg1 ⟨hB.os, hB.tape, hB.output, hB.size, fun k hk _ => hB.block k hk⟩
  have hsz := hg1.size
  have h0 : RingLoop q K w 0 (.slice (some ⟨N, 0, none⟩) (newR zs).length c2) w2 := by
    refine ⟨N, c2, F, newR zs, rfl, ho.wide hsz (Nat.le_refl _), h1, h2, ?_, (HR1.out.less (by omega)).below hB (by omega), hg2⟩
    rw [hnr]; exact (ideal_safe HA.out hz3 hz10).1
  have H0 := Lib.hid h0
  clear ho h1 h2 hnb hnr h0 hg2
  go_wp2
  go_loopw [3, 5] (fun v i wr => ∃ k : Nat, k ≤ 24 ∧ i = .int .i64 k ∧ RingLoop q K w k v wr) (fun _ i _ => 24 - (intOf i).toNat)
  case atStart => exact ⟨0, by omega, rfl, H0.out⟩
  case round =>
    obtain ⟨k, hk, rfl, N3, c3, F3, r, rfl, ho3, h31, h32, hs3, hr3, hg3⟩ := hrel
    have HO3 := Lib.hid ho3
    have HC := Lib.hid (And.intro h31 h32)
    have HS := Lib.hid hs3
    have HR3 := Lib.hid hr3
    clear ho3 h31 h32 hs3 hr3
    go_wp2_with fail
    refine (pick_r q (K + 5 * (24 - k)) 24 wr (HR3.out.less (by omega)) (by omega) (by omega)).mono ?_
    rintro e w4 ⟨v, hv0, hv1, rfl, hr4, hk4⟩
    have HO4 := Lib.hid (own_kept HO3.out hk4 hq)
    have HR4 := Lib.hid hr4
    have hg4 : w.grownBy w4 (some q) := grown_trans hg3 hk4.grown
    clear hr4
    by_cases hlt : (k : Int) < v
    · have d0 : decide ((k : Int) < v) = true := by simp; omega
      go_wp2_with fail
      refine (step_any q (K + (5 * (24 - (k + 1)) + 1)) w.heap.size N3 c3 F3 r w4 (HR4.out.less (by omega)) HO4.out hq HS.out HC.out.1 HC.out.2).mono ?_
      rintro e w5 ⟨N5, c5, F5, r5, rfl, ho5, h51, h52, hs5, hr5, hg5⟩
      have HX : Hid (RingLoop q K w (k + 1) (.slice (some ⟨N5, 0, none⟩) r5.length c5) w5) := ⟨N5, c5, F5, r5, rfl, ho5, h51, h52, hs5, hr5, grown_trans hg4 hg5⟩
      clear ho5 h51 h52 hs5 hr5 hg5
      go_wp2
      go_roundw
      case rel => exact ⟨k + 1, by omega, by go_num, HX.out⟩
      case measure => simp [intOf]; omega
    · have d0 : decide ((k : Int) < v) = false := by simp; omega
      go_wp2
      go_ret
      exact ⟨N3, c3, F3, r, rfl, HO4.out, HC.out.1, HC.out.2, HS.out, HR4.out.less (by omega), hg4⟩

end

/- Drawing rings that are often not safe. -/

section
open Go.RowKit
set_option linter.unusedVariables false


section
variable {w : World} {lo hi N k : Nat} {r : List Nd} {F : Nat → Nat}
theorem own_pos_set (h : RingOwn w lo hi N r F) (hk : k < r.length) (x : Int) : RingOwn (w.setCell ⟨N, k * 3, none⟩ (.int .i64 x)) lo hi N (r.set k ⟨x, (gn r k).bef, (gn r k).aft⟩) F := by
  obtain ⟨cs, hb, hc⟩ := h.row
  have hl : (r.set k ⟨x, (gn r k).bef, (gn r k).aft⟩).length = r.length := by simp
  refine ⟨⟨_, heap_set _ _ _ _ hb, fun i hi => ?_⟩, fun i hi => ?_, h.inN, fun i hi => h.inF i (by rw [hl] at hi; exact hi), fun i j hi hj => h.inj i j (by rw [hl] at hi; exact hi) (by rw [hl] at hj; exact hj)⟩
  · rw [hl] at hi
    rw [gn_set hi]
    by_cases e : i = k
    · subst e
      obtain ⟨c0, c1, c, c2, c3⟩ := hc i hi
      have z2 : i * 3 + 2 < cs.size := (Array.getElem?_eq_some_iff.1 c2).1
      rw [if_pos rfl]
      exact ⟨by rw [Array.getElem?_setIfInBounds_self_of_lt (by omega)], by rw [Array.getElem?_setIfInBounds_ne (by omega)]; exact c1, c, by rw [Array.getElem?_setIfInBounds_ne (by omega)]; exact c2, c3⟩
    · rw [if_neg e]; exact nd_keep (d := 0) (hc i hi) e (by omega)
  · rw [hl] at hi
    have := (h.inn i hi).kept (heap_set_ne w N (k * 3) (F i) (.int .i64 x) (h.inF i hi).2.2)
    rw [gn_set hi]; split
    · rename_i e; subst e; exact this
    · exact this
theorem own_bef_set (h : RingOwn w lo hi N r F) (hk : k < r.length) (x : Int) : RingOwn (w.setCell ⟨N, k * 3 + 1, none⟩ (.int .i64 x)) lo hi N (r.set k ⟨(gn r k).pos, x, (gn r k).aft⟩) F := by
  obtain ⟨cs, hb, hc⟩ := h.row
  have hl : (r.set k ⟨(gn r k).pos, x, (gn r k).aft⟩).length = r.length := by simp
  refine ⟨⟨_, heap_set _ _ _ _ hb, fun i hi => ?_⟩, fun i hi => ?_, h.inN, fun i hi => h.inF i (by rw [hl] at hi; exact hi), fun i j hi hj => h.inj i j (by rw [hl] at hi; exact hi) (by rw [hl] at hj; exact hj)⟩
  · rw [hl] at hi
    rw [gn_set hi]
    by_cases e : i = k
    · subst e
      obtain ⟨c0, c1, c, c2, c3⟩ := hc i hi
      have z2 : i * 3 + 2 < cs.size := (Array.getElem?_eq_some_iff.1 c2).1
      rw [if_pos rfl]
      exact ⟨by rw [Array.getElem?_setIfInBounds_ne (by omega)]; exact c0, by rw [Array.getElem?_setIfInBounds_self_of_lt (by omega)], c, by rw [Array.getElem?_setIfInBounds_ne (by omega)]; exact c2, c3⟩
    · rw [if_neg e]; exact nd_keep (hc i hi) e (by omega)
  · rw [hl] at hi
    have := (h.inn i hi).kept (heap_set_ne w N (k * 3 + 1) (F i) (.int .i64 x) (h.inF i hi).2.2)
    rw [gn_set hi]; split
    · rename_i e; subst e; exact this
    · exact this
theorem own_aft_cut (h : RingOwn w lo hi N r F) (hk : k < r.length) (m c : Nat) (hm : m ≤ (gn r k).aft.length) (hc1 : m ≤ c) (hc2 : c ≤ maxLen) : RingOwn (w.setCell ⟨N, k * 3 + 2, none⟩ (.slice (some ⟨F k, 0, none⟩) m c)) lo hi N (r.set k ⟨(gn r k).pos, (gn r k).bef, (gn r k).aft.take m⟩) F := by
  obtain ⟨cs, hb, hc⟩ := h.row
  have hl : (r.set k ⟨(gn r k).pos, (gn r k).bef, (gn r k).aft.take m⟩).length = r.length := by simp
  have hml : ((gn r k).aft.take m).length = m := by simp; omega
  refine ⟨⟨_, heap_set _ _ _ _ hb, fun i hi => ?_⟩, fun i hi => ?_, h.inN, fun i hi => h.inF i (by rw [hl] at hi; exact hi), fun i j hi hj => h.inj i j (by rw [hl] at hi; exact hi) (by rw [hl] at hj; exact hj)⟩
  · rw [hl] at hi
    rw [gn_set hi]
    by_cases e : i = k
    · subst e
      obtain ⟨c0, c1, c', c2, c3⟩ := hc i hi
      have z2 : i * 3 + 2 < cs.size := (Array.getElem?_eq_some_iff.1 c2).1
      rw [if_pos rfl]
      exact ⟨by rw [Array.getElem?_setIfInBounds_ne (by omega)]; exact c0, by rw [Array.getElem?_setIfInBounds_ne (by omega)]; exact c1, c, by rw [Array.getElem?_setIfInBounds_self_of_lt (by omega), hml], by rw [hml]; exact hc1, hc2⟩
    · rw [if_neg e]; exact nd_keep (hc i hi) e (by omega)
  · rw [hl] at hi
    have := (h.inn i hi).kept (heap_set_ne w N (k * 3 + 2) (F i) (.slice (some ⟨F k, 0, none⟩) m c) (h.inF i hi).2.2)
    rw [gn_set hi]; split
    · rename_i e; subst e
      obtain ⟨ds, hd, hdc⟩ := this
      refine ⟨ds, hd, fun j hj => ?_⟩
      rw [hml] at hj
      rw [hdc j (by omega)]
      have : gt ((gn r i).aft.take m) j = gt (gn r i).aft j := by simp [gt, hj]
      rw [this]
    · exact this
theorem own_inner (h : RingOwn w lo hi N r F) (hk : k < r.length) (p : Nat) (z : Int) (hp : p < (gn r k).aft.length) : RingOwn (w.setCell ⟨F k, p, none⟩ (.int .i64 z)) lo hi N (r.set k ⟨(gn r k).pos, (gn r k).bef, (gn r k).aft.set p z⟩) F := by
  obtain ⟨cs, hb, hc⟩ := h.row
  have hl : (r.set k ⟨(gn r k).pos, (gn r k).bef, (gn r k).aft.set p z⟩).length = r.length := by simp
  have hFk := h.inF k hk
  refine ⟨⟨cs, (heap_set_ne _ _ _ _ _ (Ne.symm hFk.2.2)).trans hb, fun i hi => ?_⟩, fun i hi => ?_, h.inN, fun i hi => h.inF i (by rw [hl] at hi; exact hi), fun i j hi hj => h.inj i j (by rw [hl] at hi; exact hi) (by rw [hl] at hj; exact hj)⟩
  · rw [hl] at hi
    rw [gn_set hi]
    by_cases e : i = k
    · subst e
      obtain ⟨c0, c1, c', c2, c3⟩ := hc i hi
      rw [if_pos rfl]
      exact ⟨c0, c1, c', by rw [List.length_set]; exact c2, by rw [List.length_set]; exact c3⟩
    · rw [if_neg e]; exact hc i hi
  · rw [hl] at hi
    rw [gn_set hi]
    by_cases e : i = k
    · subst e
      rw [if_pos rfl]
      obtain ⟨ds, hd, hdc⟩ := h.inn i hi
      refine ⟨_, heap_set _ _ _ _ hd, fun j hj => ?_⟩
      rw [List.length_set] at hj
      have hz : p < ds.size := (Array.getElem?_eq_some_iff.1 (hdc p hp)).1
      by_cases ej : j = p
      · subst ej
        rw [Array.getElem?_setIfInBounds_self_of_lt hz]
        rw [gt_get (by simpa using hj)]; simp
      · rw [Array.getElem?_setIfInBounds_ne (Ne.symm ej), hdc j hj]
        rw [gt_get hj, gt_get (by simpa using hj)]; simp [Ne.symm ej]
    · rw [if_neg e]
      exact (h.inn i hi).kept (heap_set_ne _ _ _ _ _ (fun e' => e (h.inj i k hi hk e')))
end
/-- what drawing a spoilt ring leaves -/
def Spoilt (q K : Nat) (w : World) (e : Ending) (w' : World) : Prop :=
  ∃ N cap F r, e = .returned (.slice (some ⟨N, 0, none⟩) r.length cap) ∧ RingOwn w' w.heap.size w'.heap.size N r F ∧ r.length ≤ cap ∧ cap ≤ maxLen ∧ r.length ≤ 10 ∧ Ready w' q K ∧ w.grownBy w' (some q)

end

/- Drawing rings that are often not safe: l91Spoilt. -/

section
open Go.RowKit
set_option linter.unusedVariables false


theorem sp_set {q K : Nat} {w w5 : World} (hg : w.grownBy w5 (some q)) (hr : Ready w5 q K) (hq : q < w.heap.size) {p : Addr} (hp : w.heap.size ≤ p.block) (u : Value) : w.grownBy (w5.setCell p u) (some q) ∧ Ready (w5.setCell p u) q K :=
  ⟨⟨hg.os, hg.tape, hg.output, by simpa [World.setCell] using hg.size, fun k hk hne => (Below.heap_setCell w5 p u k (by omega)).trans (hg.block k hk hne)⟩, hr.keep (fun i hi => Below.heap_setCell w5 p u i (by omega))⟩
theorem grown_drew (w : World) (q : Nat) : w.grownBy w.drew (some q) := ⟨rfl, rfl, rfl, Nat.le_refl _, fun _ _ _ => rfl⟩
theorem size_set (w : World) (p : Addr) (u : Value) : (w.setCell p u).heap.size = w.heap.size := by simp [World.setCell]
theorem sp_end {q K N cap : Nat} {w w6 : World} {F : Nat → Nat} {r : List Nd} (hg : w.grownBy w6 (some q)) (hr : Ready w6 q K) (ho : RingOwn w6 w.heap.size w6.heap.size N r F) (h1 : r.length ≤ cap) (h2 : cap ≤ maxLen) (h10 : r.length ≤ 10) : ∀ n, n = r.length → Spoilt q K w (.returned (.slice (some ⟨N, 0, none⟩) n cap)) w6 :=
  fun n hn => ⟨N, cap, F, r, by rw [hn], ho, h1, h2, h10, hr, hg⟩
theorem own_cells {w : World} {lo hi N : Nat} {r : List Nd} {F : Nat → Nat} (h : RingOwn w lo hi N r F) {k : Nat} (hk : k < r.length) : ∃ c, w.cell? ⟨N, k * 3, none⟩ = some (.int .i64 (gn r k).pos) ∧ w.cell? ⟨N, k * 3 + 1, none⟩ = some (.int .i64 (gn r k).bef) ∧ w.cell? ⟨N, k * 3 + 2, none⟩ = some (.slice (some ⟨F k, 0, none⟩) (gn r k).aft.length c) ∧ (gn r k).aft.length ≤ c ∧ c ≤ maxLen ∧ (∀ i, w.frozen? ⟨N, i, none⟩ = false) := by
  obtain ⟨cs, hb, hc⟩ := h.row
  obtain ⟨c0, c1, c, c2, c3, c4⟩ := hc k hk
  exact ⟨c, by rw [cell_of_cells hb]; exact c0, by rw [cell_of_cells hb]; exact c1, by rw [cell_of_cells hb]; exact c2, c3, c4, fun i => frozen_of_cells hb i⟩
theorem own_ints {w : World} {lo hi N : Nat} {r : List Nd} {F : Nat → Nat} (h : RingOwn w lo hi N r F) {k : Nat} (hk : k < r.length) : (∀ p, p < (gn r k).aft.length → w.cell? ⟨F k, p, none⟩ = some (.int .i64 (gt (gn r k).aft p))) ∧ ∀ i, w.frozen? ⟨F k, i, none⟩ = false := by
  obtain ⟨ds, hd, hdc⟩ := h.inn k hk
  exact ⟨fun p hp => by rw [cell_of_cells hd]; exact hdc p hp, fun i => frozen_of_cells hd i⟩
/-- a ring in blocks of its own as a list of nodes with their slices -/
theorem own_list {w : World} {lo hi N : Nat} {r : List Nd} {F : Nat → Nat} (h : RingOwn w lo hi N r F) : ∃ L : List (Nd × Value), L.map (·.1) = r ∧ (∀ j u, (flatL L)[j]? = some u → w.cell? ⟨N, j, none⟩ = some u) ∧ OwnL w lo L F := by
  obtain ⟨cs, hb, hc⟩ := h.row
  have hch : ∃ C : Nat → Nat, ∀ i, i < r.length → cs[i * 3 + 2]? = some (.slice (some ⟨F i, 0, none⟩) (gn r i).aft.length (C i)) ∧ (gn r i).aft.length ≤ C i ∧ C i ≤ maxLen := by
    classical
    refine ⟨fun i => if hi : i < r.length then Classical.choose (hc i hi).2.2 else 0, fun i hi => ?_⟩
    simp only [dif_pos hi]
    exact Classical.choose_spec (hc i hi).2.2
  obtain ⟨C, hC⟩ := hch
  let L : List (Nd × Value) := (List.range r.length).map fun i => (gn r i, .slice (some ⟨F i, 0, none⟩) (gn r i).aft.length (C i))
  have hL : ∀ i, i < r.length → L[i]? = some (gn r i, .slice (some ⟨F i, 0, none⟩) (gn r i).aft.length (C i)) := fun i hi => by simp [L, hi]
  have hLl : L.length = r.length := by simp [L]
  refine ⟨L, ?_, fun j u hu => ?_, fun i p hp => ?_, fun i j hi hj => h.inj i j (by omega) (by omega)⟩
  · refine List.ext_getElem (by simp [L]) fun i h1 h2 => ?_
    simp [L, gn_get h2]
  · have hj : j < L.length * 3 := by
      have := (List.getElem?_eq_some_iff.1 hu).1
      rw [flatL_len] at this; exact this
    have hi : j / 3 < r.length := by rw [← hLl]; omega
    obtain ⟨f0, f1, f2⟩ := flatL_at (hL _ hi)
    have hm : j = j / 3 * 3 ∨ j = j / 3 * 3 + 1 ∨ j = j / 3 * 3 + 2 := by omega
    obtain ⟨c0, c1, _⟩ := hc _ hi
    rw [cell_of_cells hb]
    rcases hm with e | e | e
    · rw [e] at hu ⊢; rw [f0] at hu; rw [← hu]; exact c0
    · rw [e] at hu ⊢; rw [f1] at hu; rw [← hu]; exact c1
    · rw [e] at hu ⊢; rw [f2] at hu; rw [← hu]; exact (hC _ hi).1
  · have hi : i < r.length := by have := (List.getElem?_eq_some_iff.1 hp).1; omega
    rw [hL i hi] at hp
    injection hp with hp
    subst hp
    exact ⟨⟨C i, rfl, (hC i hi).2⟩, h.inn i hi, (h.inF i hi).1⟩
theorem OwnL.off {w : World} {lo g : Nat} {L : List (Nd × Value)} {F : Nat → Nat} (h : OwnL w lo L F) (hg : ∀ i, i < L.length → F i ≠ g) : ∀ p ∈ L, IntsOff w g p.2 p.1.aft := by
  intro p hp
  obtain ⟨i, hi, e⟩ := List.getElem_of_mem hp
  obtain ⟨⟨c, hv, h1, h2⟩, ⟨ds, hd, hdc⟩, _⟩ := h.1 i p (by rw [List.getElem?_eq_getElem hi, e])
  exact ⟨_, c, hv, h1, h2, .inr ⟨F i, 0, rfl, hg i hi, heap_lt hd, fun j hj => by rw [Nat.zero_add, cell_of_cells hd]; exact hdc j hj⟩⟩
theorem ownL_cut {w : World} {lo k : Nat} {L : List (Nd × Value)} {F : Nat → Nat} (h : OwnL w lo L F) (hk : k < L.length) : OwnL w lo (L.take k ++ L.drop (k + 1)) (fun i => if i < k then F i else F (i + 1)) := by
  have hl : (L.take k).length = k := by simp; omega
  refine ⟨fun i p hp => ?_, fun i j hi hj he => ?_⟩
  · by_cases e : i < k
    · simp only [if_pos e]
      rw [List.getElem?_append_left (by omega), List.getElem?_take, if_pos e] at hp
      exact h.1 i p hp
    · simp only [if_neg e]
      rw [List.getElem?_append_right (by omega), List.getElem?_drop, hl, show k + 1 + (i - k) = i + 1 by omega] at hp
      exact h.1 (i + 1) p hp
  · simp at hi hj
    by_cases e1 : i < k
    · by_cases e2 : j < k
      · simp only [if_pos e1, if_pos e2] at he; exact h.2 i j (by omega) (by omega) he
      · simp only [if_pos e1, if_neg e2] at he; have := h.2 i (j + 1) (by omega) (by omega) he; omega
    · by_cases e2 : j < k
      · simp only [if_neg e1, if_pos e2] at he; have := h.2 (i + 1) j (by omega) (by omega) he; omega
      · simp only [if_neg e1, if_neg e2] at he; have := h.2 (i + 1) (j + 1) (by omega) (by omega) he; omega

set_option maxHeartbeats 4000000 in
theorem spoilt_any (q K : Nat) (w : World) (h : Ready w q (K + 140)) :
    Calls Try.prog 35 #[.pointer (some ⟨q, 0, none⟩)] w (Spoilt q K w) := by
  have hq := h.lt
  have HR := Lib.hid h
  clear h
  go_enter Try.func35, Try.ntmps35
  go_wp2_with fail
  refine (ring_any q (K + 8) w HR.out).mono ?_
  rintro e w1 ⟨N1, c1, F1, r, rfl, ho1, h11, h12, hs1, hr1, hg1⟩
  have HO1 := Lib.hid ho1
  have HS := Lib.hid hs1
  have HV := Lib.hid (safe_rv hs1)
  have HR1 := Lib.hid hr1
  have h3 := safe_three hs1
  have h10 := rv_len HV.out
  clear ho1 h11 h12 hs1 hr1
  go_wp2_with fail
  refine (copy_any _ _ c1 r w1 HO1.out.ring rfl HV.out).mono ?_
  rintro e w2 ⟨N, cap, F, rfl, ho2, h21, h22, hB2⟩
  have hz1 := hg1.size
  have HO2 := Lib.hid (ho2.wide hz1 (Nat.le_refl _))
  have HC := Lib.hid (And.intro h21 h22)
  have HR2 := Lib.hid (HR1.out.below hB2 (by omega))
  have hg2 : w.grownBy w2 (some q) := grown_trans hg1 ⟨hB2.os, hB2.tape, hB2.output, hB2.size, fun k hk _ => hB2.block k hk⟩
  have hN := ho2.inN.1
  clear ho2 h21 h22
  go_wp2_with fail
  refine (pick_r q (K + 7) 3 w2 HR2.out (by omega) (by omega)).mono ?_
  rintro e w3 ⟨v3, hv30, hv31, rfl, hr3, hk3⟩
  have HO3 := Lib.hid (own_kept HO2.out hk3 hq)
  have HR3 := Lib.hid hr3
  have hg3 : w.grownBy w3 (some q) := grown_trans hg2 hk3.grown
  clear hr3
  by_cases hv3 : 0 < v3
  · have d0 : decide (0 < v3) = true := by simp; omega
    go_wp2
    go_ret
    exact sp_end hg3 (HR3.out.less (by omega)) HO3.out HC.out.1 HC.out.2 h10 _ rfl
  have d0 : decide (0 < v3) = false := by simp; omega
  go_wp2_with fail
  clear d0
  refine (pick_r q (K + 6) _ w3 HR3.out (by omega) (by omega)).mono ?_
  rintro e w4 ⟨v4, hv40, hv41, rfl, hr4, hk4⟩
  obtain ⟨k, rfl⟩ := Int.eq_ofNat_of_zero_le hv40
  have hk : k < r.length := by omega
  have HO4 := Lib.hid (own_kept HO3.out hk4 hq)
  have HR4 := Lib.hid hr4
  have hg4 : w.grownBy w4 (some q) := grown_trans hg3 hk4.grown
  clear hr4
  go_wp2_with fail
  refine (pick_r q (K + 5) 7 w4 HR4.out (by omega) (by omega)).mono ?_
  rintro e w5 ⟨v5, hv50, hv51, rfl, hr5, hk5⟩
  have HO5 := Lib.hid (own_kept HO4.out hk5 hq)
  have HR5 := Lib.hid hr5
  have hg5 : w.grownBy w5 (some q) := grown_trans hg4 hk5.grown
  have hNw : w.heap.size ≤ N := by omega
  have hl2 : (gn r k).aft.length = 2 := by rw [(nd_open HV.out hk).2.2.2.2]; rfl
  have hFk := HO5.out.inF k hk
  clear hr5
  have hcase : v5 = 0 ∨ v5 = 1 ∨ v5 = 2 ∨ v5 = 3 ∨ v5 = 4 ∨ v5 = 5 ∨ v5 = 6 := by omega
  have q0 : (0 : Int) ≤ (k : Int) := by omega
  have q1 : (k : Int) < (r.length : Int) := by omega
  clear hv50 hv51 hv40 hv41 hv30 hv31 hv3
  rcases hcase with rfl | rfl | rfl | rfl | rfl | rfl | rfl
  · go_wp2_with fail
    refine (pick_r q (K + 4) 66 w5 HR5.out (by omega) (by omega)).mono ?_
    rintro e w6 ⟨v6, hv60, hv61, rfl, hr6, hk6⟩
    have HO6 := Lib.hid (own_kept HO5.out hk6 hq)
    have HR6 := Lib.hid hr6
    have hg6 : w.grownBy w6 (some q) := grown_trans hg5 hk6.grown
    clear hr6
    obtain ⟨c, e0, e1, e2, _, _, ef⟩ := own_cells HO6.out hk
    go_wp2
    go_ret
    obtain ⟨hg7, hr7⟩ := sp_set hg6 (HR6.out.less (show K ≤ _ by omega)) hq (p := ⟨N, k * 3 + 1, none⟩) hNw (.int .i64 (v6 - 1))
    exact sp_end hg7 hr7 (by rw [size_set]; exact own_bef_set HO6.out hk _) (by rw [List.length_set]; exact HC.out.1) HC.out.2 (by rw [List.length_set]; exact h10) _ (by simp)
  · obtain ⟨c, e0, e1, e2, hc1, hc2, ef⟩ := own_cells HO5.out hk
    rw [hl2] at e2 hc1
    obtain ⟨wo, rfl⟩ : ∃ x, x = w5 := ⟨_, rfl⟩
    go_wp2_with fail
    go_region_held3 (fun w' => w'.cell? ⟨N, k * 3 + 2, none⟩ = some (.slice (some ⟨F k, 0, none⟩) 2 c))
      (first | exact hS8 | exact hS6 | exact e2 | exact ((kept_cell w8 (F k) p6 (.int .i64 v8)).cell (p := ⟨N, k * 3 + 2, none⟩) (by show N ≠ F k; omega)).trans hS8)
      (first | (go_at_call 58; refine (pick_r q (K + 4) 2 wo.drew (HR5.out.keep (fun _ _ => rfl)) (by omega) (by omega)).mono ?_; rintro e w6 ⟨v6, hv60, hv61, rfl, hr6, hk6⟩; have hO6 := own_kept (w := wo.drew) (HO5.out.kept (fun _ _ _ => rfl)) hk6 hq; obtain ⟨c', _, _, hS6', _⟩ := own_cells hO6 hk; have hS6 : w6.cell? ⟨N, k * 3 + 2, none⟩ = some (.slice (some ⟨F k, 0, none⟩) 2 c) := (hk6.cell (p := ⟨N, k * 3 + 2, none⟩) (by show N ≠ q; omega)).trans e2; clear hS6') | (go_at_call 59; refine (point_r q (K + 2) w6 (hr6.less (by omega))).mono ?_; rintro e w8 ⟨v8, hv80, hv81, rfl, hr8, hk8⟩; have hS8 : w8.cell? ⟨N, k * 3 + 2, none⟩ = some (.slice (some ⟨F k, 0, none⟩) 2 c) := (hk8.cell (p := ⟨N, k * 3 + 2, none⟩) (by show N ≠ q; omega)).trans hS6; obtain ⟨p6, rfl⟩ := Int.eq_ofNat_of_zero_le hv60; have hO8 := own_kept hO6 hk8 hq; obtain ⟨hi8, hf8⟩ := own_ints hO8 hk; have hcp := hi8 p6 (by omega); have hfp := hf8 p6; have hp2 : (p6 : Int) < 2 := (by omega); have hp0 : (0 : Int) ≤ (p6 : Int) := (by omega)))
    have HO8 := Lib.hid hO8
    have HR8 := Lib.hid hr8
    have hg8 : w.grownBy w8 (some q) := grown_trans hg5 (grown_trans (grown_trans (grown_drew _ _) hk6.grown) hk8.grown)
    clear hO8 hr8 hi8 hf8 hcp hfp hO6 hr6
    go_wp2
    go_ret
    obtain ⟨hg7, hr7⟩ := sp_set hg8 (HR8.out.less (show K ≤ _ by omega)) hq (p := ⟨F k, p6, none⟩) hFk.1 (.int .i64 v8)
    exact sp_end hg7 hr7 (by rw [size_set]; exact own_inner HO8.out hk p6 v8 (by omega)) (by rw [List.length_set]; exact HC.out.1) HC.out.2 (by rw [List.length_set]; exact h10) _ (by simp)
  · go_wp2_with fail
    refine (point_r q (K + 3) w5 HR5.out).mono ?_
    rintro e w6 ⟨v6, hv60, hv61, rfl, hr6, hk6⟩
    have HO6 := Lib.hid (own_kept HO5.out hk6 hq)
    have HR6 := Lib.hid hr6
    have hg6 : w.grownBy w6 (some q) := grown_trans hg5 hk6.grown
    clear hr6
    obtain ⟨c, e0, e1, e2, _, _, ef⟩ := own_cells HO6.out hk
    go_wp2
    go_ret
    obtain ⟨hg7, hr7⟩ := sp_set hg6 (HR6.out.less (show K ≤ _ by omega)) hq (p := ⟨N, k * 3, none⟩) hNw (.int .i64 v6)
    exact sp_end hg7 hr7 (by rw [size_set]; exact own_pos_set HO6.out hk _) (by rw [List.length_set]; exact HC.out.1) HC.out.2 (by rw [List.length_set]; exact h10) _ (by simp)
  · obtain ⟨c, e0, e1, e2, hc1, hc2, ef⟩ := own_cells HO5.out hk
    rw [hl2] at e2 hc1
    obtain ⟨wo, rfl⟩ : ∃ x, x = w5 := ⟨_, rfl⟩
    go_wp2_with fail
    go_region_with ((go_at_call 58; refine (pick_r q (K + 4) 2 wo.drew (HR5.out.keep (fun _ _ => rfl)) (by omega) (by omega)).mono ?_; rintro e w6 ⟨v6, hv60, hv61, rfl, hr6, hk6⟩; have hO6 := own_kept (w := wo.drew) (HO5.out.kept (fun _ _ _ => rfl)) hk6 hq; have hS6 : w6.cell? ⟨N, k * 3 + 2, none⟩ = some (.slice (some ⟨F k, 0, none⟩) 2 c) := (hk6.cell (p := ⟨N, k * 3 + 2, none⟩) (by show N ≠ q; omega)).trans e2; obtain ⟨p6, rfl⟩ := Int.eq_ofNat_of_zero_le hv60; obtain ⟨c', f0, f1, f2, _, _, ff⟩ := own_cells hO6 hk; have hp2 : (p6 : Int) ≤ (c : Int) := (by omega); have hp0 : (0 : Int) ≤ (p6 : Int) := (by omega); have hp3 : p6 ≤ c := (by omega); have hfz := ff (k * 3 + 2); clear f0 f1 f2 ff))
    all_goals
      have HO6 := Lib.hid hO6
      have HR6 := Lib.hid hr6
      have hg6 : w.grownBy w6 (some q) := grown_trans hg5 (grown_trans (grown_drew _ _) hk6.grown)
      clear hO6 hr6 hfz
      go_wp2
      go_ret
      obtain ⟨hg7, hr7⟩ := sp_set hg6 (HR6.out.less (show K ≤ _ by omega)) hq (p := ⟨N, k * 3 + 2, none⟩) hNw (.slice (some ⟨F k, 0, none⟩) p6 c)
      exact sp_end hg7 hr7 (by rw [size_set]; exact own_aft_cut HO6.out hk p6 c (by omega) (by omega) hc2) (by rw [List.length_set]; exact HC.out.1) HC.out.2 (by rw [List.length_set]; exact h10) _ (by simp)
  · obtain ⟨wo, rfl⟩ : ∃ x, x = w5 := ⟨_, rfl⟩
    obtain ⟨L, hLm, hLc, hLo⟩ := own_list HO5.out
    have hLl : L.length = r.length := by have := congrArg List.length hLm; simpa using this
    have hNlt := HO5.out.inN.2
    have HFL : Hid (∀ i, i < L.length → F i < wo.heap.size) := fun i hi => (HO5.out.inF i (by omega)).2.1
    have HLI : Hid (∀ p ∈ L, IntsOff wo wo.heap.size p.2 p.1.aft) := hLo.off (fun i hi => by have := HFL.out i hi; omega)
    have HLM := Lib.hid hLm
    have HLC := Lib.hid hLc
    have HLL := Lib.hid hLl
    have HOL := Lib.hid hLo
    have hwz : w.heap.size ≤ wo.heap.size := hg5.size
    clear hLm hLc hLl hLo
    have hcap := HC.out.1
    have hcapm := HC.out.2
    unfold maxLen at hcapm
    have g1 : (k : Int) ≤ (r.length : Int) := by omega
    have g2 : (k : Int) ≤ (cap : Int) := by omega
    have g3 : (k : Int) + 1 ≤ (r.length : Int) := by omega
    have g4 : (k : Int) + 1 ≤ (cap : Int) := by omega
    have g5 : (0 : Int) ≤ (k : Int) + 1 := by omega
    have x0 : IntKind.i64.wrap ((k : Int) + 1) = k + 1 := by rw [IntKind.wrap_i64]; omega
    have HBA : Hid (∀ o, Below wo.heap.size wo (wo.alloc o).drew) := fun o => ((Below.refl _ _).alloc (Nat.le_refl _) _).drew
    by_cases hck : cap = k + 1
    · have hlk : r.length = k + 1 := by omega
      have HLK := Lib.hid hlk
      have HCK := Lib.hid hck
      have g9 : (k : Int) ≤ (k : Int) + 1 := by omega
      go_wp2_with fail
      go_region_law ((first | (refine step_appN (o := ⟨some 67, _, _, _, _, _⟩) _ (by rfl) (.tmp 63) (.tmp 66) (by rfl) wo.heap.size wo.heap.size 0 0 [] (L.take k) (by rfl) (rowL_new wo _ rfl) rfl ⟨N, 0, none⟩ k _ (by rfl) (by rw [List.length_take, HLL.out]; omega) (fun j u hu => by rw [add_plain, Nat.zero_add]; exact ((HBA.out _).cell (p := ⟨N, j, none⟩) hNlt).trans (HLC.out j u (flat_take hu))) (fun p hp => (HLI.out p (List.mem_of_mem_take hp)).keepB (HBA.out _) (Nat.le_refl _)) k (by omega) (by omega) (by simp) ?_; intro g3 cap3 w3' hown3 hg3' hat3; have hB3 : Below wo.heap.size wo w3' := (HBA.out _).grown hg3' (by simp) (fun q hq => by injection hq with hq; omega); have hg31 := hown3.blk.1) | (refine step_appN (o := ⟨some 72, _, _, _, _, _⟩) _ (by rfl) (.tmp 67) (.tmp 71) (by rfl) wo.heap.size g3 k cap3 ([] ++ L.take k) [] (by rfl) hown3 (by rw [List.nil_append, List.length_take, HLL.out]; omega) ⟨N, 0, none⟩ 0 0 (by rfl) rfl (fun j u hu => by simp [flatL] at hu) (fun p hp => by cases hp) k (by omega) (by omega) hB3.size ?_; intro g7 cap7 w7 hown7 hg7' hat7; have hB7 : Below wo.heap.size wo w7 := hB3.grown hg7' hB3.size (fun q hq => by injection hq with hq; omega))))
      have hown7' : RowL w7 wo.heap.size g7 cap7 (L.take k ++ L.drop (k + 1)) := by simpa [List.drop_eq_nil_of_le (show L.length ≤ k + 1 by rw [HLL.out]; omega)] using hown7
      have hol : OwnL w7 w.heap.size L F := HOL.out.kept (fun i hi => hB7.block _ (HFL.out i hi))
      have hfin := own_of_row hown7' (ownL_cut hol (by rw [HLL.out]; exact hk)) (r := cutR r k) (by rw [List.map_append, List.map_take, List.map_drop, HLM.out]; rfl) (by have := hown7'.blk.1; omega)
      have hlen7 := hown7'.blk
      have HFIN := Lib.hid hfin
      have HLEN : Hid ((cutR r k).length ≤ cap7 ∧ cap7 ≤ maxLen) := by
        obtain ⟨_, _, _, _, h1, h2, _⟩ := hlen7
        have e : (L.take k ++ L.drop (k + 1)).length = (cutR r k).length := by rw [cut_len hk, List.length_append, List.length_take, List.length_drop, HLL.out]; omega
        exact ⟨by rw [← e]; exact h1, h2⟩
      have hg7 : w.grownBy w7 (some q) := grown_trans hg5 ⟨hB7.os, hB7.tape, hB7.output, hB7.size, fun k hk _ => hB7.block k hk⟩
      have HR7 := Lib.hid ((HR5.out.less (show K ≤ _ by omega)).below hB7 (by omega))
      clear hown7 hown7' hol hfin hlen7 hg7' hat7 hown3 hg3' hat3
      go_wp2
      go_ret
      exact sp_end hg7 HR7.out HFIN.out HLEN.out.1 HLEN.out.2 (by rw [cut_len hk]; omega) _ (by rw [cut_len hk]; omega)
    · have g6 : ¬ cap = k + 1 := hck
      have g7 : k + 1 ≤ r.length := by omega
      have g8 : k + 1 ≤ cap := by omega
      go_wp2_with fail
      go_region_law ((first | (refine step_appN (o := ⟨some 67, _, _, _, _, _⟩) _ (by rfl) (.tmp 63) (.tmp 66) (by rfl) wo.heap.size wo.heap.size 0 0 [] (L.take k) (by rfl) (rowL_new wo _ rfl) rfl ⟨N, 0, none⟩ k cap (by rfl) (by rw [List.length_take, HLL.out]; omega) (fun j u hu => by rw [add_plain, Nat.zero_add]; exact ((HBA.out _).cell (p := ⟨N, j, none⟩) hNlt).trans (HLC.out j u (flat_take hu))) (fun p hp => (HLI.out p (List.mem_of_mem_take hp)).keepB (HBA.out _) (Nat.le_refl _)) k (by omega) (by omega) (by simp) ?_; intro g3 cap3 w3' hown3 hg3' hat3; have hB3 : Below wo.heap.size wo w3' := (HBA.out _).grown hg3' (by simp) (fun q hq => by injection hq with hq; omega); have hg31 := hown3.blk.1) | (refine step_appN (o := ⟨some 72, _, _, _, _, _⟩) _ (by rfl) (.tmp 67) (.tmp 71) (by rfl) wo.heap.size g3 k cap3 ([] ++ L.take k) (L.drop (k + 1)) (by rfl) hown3 (by rw [List.nil_append, List.length_take, HLL.out]; omega) ⟨N, (k + 1) * 3, none⟩ (r.length - (k + 1)) (cap - (k + 1)) (by rfl) (by rw [List.length_drop, HLL.out]) (fun j u hu => by rw [add_plain]; exact (hB3.cell (p := ⟨N, (k + 1) * 3 + j, none⟩) hNlt).trans (HLC.out _ u (flat_drop (by rw [HLL.out]; omega) hu))) (fun p hp => (((HLI.out p (List.mem_of_mem_drop hp)).toV).offNew hg31).keepB hB3 (Nat.le_refl _)) (r.length - 1) (by omega) (by omega) hB3.size ?_; intro g7 cap7 w7 hown7 hg7' hat7; have hB7 : Below wo.heap.size wo w7 := hB3.grown hg7' hB3.size (fun q hq => by injection hq with hq; omega))))
      have hown7' : RowL w7 wo.heap.size g7 cap7 (L.take k ++ L.drop (k + 1)) := by simpa using hown7
      have hol : OwnL w7 w.heap.size L F := HOL.out.kept (fun i hi => hB7.block _ (HFL.out i hi))
      have hfin := own_of_row hown7' (ownL_cut hol (by rw [HLL.out]; exact hk)) (r := cutR r k) (by rw [List.map_append, List.map_take, List.map_drop, HLM.out]; rfl) (by have := hown7'.blk.1; omega)
      have hlen7 := hown7'.blk
      have HFIN := Lib.hid hfin
      have HLEN : Hid ((cutR r k).length ≤ cap7 ∧ cap7 ≤ maxLen) := by
        obtain ⟨_, _, _, _, h1, h2, _⟩ := hlen7
        have e : (L.take k ++ L.drop (k + 1)).length = (cutR r k).length := by rw [cut_len hk, List.length_append, List.length_take, List.length_drop, HLL.out]; omega
        exact ⟨by rw [← e]; exact h1, h2⟩
      have hg7 : w.grownBy w7 (some q) := grown_trans hg5 ⟨hB7.os, hB7.tape, hB7.output, hB7.size, fun k hk _ => hB7.block k hk⟩
      have HR7 := Lib.hid ((HR5.out.less (show K ≤ _ by omega)).below hB7 (by omega))
      clear hown7 hown7' hol hfin hlen7 hg7' hat7 hown3 hg3' hat3
      go_wp2
      go_ret
      exact sp_end hg7 HR7.out HFIN.out HLEN.out.1 HLEN.out.2 (by rw [cut_len hk]; omega) _ (by rw [cut_len hk])
  · obtain ⟨c, e0, e1, e2, hc1, hc2, ef⟩ := own_cells HO5.out hk
    rw [hl2] at e2 hc1
    obtain ⟨wo, rfl⟩ : ∃ x, x = w5 := ⟨_, rfl⟩
    go_wp2_with fail
    go_region_with ((go_at_call 58; refine (pick_r q (K + 4) _ wo.drew (HR5.out.keep (fun _ _ => rfl)) (by omega) (by omega)).mono ?_; rintro e w6 ⟨v6, hv60, hv61, rfl, hr6, hk6⟩; have hO6 := own_kept (w := wo.drew) (HO5.out.kept (fun _ _ _ => rfl)) hk6 hq; have hS6 : w6.cell? ⟨N, k * 3 + 2, none⟩ = some (.slice (some ⟨F k, 0, none⟩) 2 c) := (hk6.cell (p := ⟨N, k * 3 + 2, none⟩) (by show N ≠ q; omega)).trans e2; obtain ⟨j, rfl⟩ := Int.eq_ofNat_of_zero_le hv60; have hj : j < r.length := (by omega); have hcj := own_pos hO6 hj; obtain ⟨hi6, hf6⟩ := own_ints hO6 hk; have hcp := hi6 0 (by omega); have hfp := hf6 0; have g0 : (0 : Int) ≤ (j : Int) := (by omega); have g1 : (j : Int) < (r.length : Int) := (by omega)))
    all_goals
      have HO6 := Lib.hid hO6
      have HR6 := Lib.hid hr6
      have hg6 : w.grownBy w6 (some q) := grown_trans hg5 (grown_trans (grown_drew _ _) hk6.grown)
      clear hO6 hr6 hi6 hf6 hcp hfp
      go_wp2
      go_ret
      obtain ⟨hg7, hr7⟩ := sp_set hg6 (HR6.out.less (show K ≤ _ by omega)) hq (p := ⟨F k, 0, none⟩) hFk.1 (.int .i64 (gn r j).pos)
      exact sp_end hg7 hr7 (by rw [size_set]; exact own_inner HO6.out hk 0 _ (by omega)) (by rw [List.length_set]; exact HC.out.1) HC.out.2 (by rw [List.length_set]; exact h10) _ (by simp)
  · go_wp2_with fail
    refine (pick_r q (K + 4) _ w5 HR5.out (by omega) (by omega)).mono ?_
    rintro e w6 ⟨v6, hv60, hv61, rfl, hr6, hk6⟩
    have HO6 := Lib.hid (own_kept HO5.out hk6 hq)
    have HR6 := Lib.hid hr6
    have hg6 : w.grownBy w6 (some q) := grown_trans hg5 hk6.grown
    clear hr6
    obtain ⟨c, e0, e1, e2, _, _, ef⟩ := own_cells HO6.out hk
    obtain ⟨j, rfl⟩ := Int.eq_ofNat_of_zero_le hv60
    have hj : j < r.length := by omega
    obtain ⟨cj, f0, _⟩ := own_cells HO6.out hj
    have g0 : (0 : Int) ≤ (j : Int) := by omega
    have g1 : (j : Int) < (r.length : Int) := by omega
    go_wp2
    go_ret
    obtain ⟨hg7, hr7⟩ := sp_set hg6 (HR6.out.less (show K ≤ _ by omega)) hq (p := ⟨N, k * 3 + 1, none⟩) hNw (.int .i64 (gn r j).pos)
    exact sp_end hg7 hr7 (by rw [size_set]; exact own_bef_set HO6.out hk _) (by rw [List.length_set]; exact HC.out.1) HC.out.2 (by rw [List.length_set]; exact h10) _ (by simp)

end

end Go.Proofs.Ytcbbdhmloniolaa
