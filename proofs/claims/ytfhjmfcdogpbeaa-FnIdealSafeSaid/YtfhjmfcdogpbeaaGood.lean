/- Drawing sets of nodes. -/
import Derived.Test.YtfhjmfcdogpbeaaOwn
import Derived.Deep.DrawnRows
namespace Go.Proofs.Ytfhjmfcdogpbeaa
open Go.RowKit
set_option linter.unusedVariables false
attribute [local go_sem ↓] Go.wp_at_zero Go.wp_at_succ

/-- append onto a row of the call's own, as one step of a region that draws its order -/
theorem step_app {ops : Array Oper} {o : Oper} {a : Act} {K : Act → World → Prop} {Q : Exit → Act → World → Prop} {E : Prop} (W : World) (hgd : o.guard = none) (s x : Operand)
    (ho : o.op = .call { callee := .builtin .append, args := #[s, x], argTypes := #[25, 25] })
    (base g n cap : Nat) (xs : List Value) (hs : a.eval s = .slice (some ⟨g, 0, none⟩) n cap) (hown : W.ownsRow base 3 1 (.slice (some ⟨g, 0, none⟩) n cap) n xs)
    (ad : Addr) (m c : Nat) (news : List Value) (hx : a.eval x = .slice (some ad) m c) (hl : news.length = m) (hnews : ∀ j u, news[j]? = some u → W.cell? (ad.add j) = some u)
    (h1 : ∀ u ∈ news, u.oneCell' = true) (r : Nat) (ys : List Value) (hr : n + m = r) (hys : xs ++ news = ys) (hb : r ≤ 1000000) (hbase : base ≤ W.heap.size)
    (h : ∀ g' cap' w', w'.ownsRow base 3 1 (.slice (some ⟨g', 0, none⟩) r cap') r ys → W.grownBy w' (some g) → (g' = g ∨ g' = W.heap.size) → K (a.put o.dst (.slice (some ⟨g', 0, none⟩) r cap')) w') :
    if Region.wanted o (yielded ops a.tmps) = true then Oper.wp Try.prog o a W K Q else E := by
  have hw : Region.wanted o (yielded ops a.tmps) = true := by simp [Region.wanted, hgd]
  rw [if_pos hw]
  subst hr hys
  obtain ⟨i0, hi0, hz0, hz1, hz2⟩ := info_parts Try.infoI
  obtain ⟨v', w', hrun, ho1, hg1, hnone, hat⟩ := run_append_own_at (P := Try.prog) W base 25 o.type 3 i0 _ 1 8 Try.underlying25 hi0 hz0 hz1 hz2 rfl (by omega) _ n xs hown ad m c news (by omega) hnews h1 (by unfold maxLen; omega) (by omega) hbase
  have hv : ∃ g' cap', v' = .slice (some ⟨g', 0, none⟩) (n + m) cap' := by
    rcases ho1.2 with ⟨hn, _⟩ | ⟨g', cap', _, hv, _⟩
    · have := (hnone.1 hn).1; cases this
    · exact ⟨g', cap', hv⟩
  obtain ⟨g', cap', rfl⟩ := hv
  have hat' : g' = g ∨ g' = W.heap.size := by simpa [Value.ownBlock] using hat
  unfold Oper.wp execOp
  simp only [ho, resolve, invoke, builtin, Sem.run_bind, Sem.run_pure, Result.andThen_ok, List.map_toArray, List.map_cons, List.map_nil, hs, hx, hrun]
  exact h g' cap' w' ho1 hg1 hat'

theorem heap_first (w : World) (a b : Obj) : ((w.alloc a).alloc b).heap[w.heap.size]? = some a := (Below.heap_alloc (w.alloc a) b w.heap.size (by simp)).trans (heap_alloc_new w a)
theorem heap_second (w : World) (a b : Obj) : ((w.alloc a).alloc b).heap[w.heap.size + 1]? = some b := by
  have h := heap_alloc_new (w.alloc a) b
  simpa using h
theorem own_empty {W : World} {base N : Nat} (h : W.heap[N]? = some (.cells #[] 3 (0, 0))) (hb : base ≤ N) : W.ownsRow base 3 1 (.slice (some ⟨N, 0, none⟩) 0 0) 0 [] :=
  ⟨by simp, .inr ⟨N, 0, #[], rfl, hb, h, Nat.zero_le _, by unfold maxLen; omega, rfl, by simp⟩⟩
theorem add_plain (g o j : Nat) : (⟨g, o, none⟩ : Addr).add j = ⟨g, o + j, none⟩ := by unfold Addr.add; split <;> simp_all
theorem src_take {w W : World} {base g cap k : Nat} {zs : List Int} (h : OwnI w base (some ⟨g, 0, none⟩) cap zs) (hB : Below w.heap.size w W) :
    ∀ j u, (vals (zs.take k))[j]? = some u → W.cell? ((⟨g, 0, none⟩ : Addr).add j) = some u := by
  intro j u hu
  have hj : j < (zs.take k).length := by
    rcases Nat.lt_or_ge j (zs.take k).length with h' | h'
    · exact h'
    · rw [List.getElem?_eq_none (by rw [vals_len]; exact h')] at hu; cases hu
  have hj' : j < zs.length := by simp at hj; omega
  obtain ⟨g', ha, _, hlt, hc, _⟩ := h.at_ (by omega)
  injection ha with ha; injection ha with ha; subst ha
  rw [vals_get hj] at hu
  rw [add_plain, Nat.zero_add, hB.cell (p := ⟨g, j, none⟩) hlt, hc j hj', ← hu]
  simp [gt_get hj, gt_get hj']
theorem src_drop {w W : World} {base g cap k : Nat} {zs : List Int} (h : OwnI w base (some ⟨g, 0, none⟩) cap zs) (hB : Below w.heap.size w W) :
    ∀ j u, (vals (zs.drop k))[j]? = some u → W.cell? ((⟨g, k, none⟩ : Addr).add j) = some u := by
  intro j u hu
  have hj : j < (zs.drop k).length := by
    rcases Nat.lt_or_ge j (zs.drop k).length with h' | h'
    · exact h'
    · rw [List.getElem?_eq_none (by rw [vals_len]; exact h')] at hu; cases hu
  have hj' : k + j < zs.length := by simp at hj; omega
  obtain ⟨g', ha, _, hlt, hc, _⟩ := h.at_ (by omega)
  injection ha with ha; injection ha with ha; subst ha
  rw [vals_get hj] at hu
  rw [add_plain, hB.cell (p := ⟨g, k + j, none⟩) hlt, hc (k + j) hj', ← hu]
  simp [gt_get hj, gt_get hj']
theorem src_none (W : World) (ad : Addr) : ∀ j u, (vals [])[j]? = some u → W.cell? (ad.add j) = some u := by
  intro j u hu; simp [vals] at hu
theorem src_one {W : World} {N : Nat} {v : Value} (h : W.heap[N]? = some (.cells #[v] 3 (0, 0))) :
    ∀ j u, [v][j]? = some u → W.cell? ((⟨N, 0, none⟩ : Addr).add j) = some u := by
  intro j u hu
  rcases j with _ | j
  · rw [add_plain, cell_of_cells h]; simpa using hu
  · simp at hu

def GoodPost (q K : Nat) (least : Nat) (w : World) (e : Ending) (w' : World) : Prop :=
  ∃ (g cap : Nat) (zs : List Int), e = .returned (.slice (some ⟨g, 0, none⟩) zs.length cap) ∧ OwnI w' w.heap.size (some ⟨g, 0, none⟩) cap zs ∧ least ≤ zs.length ∧ zs.length ≤ 10 ∧ Ready w' q K ∧ w.grownBy w' (some q)

/-- at the head of the loop -/
def GoodAt (q K n : Nat) (w : World) (i : Nat) (v : Value) (wr : World) : Prop :=
  ∃ (g cap : Nat) (zs : List Int), v = .slice (some ⟨g, 0, none⟩) i cap ∧ zs.length = i ∧ OwnI wr w.heap.size (some ⟨g, 0, none⟩) cap zs ∧ Ready wr q (K + (n - i)) ∧ w.grownBy wr (some q)

theorem good_next {q K n i : Nat} {w w2 w5 : World} {g5 cap5 : Nat} {ys : List Int} (hq : q < w.heap.size) (hg2 : w.grownBy w2 (some q)) (hr2 : Ready w2 q (K + (n - (i + 1)))) (hB5 : Below w2.heap.size w2 w5)
    (hl : ys.length = i + 1) (hown5 : w5.ownsRow w2.heap.size 3 1 (.slice (some ⟨g5, 0, none⟩) (i + 1) cap5) (i + 1) (vals ys)) : GoodAt q K n w (i + 1) (.slice (some ⟨g5, 0, none⟩) (i + 1) cap5) w5 := by
  have hs := hg2.size
  refine ⟨g5, cap5, ys, rfl, hl, ?_, hr2.below hB5 (by omega), grown_trans hg2 ⟨hB5.os, hB5.tape, hB5.output, hB5.size, fun k hk _ => hB5.block k hk⟩⟩
  have h : OwnI w5 w2.heap.size (some ⟨g5, 0, none⟩) cap5 ys := by unfold OwnI; rw [hl]; exact hown5
  exact h.less hs

set_option maxHeartbeats 2000000 in
theorem good_any (q K least : Nat) (w : World) (h : Ready w q (K + 11)) (h1 : 1 ≤ least) (h2 : least ≤ 10) :
    Calls Try.prog 79 #[.pointer (some ⟨q, 0, none⟩), .int .i64 least] w (GoodPost q K least w) := by
  have hq := h.lt
  have HR := Lib.hid h
  clear h
  go_enter Try.func79, Try.ntmps79
  go_wp2_with fail
  refine (pick_r q (K + 10) _ _ ?hr (by omega) (by omega)).mono ?_
  case hr => exact (HR.out.less (by omega)).keep (fun i hi => Below.heap_alloc _ _ _ (by omega))
  rintro e w1 ⟨v, hv0, hv1, rfl, hr1, hk1⟩
  obtain ⟨n, hn, hn1, hn2⟩ : ∃ n : Nat, (least : Int) + v = n ∧ least ≤ n ∧ n ≤ 10 := ⟨(least + v).toNat, by omega, by omega, by omega⟩
  have hg1 : w.grownBy w1 (some q) := grown_trans (World.grownBy_alloc w _ _) hk1.grown
  have HN := Lib.hid hn
  have h0 : GoodAt q K n w 0 (.slice (some ⟨w.heap.size, 0, none⟩) 0 0) w1 := by
    refine ⟨w.heap.size, 0, [], rfl, rfl, ?_, hr1.less (by omega), hg1⟩
    have : OwnI (w.alloc (.cells #[] 3)) w.heap.size (some ⟨w.heap.size, 0, none⟩) 0 [] := by
      refine ⟨by simp [vals], .inr ⟨w.heap.size, 0, #[], rfl, Nat.le_refl _, heap_alloc_new w _, Nat.zero_le _, by unfold maxLen; omega, rfl, by simp [vals]⟩⟩
    exact this.kept (fun g hg hg' => hk1.block g (by omega))
  go_wp2
  clear hn
  go_loopw [5, 7] (fun o i wr => ∃ k : Nat, k ≤ n ∧ i = .int .i64 k ∧ GoodAt q K n w k o wr) (fun _ i _ => n - (intOf i).toNat)
  case atStart => exact ⟨0, by omega, rfl, h0⟩
  case round =>
    obtain ⟨i, hi, rfl, g, cap, zs, rfl, hz, hown, hr, hg⟩ := hrel
    have HZ := Lib.hid hz
    clear hz h0
    have hcap := hown.cap_le
    rw [HZ.out] at hcap
    unfold maxLen at hcap
    by_cases hlt : i < n
    · go_wp2_with fail
      refine (pick_r q (K + (n - (i + 1))) 64 wr (hr.less (by omega)) (by omega) (by omega)).mono ?_
      rintro e w2 ⟨p0, hp0, hp1, rfl, hr2, hk2⟩
      have hown2 : OwnI w2 w.heap.size (some ⟨g, 0, none⟩) cap zs := hown.kept (fun g hg hg' => hk2.block g (by omega))
      have hg2 : w.grownBy w2 (some q) := grown_trans hg hk2.grown
      obtain ⟨fr, hf0, hf1, hfree⟩ := free_pos (zs := zs) (by rw [HZ.out]; omega)
      have HF := Lib.hid hfree
      clear hfree
      go_wp2_with fail
      go_loop [8] (fun p => ∃ x : Int, 0 ≤ x ∧ x < 64 ∧ p = .int .i64 x) (fun p => ((fr - intOf p) % 64).toNat)
      case atStart => exact ⟨p0, hp0, hp1, rfl⟩
      case round =>
        obtain ⟨x, hx0, hx1, rfl⟩ := hrel
        cases hh : hasB zs x
        · go_wp2_with (go_at_call 88; refine (shas_any _ _ _ zs _ _ hown2.ints HZ.out (by unfold maxLen; omega)).mono ?_; rintro e w' ⟨rfl, rfl⟩)
          go_loop [9] (fun j => ∃ k : Nat, k ≤ i ∧ j = .int .i64 k) (fun j => i - (intOf j).toNat)
          case atStart => exact ⟨0, by omega, rfl⟩
          case round =>
            obtain ⟨k, hk, rfl⟩ := hrel
            by_cases hki : k < i ∧ gt zs k < x
            · obtain ⟨hki, hlt'⟩ := hki
              have hc : w2.cell? ⟨g, k, none⟩ = some (.int .i64 (gt zs k)) := by
                obtain ⟨g', ha, _, _, hc, _⟩ := hown2.at_ (by rw [HZ.out]; omega)
                injection ha with ha; injection ha with ha; subst ha
                exact hc k (by rw [HZ.out]; exact hki)
              go_wp2
              go_round
              case rel => exact ⟨k + 1, by omega, by go_num⟩
              case measure => simp [intOf]; omega
            · have hstop : k < i → w2.cell? ⟨g, k, none⟩ = some (.int .i64 (gt zs k)) ∧ x ≤ gt zs k := by
                intro hki'
                obtain ⟨g', ha, _, _, hc, _⟩ := hown2.at_ (by rw [HZ.out]; omega)
                injection ha with ha; injection ha with ha; subst ha
                exact ⟨hc k (by rw [HZ.out]; exact hki'), by omega⟩
              clear hki
              have hB2 := Below.refl w2.heap.size w2
              by_cases hki' : k < i
              · obtain ⟨hc, hge⟩ := hstop hki'
                clear hstop
                have hck : ¬ cap = k := by omega
                have hkc : k ≤ cap := by omega
                have hkc' : (k : Int) ≤ (cap : Int) := by omega
                have hk0 : (0 : Int) ≤ (k : Int) := by omega
                have hki0 : (k : Int) ≤ (i : Int) := by omega
                go_wp2
                go_region_law ((first
                    | (refine step_app (o := ⟨some 48, _, _, _, _, _⟩) _ (by rfl) (.tmp 44) (.tmp 47) (by rfl) w2.heap.size _ 0 0 [] (by rfl) (own_empty (by first | exact heap_alloc_new w2 _ | exact heap_second w2 _ _ | exact heap_first w2 _ _) (by first | (simp; done) | (simp; omega) | omega)) ⟨g, 0, none⟩ k cap (vals (zs.take k)) (by rfl) (by rw [vals_len, List.length_take, HZ.out]; omega) (src_take hown2 (by repeat (first | exact hB2 | apply Below.drew | (refine Below.alloc ?_ (by first | exact Nat.le_refl _ | (simp; done) | (simp; omega) | omega) _)))) (vals_one _) k (vals (zs.take k)) (by omega) (by simp) (by omega) (by first | (simp; done) | (simp; omega) | omega) ?_
                       intro g3 cap3 w3 hown3 hg3 hat3
                       have hB3 : Below w2.heap.size w2 w3 := Below.grown (by repeat (first | exact hB2 | apply Below.drew | (refine Below.alloc ?_ (by first | exact Nat.le_refl _ | (simp; done) | (simp; omega) | omega) _))) hg3 (by first | (simp; done) | (simp; omega) | omega) (by first | (simp; done) | (simp; omega))
                       have hz3 := hB3.size)
                    | (refine step_app (o := ⟨some 51, _, _, _, _, _⟩) _ (by rfl) (.tmp 48) (.tmp 50) (by rfl) w2.heap.size g3 k cap3 (vals (zs.take k)) (by rfl) (by first | exact hown3 | exact hown3.alloc _) ⟨_, 0, none⟩ 1 1 [.int .i64 x] (by rfl) rfl (src_one (by first | exact heap_alloc_new w3 _ | exact (hg3.block _ (by first | (simp; done) | (simp; omega) | omega) (by first | (simp; done) | (simp; omega))).trans (heap_second w2 _ _) | exact (hg3.block _ (by first | (simp; done) | (simp; omega) | omega) (by first | (simp; done) | (simp; omega))).trans (heap_first w2 _ _))) (by simp [Value.oneCell']) (k + 1) (vals (zs.take k ++ [x])) rfl (by simp [vals]) (by omega) (by first | exact hz3 | (simp; omega)) ?_
                       intro g4 cap4 w4 hown4 hg4 hat4
                       have hB4 : Below w2.heap.size w2 w4 := Below.grown (by repeat (first | exact hB3 | apply Below.drew | (refine Below.alloc ?_ (by first | exact Nat.le_refl _ | (simp; done) | (simp; omega) | omega) _))) hg4 (by first | exact hz3 | (simp; omega)) (fun _ hk => by cases hk; exact (hown3.lt g3 rfl).1)
                       have hz4 := hB4.size)
                    | (refine step_app (o := ⟨some 55, _, _, _, _, _⟩) _ (by rfl) (.tmp 51) (.tmp 54) (by rfl) w2.heap.size g4 (k + 1) cap4 (vals (zs.take k ++ [x])) (by rfl) hown4 ⟨g, k, none⟩ (i - k) (cap - k) (vals (zs.drop k)) (by rfl) (by rw [vals_len, List.length_drop, HZ.out]) (src_drop hown2 (by repeat (first | exact hB4 | apply Below.drew | (refine Below.alloc ?_ (by first | exact Nat.le_refl _ | (simp; done) | (simp; omega) | omega) _)))) (by first | exact vals_one _ | simp) (i + 1) (vals (zs.take k ++ [x] ++ zs.drop k)) (by omega) (by simp [vals]) (by omega) hz4 ?_
                       intro g5 cap5 w5 hown5 hg5 hat5
                       have hB5 : Below w2.heap.size w2 w5 := Below.grown (by repeat (first | exact hB4 | apply Below.drew | (refine Below.alloc ?_ (by first | exact Nat.le_refl _ | (simp; done) | (simp; omega) | omega) _))) hg5 hz4 (fun _ hk => by cases hk; exact (hown4.lt g4 rfl).1))))
                all_goals
                  go_wp2
                  go_roundw
                  case rel => exact ⟨i + 1, by omega, by go_num, good_next hq hg2 hr2 (by repeat (first | exact hB5 | apply Below.drew)) (by simp [HZ.out]; try omega) hown5⟩
                  case measure => simp [intOf]; omega
              · clear hstop
                obtain rfl : i = k := by omega
                have hk0 : (0 : Int) ≤ (i : Int) := by omega
                by_cases hck : cap = i
                · subst hck
                  go_wp2
                  go_region_law ((first
                      | (refine step_app (o := ⟨some 48, _, _, _, _, _⟩) _ (by rfl) (.tmp 44) (.tmp 47) (by rfl) w2.heap.size _ 0 0 [] (by rfl) (own_empty (by first | exact heap_alloc_new w2 _ | exact heap_second w2 _ _ | exact heap_first w2 _ _) (by first | (simp; done) | (simp; omega) | omega)) ⟨g, 0, none⟩ cap cap (vals (zs.take cap)) (by rfl) (by rw [vals_len, List.length_take, HZ.out]; omega) (src_take hown2 (by repeat (first | exact hB2 | apply Below.drew | (refine Below.alloc ?_ (by first | exact Nat.le_refl _ | (simp; done) | (simp; omega) | omega) _)))) (vals_one _) cap (vals (zs.take cap)) (by omega) (by simp) (by omega) (by first | (simp; done) | (simp; omega) | omega) ?_
                         intro g3 cap3 w3 hown3 hg3 hat3
                         have hB3 : Below w2.heap.size w2 w3 := Below.grown (by repeat (first | exact hB2 | apply Below.drew | (refine Below.alloc ?_ (by first | exact Nat.le_refl _ | (simp; done) | (simp; omega) | omega) _))) hg3 (by first | (simp; done) | (simp; omega) | omega) (by first | (simp; done) | (simp; omega))
                         have hz3 := hB3.size)
                      | (refine step_app (o := ⟨some 51, _, _, _, _, _⟩) _ (by rfl) (.tmp 48) (.tmp 50) (by rfl) w2.heap.size g3 cap cap3 (vals (zs.take cap)) (by rfl) (by first | exact hown3 | exact hown3.alloc _) ⟨_, 0, none⟩ 1 1 [.int .i64 x] (by rfl) rfl (src_one (by first | exact heap_alloc_new w3 _ | exact (hg3.block _ (by first | (simp; done) | (simp; omega) | omega) (by first | (simp; done) | (simp; omega))).trans (heap_second w2 _ _) | exact (hg3.block _ (by first | (simp; done) | (simp; omega) | omega) (by first | (simp; done) | (simp; omega))).trans (heap_first w2 _ _))) (by simp [Value.oneCell']) (cap + 1) (vals (zs.take cap ++ [x])) rfl (by simp [vals]) (by omega) (by first | exact hz3 | (simp; omega)) ?_
                         intro g4 cap4 w4 hown4 hg4 hat4
                         have hB4 : Below w2.heap.size w2 w4 := Below.grown (by repeat (first | exact hB3 | apply Below.drew | (refine Below.alloc ?_ (by first | exact Nat.le_refl _ | (simp; done) | (simp; omega) | omega) _))) hg4 (by first | exact hz3 | (simp; omega)) (fun _ hk => by cases hk; exact (hown3.lt g3 rfl).1)
                         have hz4 := hB4.size)
                      | (refine step_app (o := ⟨some 55, _, _, _, _, _⟩) _ (by rfl) (.tmp 51) (.tmp 54) (by rfl) w2.heap.size g4 (cap + 1) cap4 (vals (zs.take cap ++ [x])) (by rfl) hown4 ⟨g, 0, none⟩ 0 0 [] (by rfl) rfl (src_none _ _) (by first | exact vals_one _ | simp) (cap + 1) (vals (zs.take cap ++ [x])) (by omega) (by simp [vals]) (by omega) hz4 ?_
                         intro g5 cap5 w5 hown5 hg5 hat5
                         have hB5 : Below w2.heap.size w2 w5 := Below.grown (by repeat (first | exact hB4 | apply Below.drew | (refine Below.alloc ?_ (by first | exact Nat.le_refl _ | (simp; done) | (simp; omega) | omega) _))) hg5 hz4 (fun _ hk => by cases hk; exact (hown4.lt g4 rfl).1))))
                  all_goals
                    go_wp2
                    go_roundw
                    case rel => exact ⟨cap + 1, by omega, by go_num, good_next hq hg2 hr2 (by repeat (first | exact hB5 | apply Below.drew)) (by simp [HZ.out]; try omega) hown5⟩
                    case measure => simp [intOf]; omega
                · have hkc : i ≤ cap := by omega
                  have hkc' : (i : Int) ≤ (cap : Int) := by omega
                  go_wp2
                  go_region_law ((first
                      | (refine step_app (o := ⟨some 48, _, _, _, _, _⟩) _ (by rfl) (.tmp 44) (.tmp 47) (by rfl) w2.heap.size _ 0 0 [] (by rfl) (own_empty (by first | exact heap_alloc_new w2 _ | exact heap_second w2 _ _ | exact heap_first w2 _ _) (by first | (simp; done) | (simp; omega) | omega)) ⟨g, 0, none⟩ i cap (vals (zs.take i)) (by rfl) (by rw [vals_len, List.length_take, HZ.out]; omega) (src_take hown2 (by repeat (first | exact hB2 | apply Below.drew | (refine Below.alloc ?_ (by first | exact Nat.le_refl _ | (simp; done) | (simp; omega) | omega) _)))) (vals_one _) i (vals (zs.take i)) (by omega) (by simp) (by omega) (by first | (simp; done) | (simp; omega) | omega) ?_
                         intro g3 cap3 w3 hown3 hg3 hat3
                         have hB3 : Below w2.heap.size w2 w3 := Below.grown (by repeat (first | exact hB2 | apply Below.drew | (refine Below.alloc ?_ (by first | exact Nat.le_refl _ | (simp; done) | (simp; omega) | omega) _))) hg3 (by first | (simp; done) | (simp; omega) | omega) (by first | (simp; done) | (simp; omega))
                         have hz3 := hB3.size)
                      | (refine step_app (o := ⟨some 51, _, _, _, _, _⟩) _ (by rfl) (.tmp 48) (.tmp 50) (by rfl) w2.heap.size g3 i cap3 (vals (zs.take i)) (by rfl) (by first | exact hown3 | exact hown3.alloc _) ⟨_, 0, none⟩ 1 1 [.int .i64 x] (by rfl) rfl (src_one (by first | exact heap_alloc_new w3 _ | exact (hg3.block _ (by first | (simp; done) | (simp; omega) | omega) (by first | (simp; done) | (simp; omega))).trans (heap_second w2 _ _) | exact (hg3.block _ (by first | (simp; done) | (simp; omega) | omega) (by first | (simp; done) | (simp; omega))).trans (heap_first w2 _ _))) (by simp [Value.oneCell']) (i + 1) (vals (zs.take i ++ [x])) rfl (by simp [vals]) (by omega) (by first | exact hz3 | (simp; omega)) ?_
                         intro g4 cap4 w4 hown4 hg4 hat4
                         have hB4 : Below w2.heap.size w2 w4 := Below.grown (by repeat (first | exact hB3 | apply Below.drew | (refine Below.alloc ?_ (by first | exact Nat.le_refl _ | (simp; done) | (simp; omega) | omega) _))) hg4 (by first | exact hz3 | (simp; omega)) (fun _ hk => by cases hk; exact (hown3.lt g3 rfl).1)
                         have hz4 := hB4.size)
                      | (refine step_app (o := ⟨some 55, _, _, _, _, _⟩) _ (by rfl) (.tmp 51) (.tmp 54) (by rfl) w2.heap.size g4 (i + 1) cap4 (vals (zs.take i ++ [x])) (by rfl) hown4 ⟨g, i, none⟩ 0 (cap - i) [] (by rfl) rfl (src_none _ _) (by first | exact vals_one _ | simp) (i + 1) (vals (zs.take i ++ [x])) (by omega) (by simp [vals]) (by omega) hz4 ?_
                         intro g5 cap5 w5 hown5 hg5 hat5
                         have hB5 : Below w2.heap.size w2 w5 := Below.grown (by repeat (first | exact hB4 | apply Below.drew | (refine Below.alloc ?_ (by first | exact Nat.le_refl _ | (simp; done) | (simp; omega) | omega) _))) hg5 hz4 (fun _ hk => by cases hk; exact (hown4.lt g4 rfl).1))))
                  all_goals
                    go_wp2
                    go_roundw
                    case rel => exact ⟨i + 1, by omega, by go_num, good_next hq hg2 hr2 (by repeat (first | exact hB5 | apply Below.drew)) (by simp [HZ.out]; try omega) hown5⟩
                    case measure => simp [intOf]; omega
        · have hne : ¬ x = fr := by intro e; rw [e, HF.out] at hh; cases hh
          go_wp2_with (go_at_call 88; refine (shas_any _ _ _ zs _ _ hown2.ints HZ.out (by unfold maxLen; omega)).mono ?_; rintro e w' ⟨rfl, rfl⟩)
          go_round
          case rel => exact ⟨(x + 1) % 64, by omega, by omega, by simp⟩
          case measure => simp [intOf]; omega
    · go_wp2
      go_ret
      exact ⟨g, cap, zs, by rw [HZ.out]; rfl, hown, by rw [HZ.out]; omega, by rw [HZ.out]; omega, hr.less (by omega), hg⟩
end Go.Proofs.Ytfhjmfcdogpbeaa
