/- Transfers: the program's library calls (slices.Equal, slices.Grow, slices.Concat; parts of a slice). -/
import Derived.Test.YtedbgfeojocbpaaTfP2
import Derived.Lib.AppendZerosOnto
namespace Go.Proofs.Ytedbgfeojocbpaa
open Go.RowKit
set_option linter.unusedVariables false

attribute [local go_sem ↓] Go.wp_at_zero Go.wp_at_succ

/-- where a part of a slice begins -/
def slA (a : Option Addr) (cap l : Nat) : Option Addr := if cap = l then a else a.map (·.add l)
theorem slA_size (w : World) : (Go.sizeOf 3).run Try.prog w = .ok 1 w := by
  obtain ⟨i0, hi0, hz0, hz1, hz2⟩ := info_parts Try.infoI
  simp [Go.sizeOf, typeInfo, hi0, hz1]
theorem run_slcLH (w : World) (a : Option Addr) (len cap l h : Nat) (h1 : l ≤ h) (h2 : h ≤ cap) :
    (Instr.slice 22 (.slice a len cap) (some (.int .i64 l)) (some (.int .i64 h)) none).run Try.prog w = .ok (.slice (slA a cap l) (h - l) (cap - l)) w := by
  have e : Try.prog.underlying 22 = some (.slice (Try.prog.elem 22)) := Try.underlying22
  rw [run_slice_lh _ _ _ _ _ e _ _ _ _ (by omega) (by omega) (by omega)]
  have hs : (sizeOf (Try.prog.elem 22)).run Try.prog w = .ok 1 w := slA_size w
  rw [hs]
  simp [Result.andThen, sliced, slA]
theorem run_slcH (w : World) (a : Option Addr) (len cap h : Nat) (h2 : h ≤ cap) :
    (Instr.slice 22 (.slice a len cap) none (some (.int .i64 h)) none).run Try.prog w = .ok (.slice (slA a cap 0) h cap) w := by
  have e : Try.prog.underlying 22 = some (.slice (Try.prog.elem 22)) := Try.underlying22
  rw [run_slice_h _ _ _ _ _ e _ _ (by omega) (by omega)]
  have hs : (sizeOf (Try.prog.elem 22)).run Try.prog w = .ok 1 w := slA_size w
  rw [hs]
  simp [Result.andThen, sliced, slA]
theorem run_slcL (w : World) (a : Option Addr) (len cap l : Nat) (h1 : l ≤ len) :
    (Instr.slice 22 (.slice a len cap) (some (.int .i64 l)) none none).run Try.prog w = .ok (.slice (slA a cap l) (len - l) (cap - l)) w := by
  have e : Try.prog.underlying 22 = some (.slice (Try.prog.elem 22)) := Try.underlying22
  rw [run_slice_l _ _ _ _ _ e _ _ (by omega) (by omega)]
  have hs : (sizeOf (Try.prog.elem 22)).run Try.prog w = .ok 1 w := slA_size w
  rw [hs]
  simp [Result.andThen, sliced, slA]
/-- a part reads as the part of the list -/
theorem ints_slc {w : World} {a : Option Addr} {zs : List Int} {cap l h : Nat} (hi : IntsAt w a zs) (h1 : l ≤ h) (h2 : h ≤ zs.length) (h3 : zs.length ≤ cap) : IntsAt w (slA a cap l) (cutL zs l h) := by
  have hlen : (cutL zs (l : Int) (h : Int)).length = h - l := by rw [cutL_len (by omega) (by omega) (by omega)]; omega
  rcases Nat.lt_or_ge l h with e | e
  · rcases hi with h0 | ⟨b, off, ha, hlt, hc⟩
    · rw [h0] at h2; simp at h2; omega
    · subst ha
      have hs : slA (some ⟨b, off, none⟩) cap l = some ⟨b, off + l, none⟩ := by rw [slA, if_neg (by omega), Option.map_some, add_plain]
      rw [hs]
      exact ints_cut (.inr ⟨b, off, rfl, hlt, hc⟩) e h2
  · left
    exact List.length_eq_zero_iff.1 (by omega)
theorem cutL_len' {zs : List Int} {l h : Nat} (h1 : l ≤ h) (h2 : h ≤ zs.length) : (cutL zs (l : Int) (h : Int)).length = h - l := by rw [cutL_len (by omega) (by omega) (by omega)]; omega

theorem bcaseP (b : Bool) : b = true ∨ b = false := by cases b <;> simp
set_option maxHeartbeats 1000000 in
theorem pequal_any (a1 a2 : Option Addr) (l1 c1 c2 : Nat) (xs ys : List Int) (w : World) (h1 : IntsAt w a1 xs) (h2 : IntsAt w a2 ys) (hx : xs.length = l1) (hy : ys.length = l1) (hm : l1 ≤ 1048576) :
    Calls Try.prog 54 #[.slice a1 l1 c1, .slice a2 l1 c2] w fun e w' => e = .returned (.bool (decide (xs = ys))) ∧ Same w w' := by
  have H1 := Lib.hid h1
  have H2 := Lib.hid h2
  have HX := Lib.hid hx
  have HY := Lib.hid hy
  clear h1 h2 hx hy
  have hne : ((l1 : Int) != (l1 : Int)) = false := by simp
  go_enter Try.func54, Try.ntmps54
  go_wp2
  go_loopw [13] (fun i wr => ∃ k : Nat, k ≤ l1 ∧ i = .int .i64 k ∧ Same w wr ∧ ∀ j, j < k → gt xs j = gt ys j) (fun i _ => l1 - (intOf i).toNat)
  case atStart => exact ⟨0, by omega, rfl, Same.refl _, fun j hj => absurd hj (by omega)⟩
  case round =>
    obtain ⟨k, hk, rfl, hsame, hall⟩ := hrel
    have HA := Lib.hid hall
    clear hall
    by_cases hlt : k < l1
    · have h' : ∃ b off, a1 = some ⟨b, off, none⟩ ∧ wr.cell? ⟨b, off + k, none⟩ = some (.int .i64 (gt xs k)) := by
        rcases H1.out with h0 | ⟨b, off, ha, hb, hc⟩
        · have := HX.out; rw [h0] at this; simp at this; omega
        · exact ⟨b, off, ha, (hsame.cell _).trans (hc k (by rw [HX.out]; exact hlt))⟩
      have h'' : ∃ b off, a2 = some ⟨b, off, none⟩ ∧ wr.cell? ⟨b, off + k, none⟩ = some (.int .i64 (gt ys k)) := by
        rcases H2.out with h0 | ⟨b, off, ha, hb, hc⟩
        · have := HY.out; rw [h0] at this; simp at this; omega
        · exact ⟨b, off, ha, (hsame.cell _).trans (hc k (by rw [HY.out]; exact hlt))⟩
      obtain ⟨b, off, ha, hc⟩ := h'
      obtain ⟨b2, off2, ha2, hc2⟩ := h''
      subst ha ha2
      have hlt' : (k : Int) < (l1 : Int) := by omega
      have h0' : (0 : Int) ≤ (k : Int) := by omega
      obtain ⟨x, hx⟩ : ∃ x, x = gt xs k := ⟨_, rfl⟩
      obtain ⟨y, hy⟩ : ∃ y, y = gt ys k := ⟨_, rfl⟩
      rw [← hx] at hc
      rw [← hy] at hc2
      have HEX := Lib.hid hx
      have HEY := Lib.hid hy
      clear hx hy
      rcases bcaseP (x != y) with hv | hv
      · have hne' : Hid (x ≠ y) := by show x ≠ y; simpa using hv
        go_wp2
        go_quiet (fail)
        go_wp2
        go_ret
        refine ⟨ret_bool ?_, hsame.drewN _⟩
        symm
        rw [decide_eq_false_iff_not]
        intro e
        apply hne'.out
        rw [HEX.out, HEY.out, e]
      · have heq : Hid (x = y) := by show x = y; simpa using hv
        go_wp2
        go_quiet (fail)
        go_wp2
        go_roundw
        case rel =>
          refine ⟨k + 1, by omega, by go_num, hsame.drewN _, fun j hj => ?_⟩
          rcases Nat.lt_or_ge j k with e | e
          · exact HA.out j e
          · have : j = k := by omega
            subst this; rw [← HEX.out, ← HEY.out, heq.out]
        case measure => simp [intOf]; omega
    · have hkl : k = l1 := by omega
      have HK := Lib.hid hkl
      clear hkl
      go_wp2
      go_ret
      refine ⟨ret_bool ?_, hsame⟩
      symm
      rw [decide_eq_true_eq]
      exact list_ext_gt (by rw [HX.out, HY.out]) (fun j hj => HA.out j (by have := HK.out; have := HX.out; omega))

/-- a row with room and nothing in it -/
def NewRoom (w : World) (e : Ending) (w' : World) : Prop :=
  ∃ g cap, e = .returned (.slice (some ⟨g, 0, none⟩) 0 cap) ∧ w'.ownsRow w.heap.size 3 1 (.slice (some ⟨g, 0, none⟩) 0 cap) 0 [] ∧ Below w.heap.size w w'
theorem run_slc0 (w : World) (g n cap : Nat) : (Instr.slice 22 (.slice (some ⟨g, 0, none⟩) n cap) none (some (.int .i64 0)) none).run Try.prog w = .ok (.slice (some ⟨g, 0, none⟩) 0 cap) w := by
  have h := run_slcH w (some ⟨g, 0, none⟩) n cap 0 (Nat.zero_le _)
  rw [show slA (some ⟨g, 0, none⟩) cap 0 = some ⟨g, 0, none⟩ by unfold slA; split <;> rfl] at h
  exact h

set_option maxHeartbeats 1000000 in
theorem pgrow_any (n : Nat) (w : World) (h0 : 0 < n) (hm : n ≤ 1000) :
    Calls Try.prog 61 #[.slice none 0 0, .int .i64 n] w (NewRoom w) := by
  obtain ⟨i0, hi0, hz0, hz1, hz2⟩ := info_parts Try.infoI
  have hG := grownCap_ge w n 0 3
  have hG2 := grownCap_le_maxLen w n 0 3 (by unfold maxLen; omega)
  have hrz : ∀ ty, (Builtin.append_ #[22, 3] ty #[.slice none 0 0, .int .i64 n]).run Try.prog w =
      .ok (.slice (some ⟨w.heap.size, 0, none⟩) n (grownCap w n 0 3)) (w.drew.alloc (.cells (#[] ++ Builtin.zeroCells (Value.int .i64 0).cells n ++ Builtin.zeroCells (Value.int .i64 0).cells (grownCap w n 0 3 - n)) 3)) := fun ty => by
    have h := Lib.run_append_grow_zeros (P := Try.prog) w 22 3 ty 3 i0 (.int .i64 0) .i64 .i64 Try.underlying22 Try.underlying3 hi0 hz0 none 0 0 [] (by exact run_firstCells_none w.drew i0.size 0 0 0) n h0 (by omega) (by omega) (by omega)
      (by rw [hz2]; omega) (by rw [hz2]; exact growslice_fits (by omega) (by omega))
    simpa using h
  generalize grownCap w n 0 3 = C at *
  have hown : (w.drew.alloc (.cells (#[] ++ Builtin.zeroCells (Value.int .i64 0).cells n ++ Builtin.zeroCells (Value.int .i64 0).cells (C - n)) 3)).ownsRow w.heap.size 3 1 (.slice (some ⟨w.heap.size, 0, none⟩) 0 C) 0 [] := by
    refine ⟨by simp, .inr ⟨w.heap.size, C, _, rfl, Nat.le_refl _, heap_alloc_new w.drew _, Nat.zero_le _, hG2, ?_, by simp⟩⟩
    simp [Builtin.zeroCells, Value.cells]; omega
  have hB : Below w.heap.size w (w.drew.alloc (.cells (#[] ++ Builtin.zeroCells (Value.int .i64 0).cells n ++ Builtin.zeroCells (Value.int .i64 0).cells (C - n)) 3)) := (Below.refl _ _).drew.alloc (Nat.le_refl _) _
  generalize w.drew.alloc (.cells (#[] ++ Builtin.zeroCells (Value.int .i64 0).cells n ++ Builtin.zeroCells (Value.int .i64 0).cells (C - n)) 3) = w2 at *
  have HO := Lib.hid hown
  have HR := Lib.hid hrz
  have HB := Lib.hid hB
  have hs0 := fun w => run_slc0 w w2.heap.size
  have hs1 := run_slc0 w2 w.heap.size n C
  have hs2 := run_slcH w none 0 0 0 (Nat.le_refl _)
  have hn : ¬ (n : Int) < 0 := by omega
  have hn2 : (0 : Int) < n := by omega
  clear hown hrz hB hs0 hi0 hz0 hz1 hz2 hG hG2
  go_enter Try.func61, Try.ntmps61
  go_wp2_with (at_builtin; refine Lib.wpList_append_run _ rfl _ _ _ _ rfl _ _ rfl rfl _ _ (HR.out _) ?_)
  go_ret
  exact ⟨w.heap.size, C, rfl, HO.out, HB.out⟩

theorem pgrow_at (n : Nat) (z : Int) (w : World) (hz : z = n) (h0 : 0 < n) (hm : n ≤ 1000) :
    Calls Try.prog 61 #[.slice none 0 0, .int .i64 z] w (NewRoom w) := by
  subst hz; exact pgrow_any n w h0 hm
/-- where slices.Concat stands in its first loop: index and size -/
def CatAt (n m : Nat) (i s : Value) : Prop := (i = .int .i64 0 ∧ s = .int .i64 0) ∨ (i = .int .i64 1 ∧ s = .int .i64 n) ∨ (i = .int .i64 2 ∧ s = .int .i64 (n + m))
/-- and in its second -/
def CatRow (w0 : World) (base n m : Nat) (xs ys : List Int) (s i : Value) (wr : World) : Prop :=
  ∃ g cap, Below base w0 wr ∧ ((i = .int .i64 0 ∧ s = .slice (some ⟨g, 0, none⟩) 0 cap ∧ wr.ownsRow base 3 1 (.slice (some ⟨g, 0, none⟩) 0 cap) 0 []) ∨ (i = .int .i64 1 ∧ s = .slice (some ⟨g, 0, none⟩) n cap ∧ wr.ownsRow base 3 1 (.slice (some ⟨g, 0, none⟩) n cap) n ([] ++ vals xs)) ∨ (i = .int .i64 2 ∧ s = .slice (some ⟨g, 0, none⟩) (n + m) cap ∧ wr.ownsRow base 3 1 (.slice (some ⟨g, 0, none⟩) (n + m) cap) (n + m) ([] ++ vals xs ++ vals ys)))
theorem owns_le {w : World} {base g cap n : Nat} {vs : List Value} {e : TypeId} (h : w.ownsRow base e 1 (.slice (some ⟨g, 0, none⟩) n cap) n vs) : base ≤ g := by
  rcases h.2 with ⟨hn, _⟩ | ⟨g', cap', cur, hv, hb, hg, _⟩
  · cases hn
  · injection hv with hv _ _; injection hv with hv; injection hv with hv; subst hv; exact hb

set_option maxHeartbeats 4000000 in
theorem pconcat_any (B : Nat) (a b : Option Addr) (ca cb : Nat) (xs ys : List Int) (w : World) (h : w.heap[B]? = some (.cells #[.slice a xs.length ca, .slice b ys.length cb] 22 (0, 0))) (h1 : IntsAt w a xs) (h2 : IntsAt w b ys) (h0 : 0 < xs.length + ys.length) (hx : xs.length ≤ 100) (hy : ys.length ≤ 100) :
    Calls Try.prog 55 #[.slice (some ⟨B, 0, none⟩) 2 2] w (NewI (xs ++ ys) w) := by
  have H1 := Lib.hid h1
  have H2 := Lib.hid h2
  have HBL := heap_lt h
  obtain ⟨c0, c1⟩ := cells2 h
  have HC : Hid (∀ w', Below w.heap.size w w' → w'.cell? ⟨B, 0, none⟩ = some (.slice a xs.length ca) ∧ w'.cell? ⟨B, 1, none⟩ = some (.slice b ys.length cb)) := fun w' hb => cells2 ((hb.block B HBL).trans h)
  clear h h1 h2
  obtain ⟨n, hn⟩ : ∃ n, n = xs.length := ⟨_, rfl⟩
  obtain ⟨m, hm⟩ : ∃ m, m = ys.length := ⟨_, rfl⟩
  rw [← hn] at c0 hx h0
  rw [← hm] at c1 hy h0
  have HN := Lib.hid hn
  have HM := Lib.hid hm
  clear hn hm
  go_enter Try.func55, Try.ntmps55
  go_wp2
  go_loop [3, 11] (fun s i => CatAt n m i s) (fun s i => 2 - (intOf i).toNat)
  case atStart => exact .inl ⟨rfl, rfl⟩
  case round =>
    rcases hrel with ⟨rfl, rfl⟩ | ⟨rfl, rfl⟩ | ⟨rfl, rfl⟩
    · go_wp2
      go_round
      case rel => exact .inr (.inl ⟨rfl, by go_num⟩)
      case measure => simp [intOf]
    · go_wp2
      go_round
      case rel => exact .inr (.inr ⟨rfl, by go_num⟩)
      case measure => simp [intOf]
    · go_wp2_with fail
      refine (pgrow_at (n + m) _ w (by omega) h0 (by omega)).mono ?_
      rintro e w2 ⟨g, cap, rfl, ho, hb⟩
      have HO := Lib.hid ho
      have HB := Lib.hid hb
      obtain ⟨d0, d1⟩ := HC.out w2 hb
      rw [← HN.out] at d0
      rw [← HM.out] at d1
      clear ho hb
      go_wp2
      go_loopw [6, 27] (fun s i wr => CatRow w w.heap.size n m xs ys s i wr) (fun s i _ => 2 - (intOf i).toNat)
      case atStart => exact ⟨g, cap, HB.out, .inl ⟨rfl, rfl, HO.out⟩⟩
      case round =>
        obtain ⟨g, cap, hb, hh⟩ := hrel
        have HB := Lib.hid hb
        have hbs := hb.size
        obtain ⟨d0, d1⟩ := HC.out wr hb
        rw [← HN.out] at d0
        rw [← HM.out] at d1
        clear hb
        rcases hh with ⟨rfl, rfl, ho⟩ | ⟨rfl, rfl, ho⟩ | ⟨rfl, rfl, ho⟩
        · have HO := Lib.hid ho
          have hgb := owns_le ho
          clear ho
          go_wp2_with (at_builtin; refine wl_appS _ (by rfl) _ _ (by rfl) w.heap.size g 0 cap [] (by rfl) HO.out a n ca xs (by rfl) HN.out.symm (H1.out.keepB HB.out (Nat.le_refl _)) n (by omega) (by omega) (by omega) ?_; intro g' c' w' hown hgr hat; have HO' := Lib.hid hown; have HB' := Lib.hid (HB.out.grown hgr HB.out.size (fun k hk => by injection hk with hk; omega)); clear hown hgr hat)
          go_roundw
          case rel => exact ⟨g', c', HB'.out, .inr (.inl ⟨rfl, rfl, HO'.out⟩)⟩
          case measure => simp [intOf]
        · have HO := Lib.hid ho
          have hgb := owns_le ho
          clear ho
          go_wp2_with (at_builtin; refine wl_appS _ (by rfl) _ _ (by rfl) w.heap.size g n cap _ (by rfl) HO.out b m cb ys (by rfl) HM.out.symm (H2.out.keepB HB.out (Nat.le_refl _)) (n + m) (by omega) (by omega) (by omega) ?_; intro g' c' w' hown hgr hat; have HO' := Lib.hid hown; have HB' := Lib.hid (HB.out.grown hgr HB.out.size (fun k hk => by injection hk with hk; omega)); clear hown hgr hat)
          go_roundw
          case rel => exact ⟨g', c', HB'.out, .inr (.inr ⟨rfl, rfl, HO'.out⟩)⟩
          case measure => simp [intOf]
        · have HO := Lib.hid ho
          clear ho
          go_wp2
          go_ret
          have hl : (xs ++ ys).length = n + m := by rw [List.length_append, HN.out, HM.out]
          have hv : [] ++ vals xs ++ vals ys = vals (xs ++ ys) := by simp [vals]
          refine ⟨some ⟨g, 0, none⟩, cap, by rw [hl]; rfl, ?_, HB.out⟩
          unfold OwnI
          rw [hl, ← hv]; exact HO.out
end Go.Proofs.Ytedbgfeojocbpaa
