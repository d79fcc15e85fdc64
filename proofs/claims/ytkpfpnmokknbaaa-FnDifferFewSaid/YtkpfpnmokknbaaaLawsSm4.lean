/- The walks of the laws of trees of sums: comparing. Written by gen_lawssm.py. -/
import Derived.Test.YtkpfpnmokknbaaaLawsSm3
namespace Go.Proofs.Ytkpfpnmokknbaaa
open Go.RowKit
set_option linter.unusedVariables false

attribute [local go_sem ↓] Go.wp_at_zero Go.wp_at_succ

theorem dfL_le (xs ys : List Int) : (dfL xs ys).length ≤ 31 := by
  unfold dfL
  by_cases h : dfB xs ys = true
  · rw [if_pos h]; exact outL_len_le _ _
  · rw [if_neg h]; exact Nat.zero_le _
theorem dfB_yes {xs ys : List Int} (h : dfB xs ys = true) : treeB xs = true ∧ treeB ys = true := by simpa [dfB] using h
/-- a call gave the numbers L, m of them, and the number N -/
def GaveN (L : List Int) (m : Nat) (N : Int) (w : World) (e : Ending) (w' : World) : Prop :=
  ∃ g gc, e = .returned (.tuple #[.slice (some ⟨g, 0, none⟩) m gc, .int .i64 N]) ∧ IntsAt w' (some ⟨g, 0, none⟩) L ∧ m ≤ gc ∧ Below w.heap.size w w'
theorem gaven_of {L M : List Int} {m : Nat} {N K : Int} {w w' : World} {e : Ending} (h : NewIntsN M K w e w') (hL : M = L) (hl : L.length = m) (hN : K = N) : GaveN L m N w e w' := by
  subst hL hl hN
  obtain ⟨g, gc, he, ho, hb⟩ := h
  exact ⟨g, gc, he, ho.ints, ho.cap_le.1, hb⟩
theorem differ_as (a1 a2 : Option Addr) (l1 c1 l2 c2 : Nat) (xs ys : List Int) (w : World) (L : List Int) (m : Nat) (N : Int) (h1 : IntsAt w a1 xs) (hz1 : xs.length = l1) (hm1 : l1 ≤ maxLen) (hc1 : l1 ≤ c1) (h2 : IntsAt w a2 ys) (hz2 : ys.length = l2) (hm2 : l2 ≤ maxLen) (hc2 : l2 ≤ c2) (hL : dfL xs ys = L) (hl : L.length = m) (hN : dfN xs ys = N) :
    Calls Try.prog 23 #[.slice a1 l1 c1, .slice a2 l2 c2] w (GaveN L m N w) :=
  (sumsdiffer_any a1 a2 l1 c1 l2 c2 xs ys w h1 hz1 hm1 hc1 h2 hz2 hm2 hc2).mono fun e w' k => gaven_of k hL hl hN
theorem sdiffer_as (a1 a2 : Option Addr) (l1 c1 l2 c2 : Nat) (xs ys : List Int) (w : World) (L : List Int) (m : Nat) (N : Int) (h1 : IntsAt w a1 xs) (hz1 : xs.length = l1) (hm1 : l1 ≤ maxLen) (hc1 : l1 ≤ c1) (h2 : IntsAt w a2 ys) (hz2 : ys.length = l2) (hm2 : l2 ≤ maxLen) (hc2 : l2 ≤ c2) (hL : dfL xs ys = L) (hl : L.length = m) (hN : dfN xs ys = N) :
    Calls Try.prog 24 #[.slice a1 l1 c1, .slice a2 l2 c2] w (GaveN L m N w) :=
  (ssumsdiffer_any a1 a2 l1 c1 l2 c2 xs ys w h1 hz1 hm1 hc1 h2 hz2 hm2 hc2).mono fun e w' k => gaven_of k hL hl hN

theorem dff_comm (xs ys : List Int) : dff ys xs = dff xs ys := by
  funext i
  unfold dff
  congr 1
  rw [Bool.eq_iff_iff]; simp only [beq_iff_eq]; exact eq_comm
theorem dff_self (xs : List Int) : dff xs xs = fun _ => false := by funext i; simp [dff]
theorem df_comm (xs ys : List Int) : dfL ys xs = dfL xs ys ∧ dfN ys xs = dfN xs ys := by
  unfold dfL dfN dfB
  rw [dff_comm, Bool.and_comm]
  exact ⟨rfl, rfl⟩
theorem df_self {xs : List Int} (h : treeB xs = true) : dfL xs xs = [] ∧ dfN xs xs = 1 := by
  unfold dfL dfN dfB
  rw [dff_self, h]
  exact ⟨by decide, by decide⟩
/-- where one leaf was set, just its path differs -/
theorem dff_one {xs : List Int} {k : Nat} {v : Int} (ht : treeB xs = true) (hk : k < 16) (hv : sB v = true) (hne : v ≠ gt xs (15 + k)) : dff xs (bld ((xs.drop 15).set k v)) = fun i => decide (i ∈ pth (15 + k)) := by
  funext i
  have hl := (leavesB_yes (treeB_yes ht).2.1).1
  have hs := (leavesB_yes (treeB_yes ht).2.1).2
  rcases Nat.lt_or_ge i 31 with hi | hi
  · by_cases hp : i ∈ pth (15 + k)
    · have h1 := tn_on hl hs hv hk (by rw [gt_drop]; exact hne) i hi hp
      rw [dff, bld_gt _ hi, treeB_gt ht hi, decide_eq_true hp]
      simp; exact fun e => h1 e.symm
    · have h1 := tn_off (v := v) hl hk i hi hp
      rw [dff, bld_gt _ hi, treeB_gt ht hi, h1, decide_eq_false hp]
      simp
  · have h1 : gt xs i = 0 := by simp only [gt, List.getD]; rw [List.getElem?_eq_none (by rw [(treeB_yes ht).1]; exact hi)]; rfl
    have h2 : gt (bld ((xs.drop 15).set k v)) i = 0 := by simp only [gt, List.getD]; rw [List.getElem?_eq_none (by rw [bld_len]; exact hi)]; rfl
    have h3 : i ∉ pth (15 + k) := fun h => by have := pth_lt hk h; omega
    rw [dff, h1, h2, decide_eq_false h3]; rfl
theorem one_found {k : Nat} (hk : k < 16) : outL (fun i => decide (i ∈ pth (15 + k))) 31 = [(k : Int)] ∧ cnt (opn fun i => decide (i ∈ pth (15 + k))) 31 = 9 := by
  have : ∀ k : Fin 16, outL (fun i => decide (i ∈ pth (15 + k.1))) 31 = [(k.1 : Int)] ∧ cnt (opn fun i => decide (i ∈ pth (15 + k.1))) 31 = 9 := by decide
  exact this ⟨k, hk⟩
theorem df_one {xs : List Int} {k : Nat} {v : Int} (ht : treeB xs = true) (hk : k < 16) (hv : sB v = true) (hne : v ≠ gt xs (15 + k)) : dfL xs (bld ((xs.drop 15).set k v)) = [(k : Int)] ∧ dfN xs (bld ((xs.drop 15).set k v)) = 9 := by
  have hb : dfB xs (bld ((xs.drop 15).set k v)) = true := by
    unfold dfB; rw [ht, treeB_bld (leavesB_set (treeB_yes ht).2.1 hv)]; rfl
  unfold dfL dfN
  rw [hb, dff_one ht hk hv hne]
  obtain ⟨h1, h2⟩ := one_found hk
  rw [if_pos rfl, if_pos rfl, h1, h2]
  exact ⟨rfl, rfl⟩

/-- a node that differs has a node below it that differs -/
theorem dff_down {xs ys : List Int} (hx : treeB xs = true) (hy : treeB ys = true) {i : Nat} (hi : i < 15) (h : dff xs ys i = true) : dff xs ys (2 * i + 1) = true ∨ dff xs ys (2 * i + 2) = true := by
  by_cases h1 : dff xs ys (2 * i + 1) = true
  · exact .inl h1
  · right
    by_cases h2 : dff xs ys (2 * i + 2) = true
    · exact h2
    · exfalso
      simp only [dff, Bool.not_eq_true, Bool.not_eq_false', beq_iff_eq] at h1 h2
      rw [dff, treeB_gt hx (by omega), treeB_gt hy (by omega), tn_node _ hi, tn_node _ hi, ← treeB_gt hx (by omega), ← treeB_gt hx (by omega), ← treeB_gt hy (by omega), ← treeB_gt hy (by omega), h1, h2] at h
      simp at h
theorem few_open (d : Nat → Bool) : cnt (opn d) 31 ≤ 1 + 2 * cnt d 15 := by
  have ho : ∀ j, 0 < j → j < 31 → (opn d j).toNat ≤ (d ((j - 1) / 2)).toNat := fun j h0 h1 => by
    rw [opn_up d h0 h1]
    cases opn d ((j - 1) / 2) <;> simp
  have key : ∀ m, m ≤ 15 → cnt (opn d) (2 * m + 1) ≤ 1 + 2 * cnt d m := by
    intro m
    induction m with
    | zero => intro _; simp only [cnt]; have := Bool.toNat_le (opn d 0); omega
    | succ m ih =>
      intro hm
      have h1 := ih (by omega)
      have h2 := ho (2 * m + 1) (by omega) (by omega)
      have h3 := ho (2 * m + 2) (by omega) (by omega)
      rw [show (2 * m + 1 - 1) / 2 = m by omega] at h2
      rw [show (2 * m + 2 - 1) / 2 = m by omega] at h3
      have e1 : cnt (opn d) (2 * (m + 1) + 1) = cnt (opn d) (2 * m + 1) + (opn d (2 * m + 1)).toNat + (opn d (2 * m + 2)).toNat := rfl
      have e2 : cnt d (m + 1) = cnt d m + (d m).toNat := rfl
      rw [e1, e2]; omega
  exact key 15 (Nat.le_refl _)
/-- how many from a place on -/
def cntF (d : Nat → Bool) (a n : Nat) : Nat := cnt (fun t => d (a + t)) n
theorem cntF_succ (d : Nat → Bool) (a n : Nat) : cntF d a (n + 1) = cntF d a n + (d (a + n)).toNat := rfl
theorem cnt_split (d : Nat → Bool) (a : Nat) : ∀ n, cnt d (a + n) = cnt d a + cntF d a n
  | 0 => rfl
  | n + 1 => by rw [← Nat.add_assoc, cntF_succ]; show cnt d (a + n) + _ = _; rw [cnt_split d a n]; omega
theorem level {d : Nat → Bool} (hd : ∀ i, i < 15 → d i = true → d (2 * i + 1) = true ∨ d (2 * i + 2) = true) (a : Nat) : ∀ n, a + n ≤ 15 → cntF d a n ≤ cntF d (2 * a + 1) (2 * n)
  | 0, _ => Nat.le_refl _
  | n + 1, h => by
    have h1 := level hd a n (by omega)
    have h2 : (d (a + n)).toNat ≤ (d (2 * (a + n) + 1)).toNat + (d (2 * (a + n) + 2)).toNat := by
      cases hv : d (a + n)
      · exact Nat.zero_le _
      · rcases hd (a + n) (by omega) hv with e | e <;> rw [e] <;> simp
    have e1 : cntF d (2 * a + 1) (2 * (n + 1)) = cntF d (2 * a + 1) (2 * n) + (d (2 * a + 1 + 2 * n)).toNat + (d (2 * a + 1 + (2 * n + 1))).toNat := rfl
    rw [cntF_succ, e1, show 2 * a + 1 + 2 * n = 2 * (a + n) + 1 by omega, show 2 * a + 1 + (2 * n + 1) = 2 * (a + n) + 2 by omega]
    omega
theorem few_levels {d : Nat → Bool} (hd : ∀ i, i < 15 → d i = true → d (2 * i + 1) = true ∨ d (2 * i + 2) = true) : cnt d 15 ≤ 4 * cntF d 15 16 := by
  have h0 := level hd 0 1 (by omega)
  have h1 := level hd 1 2 (by omega)
  have h2 := level hd 3 4 (by omega)
  have h3 := level hd 7 8 (by omega)
  have s1 := cnt_split d 0 1
  have s2 := cnt_split d 1 2
  have s3 := cnt_split d 3 4
  have s4 := cnt_split d 7 8
  have z : cnt d 0 = 0 := rfl
  simp only [Nat.zero_add, Nat.mul_zero, Nat.mul_one, Nat.reduceMul, Nat.reduceAdd] at h0 h1 h2 h3 s1 s2 s3 s4
  omega
theorem few_cmp {d : Nat → Bool} (hd : ∀ i, i < 15 → d i = true → d (2 * i + 1) = true ∨ d (2 * i + 2) = true) : cnt (opn d) 31 ≤ 1 + 8 * cntF d 15 16 := by
  have h1 := few_open d
  have h2 := few_levels hd
  omega
theorem few_out (d : Nat → Bool) : (outL d 31).length ≤ cntF d 15 16 := by
  rw [outL_len]
  have h0 : cnt (outP d) 15 = 0 := cnt_none 15 (fun i hi => by simp [outP]; omega)
  have h1 := cnt_split (outP d) 15 16
  have h2 : cntF (outP d) 15 16 ≤ cntF d 15 16 := cnt_mono' 16 (fun i hi h => by
    simp only [outP, Bool.and_eq_true] at h
    exact h.2.2)
  simp only [Nat.reduceAdd] at h1
  omega

theorem out_mem {d : Nat → Bool} {k : Nat} {x : Int} (h : x ∈ outL d k) : ∃ i : Nat, x = (i : Int) - 15 ∧ 15 ≤ i ∧ i < k ∧ d i = true := by
  simp only [outL, List.mem_map, List.mem_filter, List.mem_range] at h
  obtain ⟨i, ⟨hi, hp⟩, rfl⟩ := h
  simp only [outP, Bool.and_eq_true, decide_eq_true_eq] at hp
  exact ⟨i, rfl, hp.1, hi, hp.2.2⟩
theorem out_asc (d : Nat → Bool) : ∀ k, (outL d k).Pairwise (· < ·)
  | 0 => List.Pairwise.nil
  | k + 1 => by
    cases h : outP d k
    · rw [outL_no h]; exact out_asc d k
    · rw [outL_yes h, List.pairwise_append]
      refine ⟨out_asc d k, List.pairwise_singleton _ _, fun a ha b hb => ?_⟩
      obtain ⟨i, rfl, _, hi, _⟩ := out_mem ha
      rw [List.mem_singleton.1 hb]; omega
theorem open_none {d : Nat → Bool} (h : d 0 = false) : ∀ i, 0 < i → i < 31 → opn d i = false := by
  have : ∀ n i, i ≤ n → 0 < i → i < 31 → opn d i = false := by
    intro n
    induction n with
    | zero => intro i h1 h2 h3; omega
    | succ n ih =>
      intro i h1 h2 h3
      rw [opn_up d h2 h3]
      rcases Nat.eq_zero_or_pos ((i - 1) / 2) with e | e
      · rw [e, h, Bool.and_false]
      · rw [ih _ (by omega) e (by omega), Bool.false_and]
  intro i h1 h2
  exact this i i (Nat.le_refl _) h1 h2
theorem root_same {d : Nat → Bool} (h : d 0 = false) : outL d 31 = [] ∧ cnt (opn d) 31 = 1 := by
  constructor
  · apply List.eq_nil_of_length_eq_zero
    rw [outL_len]
    exact cnt_none 31 (fun i hi => by
      rcases Nat.eq_zero_or_pos i with e | e
      · subst e; rfl
      · simp [outP, open_none h i e hi])
  · have : cnt (opn d) 31 = cnt (fun i => decide (i = 0)) 31 := cnt_congr 31 (fun i hi => by
      rcases Nat.eq_zero_or_pos i with e | e
      · subst e; rfl
      · rw [open_none h i e hi]; simp; omega)
    rw [this]; decide
theorem cells31 {w : World} {u : Nat} {M : List Int} (hl : M.length = 31) (hi : IntsAt w (some ⟨u, 0, none⟩) M) : ∀ i, i < 31 → w.cell? ⟨u, i, none⟩ = some (.int .i64 (gt M i)) := by
  intro i h
  rcases hi with h0 | ⟨b, off, ha, hb, hc⟩
  · rw [h0] at hl; simp at hl
  · injection ha with ha; injection ha with ha ho; subst ha ho
    have := hc i (by omega)
    rwa [Nat.zero_add] at this

set_option maxHeartbeats 4000000 in
theorem differSame (s : Option Addr) (len cap : Nat) (z : List Int) (w : World) (h : RowIn .u8 w s len cap z) :
    Calls Try.prog 9 #[.slice s len cap] w fun e w' => e = .returned (.bool true) ∧ Below w.heap.size w w' := by
  have hb := bytes_of_row h
  have hm : len ≤ maxLen := Nat.le_trans hb.1 hb.2.1
  unfold maxLen at hm
  clear h
  by_cases hllen : 1048576 < len
  · have hlB : decide ((1048576 : Int) < (len : Int)) = true := by simp; omega
    go_enter Try.func9, Try.ntmps9
    go_wp2
    go_ret
    exact ⟨rfl, Below.refl _ _⟩
  have hlB : decide ((1048576 : Int) < (len : Int)) = false := by simp; omega
  go_enter Try.func9, Try.ntmps9
  go_wp2_with fail
  refine (drawSumsDiffer s len cap w hb).mono ?_
  rintro e w1 ⟨g, c, xs, g', c', ys, rfl, hi1, hl1, hlc1, hj1, hl1', hlc1', hB1⟩
  have HI1 := Lib.hid hi1.ints
  have HJ1 := Lib.hid hj1.ints
  have HM : Hid (xs.length ≤ maxLen) := by show _ ≤ _; unfold maxLen; omega
  have HM' : Hid (ys.length ≤ maxLen) := by show _ ≤ _; unfold maxLen; omega
  have HC := Lib.hid hlc1
  have HC' := Lib.hid hlc1'
  obtain ⟨L, hL⟩ : ∃ L, dfL xs ys = L := ⟨_, rfl⟩
  obtain ⟨N, hN⟩ : ∃ N, dfN xs ys = N := ⟨_, rfl⟩
  have hLm : L.length ≤ 31 := by rw [← hL]; exact dfL_le xs ys
  have HL := Lib.hid hL
  have HN := Lib.hid hN
  clear hi1 hj1 hL hN hb
  go_wp2_with fail
  refine (differ_as _ _ _ _ _ _ xs ys w1 L L.length N HI1.out rfl HM.out HC.out HJ1.out rfl HM'.out HC'.out HL.out rfl HN.out).mono ?_
  rintro e w2 ⟨g2, c2, rfl, ho2, hc2, hb2⟩
  have hB2 : Below w.heap.size w w2 := hB1.trans (hb2.mono hB1.size)
  have HI2 := Lib.hid (HI1.out.keepB hb2 (Nat.le_refl _))
  have HJ2 := Lib.hid (HJ1.out.keepB hb2 (Nat.le_refl _))
  have HO2 := Lib.hid ho2
  clear ho2 hb2
  go_wp2_with fail
  refine (sdiffer_as _ _ _ _ _ _ xs ys w2 L L.length N HI2.out rfl HM.out HC.out HJ2.out rfl HM'.out HC'.out HL.out rfl HN.out).mono ?_
  rintro e w3 ⟨g3, c3, rfl, ho3, hc3, hb3⟩
  have hB3 : Below w.heap.size w w3 := hB2.trans (hb3.mono hB2.size)
  have HI3 := Lib.hid (HI2.out.keepB hb3 (Nat.le_refl _))
  have HJ3 := Lib.hid (HJ2.out.keepB hb3 (Nat.le_refl _))
  have HO3 := Lib.hid (HO2.out.keepB hb3 (Nat.le_refl _))
  have HP3 := Lib.hid ho3
  have hnn : (N != N) = false := by simp
  have hnn2 : (N == N) = true := by simp
  clear ho3 hb3 hB1 hB2
  go_wp2_with fail
  refine (sameI_any _ _ _ _ _ L w3 HO3.out HP3.out rfl (by omega)).mono ?_
  rintro e w4 ⟨rfl, hs4⟩
  have hB4 : Below w.heap.size w w4 := hB3.trans (hs4.below _)
  have HO4 := Lib.hid (HO3.out.same hs4)
  have HP4 := Lib.hid (HP3.out.same hs4)
  have HI4 := Lib.hid (HI3.out.same hs4)
  have HJ4 := Lib.hid (HJ3.out.same hs4)
  clear hs4 hB3
  rcases bcase (dfB xs ys) with hd | hd
  case inr =>
    have hN : N = -1 := by rw [← HN.out]; unfold dfN; rw [hd]; rfl
    have hneg : N < 0 := by omega
    clear hN
    go_wp2_with fail
    refine (sameI_any _ _ _ _ _ L w4 HO4.out HP4.out rfl (by omega)).mono ?_
    rintro e w5 ⟨rfl, hs5⟩
    go_wp2
    go_ret
    exact ⟨rfl, hB4.trans (hs5.below _)⟩
  have hx := (dfB_yes hd).1
  have hy := (dfB_yes hd).2
  have HX31 : Hid (xs.length = 31) := (treeB_yes hx).1
  have HY31 : Hid (ys.length = 31) := (treeB_yes hy).1
  have HXT := Lib.hid hx
  have HYT := Lib.hid hy
  have hNe : N = ((cnt (opn (dff xs ys)) 31 : Nat) : Int) := by rw [← HN.out]; unfold dfN; rw [hd]; rfl
  have hLe : L = outL (dff xs ys) 31 := by rw [← HL.out]; unfold dfL; rw [hd]; rfl
  have hpos : 0 ≤ N := by omega
  have HNE := Lib.hid hNe
  have HLE := Lib.hid hLe
  have hc31 : 31 ≤ c := by have := HX31.out; omega
  have hc31' : 31 ≤ c' := by have := HY31.out; omega
  clear hd hx hy hNe hLe
  obtain ⟨hl1, hn1⟩ := df_comm xs ys
  obtain ⟨hl2, hn2⟩ := df_self HXT.out
  have HL1 : Hid (dfL ys xs = L) := hl1.trans HL.out
  have HN1 : Hid (dfN ys xs = N) := hn1.trans HN.out
  have HL2 := Lib.hid hl2
  have HN2 := Lib.hid hn2
  clear hl1 hn1 hl2 hn2
  go_wp2_with fail
  refine (differ_as _ _ _ _ _ _ ys xs w4 L L.length N HJ4.out rfl HM'.out HC'.out HI4.out rfl HM.out HC.out HL1.out rfl HN1.out).mono ?_
  rintro e w5 ⟨g5, c5, rfl, ho5, hc5, hb5⟩
  have hB5 : Below w.heap.size w w5 := hB4.trans (hb5.mono hB4.size)
  have HI5 := Lib.hid (HI4.out.keepB hb5 (Nat.le_refl _))
  have HO5 := Lib.hid (HO4.out.keepB hb5 (Nat.le_refl _))
  have HQ5 := Lib.hid ho5
  clear ho5 hb5
  go_wp2_with fail
  refine (differ_as _ _ _ _ _ _ xs xs w5 [] 0 1 HI5.out rfl HM.out HC.out HI5.out rfl HM.out HC.out HL2.out rfl HN2.out).mono ?_
  rintro e w6 ⟨g6, c6, rfl, ho6, hc6, hb6⟩
  have hB6 : Below w.heap.size w w6 := hB5.trans (hb6.mono hB5.size)
  have HO6 := Lib.hid (HO5.out.keepB hb6 (Nat.le_refl _))
  have HQ6 := Lib.hid (HQ5.out.keepB hb6 (Nat.le_refl _))
  clear ho6 hb6
  go_wp2_with fail
  refine (sameI_any _ _ _ _ _ L w6 HQ6.out HO6.out rfl (by omega)).mono ?_
  rintro e w7 ⟨rfl, hs7⟩
  go_wp2
  go_ret
  exact ⟨rfl, hB6.trans (hs7.below _)⟩

set_option maxHeartbeats 4000000 in
theorem differOne (s : Option Addr) (len cap : Nat) (z : List Int) (s2 : Option Addr) (len2 cap2 : Nat) (z2 : List Int) (w : World) (h : RowIn .u8 w s len cap z) (h2 : RowIn .u8 w s2 len2 cap2 z2) :
    Calls Try.prog 8 #[.slice s len cap, .slice s2 len2 cap2] w fun e w' => e = .returned (.bool true) ∧ Below w.heap.size w w' := by
  have hb := bytes_of_row h
  have hm : len ≤ maxLen := Nat.le_trans hb.1 hb.2.1
  unfold maxLen at hm
  clear h
  have hb2' := bytes_of_row h2
  have hm2 : len2 ≤ maxLen := Nat.le_trans hb2'.1 hb2'.2.1
  unfold maxLen at hm2
  clear h2 hb2'
  by_cases hllen : 1048576 < len
  · have hlB : decide ((1048576 : Int) < (len : Int)) = true := by simp; omega
    go_enter Try.func8, Try.ntmps8
    go_wp2
    go_ret
    exact ⟨rfl, Below.refl _ _⟩
  have hlB : decide ((1048576 : Int) < (len : Int)) = false := by simp; omega
  by_cases hllen2 : 1048576 < len2
  · have hlB2 : decide ((1048576 : Int) < (len2 : Int)) = true := by simp; omega
    go_enter Try.func8, Try.ntmps8
    go_wp2
    go_ret
    exact ⟨rfl, Below.refl _ _⟩
  have hlB2 : decide ((1048576 : Int) < (len2 : Int)) = false := by simp; omega
  go_enter Try.func8, Try.ntmps8
  go_wp2_with fail
  refine (drawSumsDiffer s len cap w hb).mono ?_
  rintro e w1 ⟨g, c, xs, g', c', ys, rfl, hi1, hl1, hlc1, hj1, hl1', hlc1', hB1⟩
  have HI1 := Lib.hid hi1.ints
  have HJ1 := Lib.hid hj1.ints
  have HM : Hid (xs.length ≤ maxLen) := by show _ ≤ _; unfold maxLen; omega
  have HM' : Hid (ys.length ≤ maxLen) := by show _ ≤ _; unfold maxLen; omega
  have HC := Lib.hid hlc1
  have HC' := Lib.hid hlc1'
  obtain ⟨L, hL⟩ : ∃ L, dfL xs ys = L := ⟨_, rfl⟩
  obtain ⟨N, hN⟩ : ∃ N, dfN xs ys = N := ⟨_, rfl⟩
  have hLm : L.length ≤ 31 := by rw [← hL]; exact dfL_le xs ys
  have HL := Lib.hid hL
  have HN := Lib.hid hN
  clear hi1 hj1 hL hN hb
  go_wp2_with fail
  refine (differ_as _ _ _ _ _ _ xs ys w1 L L.length N HI1.out rfl HM.out HC.out HJ1.out rfl HM'.out HC'.out HL.out rfl HN.out).mono ?_
  rintro e w2 ⟨g2, c2, rfl, ho2, hc2, hb2⟩
  have hB2 : Below w.heap.size w w2 := hB1.trans (hb2.mono hB1.size)
  have HI2 := Lib.hid (HI1.out.keepB hb2 (Nat.le_refl _))
  have HJ2 := Lib.hid (HJ1.out.keepB hb2 (Nat.le_refl _))
  have HO2 := Lib.hid ho2
  clear ho2 hb2
  go_wp2_with fail
  refine (sdiffer_as _ _ _ _ _ _ xs ys w2 L L.length N HI2.out rfl HM.out HC.out HJ2.out rfl HM'.out HC'.out HL.out rfl HN.out).mono ?_
  rintro e w3 ⟨g3, c3, rfl, ho3, hc3, hb3⟩
  have hB3 : Below w.heap.size w w3 := hB2.trans (hb3.mono hB2.size)
  have HI3 := Lib.hid (HI2.out.keepB hb3 (Nat.le_refl _))
  have HJ3 := Lib.hid (HJ2.out.keepB hb3 (Nat.le_refl _))
  have HO3 := Lib.hid (HO2.out.keepB hb3 (Nat.le_refl _))
  have HP3 := Lib.hid ho3
  have hnn : (N != N) = false := by simp
  have hnn2 : (N == N) = true := by simp
  clear ho3 hb3 hB1 hB2
  go_wp2_with fail
  refine (sameI_any _ _ _ _ _ L w3 HO3.out HP3.out rfl (by omega)).mono ?_
  rintro e w4 ⟨rfl, hs4⟩
  have hB4 : Below w.heap.size w w4 := hB3.trans (hs4.below _)
  have HO4 := Lib.hid (HO3.out.same hs4)
  have HP4 := Lib.hid (HP3.out.same hs4)
  have HI4 := Lib.hid (HI3.out.same hs4)
  have HJ4 := Lib.hid (HJ3.out.same hs4)
  clear hs4 hB3
  rcases bcase (dfB xs ys) with hd | hd
  case inr =>
    have hN : N = -1 := by rw [← HN.out]; unfold dfN; rw [hd]; rfl
    have hneg : N < 0 := by omega
    clear hN
    go_wp2_with fail
    refine (sameI_any _ _ _ _ _ L w4 HO4.out HP4.out rfl (by omega)).mono ?_
    rintro e w5 ⟨rfl, hs5⟩
    go_wp2
    go_ret
    exact ⟨rfl, hB4.trans (hs5.below _)⟩
  have hx := (dfB_yes hd).1
  have hy := (dfB_yes hd).2
  have HX31 : Hid (xs.length = 31) := (treeB_yes hx).1
  have HY31 : Hid (ys.length = 31) := (treeB_yes hy).1
  have HXT := Lib.hid hx
  have HYT := Lib.hid hy
  have hNe : N = ((cnt (opn (dff xs ys)) 31 : Nat) : Int) := by rw [← HN.out]; unfold dfN; rw [hd]; rfl
  have hLe : L = outL (dff xs ys) 31 := by rw [← HL.out]; unfold dfL; rw [hd]; rfl
  have hpos : 0 ≤ N := by omega
  have HNE := Lib.hid hNe
  have HLE := Lib.hid hLe
  have hc31 : 31 ≤ c := by have := HX31.out; omega
  have hc31' : 31 ≤ c' := by have := HY31.out; omega
  clear hd hx hy hNe hLe
  obtain ⟨j, hj⟩ : ∃ j, j = len2 % 16 := ⟨_, rfl⟩
  have hj16 : j < 16 := by omega
  have hmod1 : (len2 : Int).tmod 16 = (j : Int) := by rw [Int.tmod_eq_emod_of_nonneg (by omega)]; omega
  have hmod2 : (len2 : Int) % 16 = (j : Int) := by omega
  obtain ⟨x, hx⟩ : ∃ x, x = gt xs (15 + j) := ⟨_, rfl⟩
  have hsx := (sB_iff _).1 (all_gt (treeB_all HXT.out) (15 + j) (by rw [HX31.out]; omega))
  rw [← hx] at hsx
  obtain ⟨hx0, hx1⟩ := hsx
  obtain ⟨v, hv⟩ : ∃ v, v = (x + 1) % 991 := ⟨_, rfl⟩
  have hv1 : (x + 1).tmod 991 = v := by rw [Int.tmod_eq_emod_of_nonneg (by omega), hv]
  have hv2 : (x + 1) % 991 = v := hv.symm
  have hne : v ≠ gt xs (15 + j) := by rw [← hx]; omega
  have hsv : sB v = true := (sB_iff _).2 ⟨by omega, by omega⟩
  obtain ⟨M, hM⟩ : ∃ M, sumsSetL xs j v = M := ⟨_, rfl⟩
  have hM' : M = bld ((xs.drop 15).set j v) := by rw [← hM, sumsSetL_yes HXT.out hj16 hsv]
  have HM31 : Hid (M.length = 31) := by show _ = _; rw [hM', bld_len]
  obtain ⟨hd1, hd2⟩ := df_one HXT.out hj16 hsv hne
  rw [← hM'] at hd1 hd2
  have HME := Lib.hid hM
  have HD1 := Lib.hid hd1
  have HD2 := Lib.hid hd2
  have hcx : w4.cell? ⟨g, 15 + j, none⟩ = some (.int .i64 x) := by rw [hx]; exact cells31 HX31.out HI4.out (15 + j) (by omega)
  have hj16' : (j : Int) < 16 := by omega
  have hx31 := HX31.out
  have HC31 := Lib.hid hc31
  rw [hx31]
  clear hj hx hv hne hsv hM hM' hd1 hd2 hx31 hc31
  go_wp2_with fail
  refine (sumsset_as _ _ _ xs j v w4 M 31 HI4.out HX31.out (by unfold maxLen; omega) HC31.out HME.out HM31.out).mono ?_
  rintro e w5 ⟨g5, c5, rfl, ho5, hc5, hb5⟩
  have hB5 : Below w.heap.size w w5 := hB4.trans (hb5.mono hB4.size)
  have HI5 := Lib.hid (HI4.out.keepB hb5 (Nat.le_refl _))
  have HO5 := Lib.hid ho5
  clear ho5 hb5 hcx
  go_wp2_with fail
  refine (differ_as _ _ _ _ _ _ xs M w5 [(j : Int)] 1 9 HI5.out HX31.out (by unfold maxLen; omega) HC31.out HO5.out HM31.out (by unfold maxLen; omega) hc5 HD1.out rfl HD2.out).mono ?_
  rintro e w6 ⟨g6, c6, rfl, ho6, hc6, hb6⟩
  have hB6 : Below w.heap.size w w6 := hB5.trans (hb6.mono hB5.size)
  have HO6 := Lib.hid ho6
  clear ho6 hb6
  go_wp2_with fail
  have hone : IntsAt (w6.alloc (.cells #[.int .i64 (j : Int)] 3)) (some ⟨w6.heap.size, 0, none⟩) [(j : Int)] := by
    refine .inr ⟨w6.heap.size, 0, rfl, by simp, fun i hi => ?_⟩
    obtain rfl : i = 0 := by simp at hi; exact hi
    rw [cell_of_cells (heap_alloc_new w6 _)]; rfl
  refine (sameI_any _ _ 1 _ _ [(j : Int)] _ (HO6.out.keepB ((Below.refl _ _).alloc (Nat.le_refl _) _) (Nat.le_refl _)) hone rfl (by omega)).mono ?_
  rintro e w7 ⟨rfl, hs7⟩
  go_wp2
  go_ret
  exact ⟨rfl, (hB6.alloc hB6.size _).trans (hs7.below _)⟩

end Go.Proofs.Ytkpfpnmokknbaaa
