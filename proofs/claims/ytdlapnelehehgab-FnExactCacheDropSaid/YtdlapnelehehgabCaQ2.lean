/- A heap of entries by time, through container/heap: sinking, taking the oldest. -/
import Derived.Test.YtdlapnelehehgabCaQ
import Derived.Test.YtdlapnelehehgabCaPM
namespace Go.Proofs.Ytdlapnelehehgab
open Go.RowKit
set_option linter.unusedVariables false
attribute [local go_sem ↓] Go.wp_at_zero Go.wp_at_succ

theorem aggX (w : World) : (isAgg 43).run Try.prog w = .ok false w := by kernel_rfl
theorem mLen (b : Nat) (w : World) (v : Value) (hc : w.cell? ⟨b, 0, none⟩ = some v) (n : Nat) : (method (n + 1) 54 (.pointer (some ⟨b, 0, none⟩)) "Len").run Try.prog w = .ok (87, v) w :=
  run_method_val (by kernel_rfl) Try.underlying54 aggX n _ w v hc
theorem mLess (b : Nat) (w : World) (v : Value) (hc : w.cell? ⟨b, 0, none⟩ = some v) (n : Nat) : (method (n + 1) 54 (.pointer (some ⟨b, 0, none⟩)) "Less").run Try.prog w = .ok (88, v) w :=
  run_method_val (by kernel_rfl) Try.underlying54 aggX n _ w v hc
theorem mSwap (b : Nat) (w : World) (v : Value) (hc : w.cell? ⟨b, 0, none⟩ = some v) (n : Nat) : (method (n + 1) 54 (.pointer (some ⟨b, 0, none⟩)) "Swap").run Try.prog w = .ok (89, v) w :=
  run_method_val (by kernel_rfl) Try.underlying54 aggX n _ w v hc
theorem mPop (b : Nat) (w : World) (n : Nat) : (method (n + 1) 54 (.pointer (some ⟨b, 0, none⟩)) "Pop").run Try.prog w = .ok (92, .pointer (some ⟨b, 0, none⟩)) w :=
  run_method_ptr (by kernel_rfl) Try.underlying54 n _ w
theorem nLen (b : Nat) (w : World) (n : Nat) : (nilAhead (n + 1) 54 (.pointer (some ⟨b, 0, none⟩)) "Len").run Try.prog w = .ok (some false) w :=
  run_nil_ahead (p := false) (f := 87) (by kernel_rfl) Try.underlying54 n _ w
theorem nLess (b : Nat) (w : World) (n : Nat) : (nilAhead (n + 1) 54 (.pointer (some ⟨b, 0, none⟩)) "Less").run Try.prog w = .ok (some false) w :=
  run_nil_ahead (p := false) (f := 88) (by kernel_rfl) Try.underlying54 n _ w
theorem nSwap (b : Nat) (w : World) (n : Nat) : (nilAhead (n + 1) 54 (.pointer (some ⟨b, 0, none⟩)) "Swap").run Try.prog w = .ok (some false) w :=
  run_nil_ahead (p := false) (f := 89) (by kernel_rfl) Try.underlying54 n _ w
theorem nPop (b : Nat) (w : World) (n : Nat) : (nilAhead (n + 1) 54 (.pointer (some ⟨b, 0, none⟩)) "Pop").run Try.prog w = .ok (some false) w :=
  run_nil_ahead (p := true) (f := 92) (by kernel_rfl) Try.underlying54 n _ w

theorem mPush (b : Nat) (w : World) (n : Nat) : (method (n + 1) 54 (.pointer (some ⟨b, 0, none⟩)) "Push").run Try.prog w = .ok (93, .pointer (some ⟨b, 0, none⟩)) w :=
  run_method_ptr (by kernel_rfl) Try.underlying54 n _ w
theorem nPush (b : Nat) (w : World) (n : Nat) : (nilAhead (n + 1) 54 (.pointer (some ⟨b, 0, none⟩)) "Push").run Try.prog w = .ok (some false) w :=
  run_nil_ahead (p := true) (f := 93) (by kernel_rfl) Try.underlying54 n _ w

/-- the heap's variable in block hb, its elements in block g; n of them count -/
structure HpAt (w : World) (hb base g c n : Nat) (L : List Ls) : Prop where
  var : w.heap[hb]? = some (.cells #[.slice (some ⟨g, 0, none⟩) n c] 43 (0, 0))
  row : OwnS w base g c L
  len : n ≤ L.length
  ne : hb ≠ g
theorem HpAt.cell {w : World} {hb base g c n : Nat} {L : List Ls} (h : HpAt w hb base g c n L) : w.cell? ⟨hb, 0, none⟩ = some (.slice (some ⟨g, 0, none⟩) n c) := by rw [cell_of_cells h.var]; rfl
theorem HpAt.keepB {w w' : World} {hb base g c n : Nat} {L : List Ls} (h : HpAt w hb base g c n L) (hk : Below w.heap.size w w') : HpAt w' hb base g c n L :=
  ⟨(hk.block hb (heap_lt h.var)).trans h.var, h.row.keepB hk (Nat.le_refl _), h.len, h.ne⟩
theorem HpAt.put {w w' : World} {hb base g c n : Nat} {L L' : List Ls} (h : HpAt w hb base g c n L) (hk : Kept g w w') (ho : OwnS w' base g c L') (hl : L'.length = L.length) : HpAt w' hb base g c n L' :=
  ⟨(hk.block hb h.ne).trans h.var, ho, by rw [hl]; exact h.len, h.ne⟩
theorem grown_bel {a b c : World} {q : Nat} (h : a.grownBy b (some q)) (hb : Below b.heap.size b c) : a.grownBy c (some q) :=
  grown_trans h ⟨hb.os, hb.tape, hb.output, hb.size, fun k hk _ => hb.block k hk⟩
theorem grown_refl (w : World) (q : Option Nat) : w.grownBy w q := ⟨rfl, rfl, rfl, Nat.le_refl _, fun _ _ _ => rfl⟩
/-- what sinking leaves -/
def SunkPost (hb base g c n n' k : Nat) (L : List Ls) (w : World) (w' : World) : Prop :=
  ∃ L', HpAt w' hb base g c n L' ∧ L'.length = L.length ∧ Heap.Is leB (gl L') n' k ∧ (Heap.toL (gl L') n').Perm (Heap.toL (gl L) n') ∧ (∀ i, n' ≤ i → gl L' i = gl L i) ∧ w.grownBy w' (some g)
/-- .. at the head of the loop -/
def SinkAt (hb base g c n n' k : Nat) (L : List Ls) (w : World) (x : Nat) (wr : World) : Prop :=
  ∃ L', k ≤ x ∧ HpAt wr hb base g c n L' ∧ L'.length = L.length ∧ Heap.Hole leB (gl L') n' k x ∧ (Heap.toL (gl L') n').Perm (Heap.toL (gl L) n') ∧ (∀ i, n' ≤ i → gl L' i = gl L i) ∧ w.grownBy wr (some g)

set_option maxRecDepth 20000 in
set_option maxHeartbeats 4000000 in
theorem down_any (hb base g c n n' k x : Nat) (L : List Ls) (w : World) (h : HpAt w hb base g c n L) (hn' : n' ≤ n) (hkx : k ≤ x) (hx : x ≤ 1000000) (hbd : n' ≤ 1000000) (hole : Heap.Hole leB (gl L) n' k x) :
    Calls Try.prog 46 #[.iface 54 (.pointer (some ⟨hb, 0, none⟩)), .int .i64 x, .int .i64 n'] w fun e w' => (∃ b : Bool, e = .returned (.bool b)) ∧ SunkPost hb base g c n n' k L w w' := by
  have H0 : Hid (SinkAt hb base g c n n' k L w x w) := ⟨L, hkx, h, rfl, hole, List.Perm.refl _, fun _ _ => rfl, grown_refl _ _⟩
  have nl : ∀ (n : Nat) (w : World), (nilAhead (n + 1) 54 (.pointer (some ⟨hb, 0, none⟩)) "Less").run Try.prog w = .ok (some false) w := fun n w => nLess hb w n
  have ns : ∀ (n : Nat) (w : World), (nilAhead (n + 1) 54 (.pointer (some ⟨hb, 0, none⟩)) "Swap").run Try.prog w = .ok (some false) w := fun n w => nSwap hb w n
  clear h hole
  go_enter Try.func46, Try.ntmps46
  go_wp2
  go_loopw [7, 8, 9, 10] (fun i _ _ _ wr => ∃ y : Nat, y ≤ 1000000 ∧ i = .int .i64 y ∧ SinkAt hb base g c n n' k L w y wr) (fun i _ _ _ _ => n' - (intOf i).toNat)
  case atStart => exact ⟨x, hx, rfl, H0.out⟩
  case round =>
    obtain ⟨y, hy, rfl, M, hky, hp, hl, hho, hpm, hot, hbel⟩ := hrel
    have HP := Lib.hid hp
    have HL := Lib.hid hl
    have HH := Lib.hid hho
    have HM := Lib.hid hpm
    have HT := Lib.hid hot
    have hlen := hp.len
    have hgs := hp.row.blk.2.1
    clear hp hl hho hpm hot
    by_cases hlf : n' ≤ 2 * y + 1
    · have HR : Hid (SunkPost hb base g c n n' k L w wr) := ⟨M, HP.out, HL.out, HH.out.leaf hlf, HM.out, HT.out, hbel⟩
      have q1 : (n' : Int) ≤ 2 * (y : Int) + 1 := by omega
      go_wp2
      go_ret
      exact ⟨⟨_, rfl⟩, HR.out⟩
    · obtain ⟨j, hj, hjn⟩ : ∃ j : Nat, 2 * (y : Int) + 1 = (j : Int) ∧ j = 2 * y + 1 := ⟨2 * y + 1, by omega, rfl⟩
      have HJN := Lib.hid hjn
      have hyj : y < j := by omega
      have hjl : j < n' := by omega
      have hjb : j ≤ 1000000 := by omega
      have q1 : ¬ (n' : Int) ≤ (j : Int) := by omega
      have q2 : ¬ ((j : Int) < 0) := by omega
      have HBEL := Lib.hid hbel
      clear hjn hbel
      by_cases h2 : j + 1 < n'
      · obtain ⟨j2, hj2, hj2n⟩ : ∃ j2 : Nat, (j : Int) + 1 = (j2 : Int) ∧ j2 = j + 1 := ⟨j + 1, by omega, rfl⟩
        have HJ2 := Lib.hid hj2n
        have hj2l : j2 < n' := by omega
        have hyj2 : y < j2 := by omega
        have hj2b : j2 ≤ 1000000 := by omega
        have q3 : (j2 : Int) < (n' : Int) := by omega
        have m1 := fun q => mLess hb wr _ HP.out.cell q
        clear hj2n h2
        go_wp2_with fail
        refine (less_any base g n c M j2 j wr HP.out.row HP.out.len (by omega) (by omega)).mono ?_
        rintro e w2 ⟨rfl, hb2⟩
        have HP2 := Lib.hid (HP.out.keepB hb2)
        have HB2 := Lib.hid (grown_bel HBEL.out hb2)
        clear hb2 m1
        cases hv1 : lsB (gl M j2) (gl M j)
        · have hjj : j = 2 * y + 1 ∨ j = 2 * y + 2 := .inl HJN.out
          have HMIN : Hid (∀ i, (i = 2 * y + 1 ∨ i = 2 * y + 2) → i < n' → leB (gl M j) (gl M i)) := fun i hi _ => by
            rcases hi with hi | hi
            · rw [show i = j by have := HJN.out; omega]; exact leB_refl _
            · rw [show i = j2 by have h1 := HJN.out; have h2 := HJ2.out; omega]; exact hv1
          clear hv1
          have m2 := fun q => mLess hb w2 _ HP2.out.cell q
          go_wp2_with fail
          refine (less_any base g n c M j y w2 HP2.out.row HP2.out.len (by omega) (by omega)).mono ?_
          rintro e w3 ⟨rfl, hb3⟩
          have HP3 := Lib.hid (HP2.out.keepB hb3)
          have HB3 := Lib.hid (grown_bel HB2.out hb3)
          clear hb3 m2
          cases hv : lsB (gl M j) (gl M y)
          · have HR : Hid (SunkPost hb base g c n n' k L w w3) := ⟨M, HP3.out, HL.out, HH.out.ok (fun i hi hin => leB_trans _ _ _ hv (HMIN.out i hi hin)), HM.out, HT.out, HB3.out⟩
            clear hv
            go_wp2
            go_ret
            exact ⟨⟨_, rfl⟩, HR.out⟩
          · have HV := Lib.hid (leB_of _ _ hv)
            have m3 := fun q => mSwap hb w3 _ HP3.out.cell q
            clear hv
            go_wp2_with fail
            refine (swap_any base g n c M y j w3 HP3.out.row HP3.out.len (by omega) (by omega)).mono ?_
            rintro e w4 ⟨rfl, ho4, hk4⟩
            have hf : gl (xchL M y j) = Heap.sw (gl M) y j := funext fun i => xchL_gl (by omega) (by omega) i
            have HS : Hid (SinkAt hb base g c n n' k L w j w4) := ⟨xchL M y j, by omega, HP3.out.put hk4 ho4 (xchL_len _ _ _), (xchL_len _ _ _).trans HL.out, by rw [hf]; exact HH.out.step hky hjj (by omega) HMIN.out HV.out, by rw [hf]; exact (Heap.sw_perm _ (by omega) (by omega)).trans HM.out, fun i hi => by rw [hf, Heap.sw_o _ (by omega) (by omega)]; exact HT.out i hi, grown_trans HB3.out hk4.grown⟩
            clear hf ho4 hk4 m3
            go_wp2
            go_roundw
            case rel => exact ⟨j, by omega, rfl, HS.out⟩
            case measure => simp [intOf]; omega
        · have hjj : j2 = 2 * y + 1 ∨ j2 = 2 * y + 2 := .inr (by have h1 := HJN.out; have h2 := HJ2.out; omega)
          have HMIN : Hid (∀ i, (i = 2 * y + 1 ∨ i = 2 * y + 2) → i < n' → leB (gl M j2) (gl M i)) := fun i hi _ => by
            rcases hi with hi | hi
            · rw [show i = j by have := HJN.out; omega]; exact leB_of _ _ hv1
            · rw [show i = j2 by have h1 := HJN.out; have h2 := HJ2.out; omega]; exact leB_refl _
          clear hv1
          have m2 := fun q => mLess hb w2 _ HP2.out.cell q
          go_wp2_with fail
          refine (less_any base g n c M j2 y w2 HP2.out.row HP2.out.len (by omega) (by omega)).mono ?_
          rintro e w3 ⟨rfl, hb3⟩
          have HP3 := Lib.hid (HP2.out.keepB hb3)
          have HB3 := Lib.hid (grown_bel HB2.out hb3)
          clear hb3 m2
          cases hv : lsB (gl M j2) (gl M y)
          · have HR : Hid (SunkPost hb base g c n n' k L w w3) := ⟨M, HP3.out, HL.out, HH.out.ok (fun i hi hin => leB_trans _ _ _ hv (HMIN.out i hi hin)), HM.out, HT.out, HB3.out⟩
            clear hv
            go_wp2
            go_ret
            exact ⟨⟨_, rfl⟩, HR.out⟩
          · have HV := Lib.hid (leB_of _ _ hv)
            have m3 := fun q => mSwap hb w3 _ HP3.out.cell q
            clear hv
            go_wp2_with fail
            refine (swap_any base g n c M y j2 w3 HP3.out.row HP3.out.len (by omega) (by omega)).mono ?_
            rintro e w4 ⟨rfl, ho4, hk4⟩
            have hf : gl (xchL M y j2) = Heap.sw (gl M) y j2 := funext fun i => xchL_gl (by omega) (by omega) i
            have HS : Hid (SinkAt hb base g c n n' k L w j2 w4) := ⟨xchL M y j2, by omega, HP3.out.put hk4 ho4 (xchL_len _ _ _), (xchL_len _ _ _).trans HL.out, by rw [hf]; exact HH.out.step hky hjj (by omega) HMIN.out HV.out, by rw [hf]; exact (Heap.sw_perm _ (by omega) (by omega)).trans HM.out, fun i hi => by rw [hf, Heap.sw_o _ (by omega) (by omega)]; exact HT.out i hi, grown_trans HB3.out hk4.grown⟩
            clear hf ho4 hk4 m3
            go_wp2
            go_roundw
            case rel => exact ⟨j2, by omega, rfl, HS.out⟩
            case measure => simp [intOf]; omega
      · have q3 : ¬ ((j : Int) + 1 < (n' : Int)) := by omega
        have hjj : j = 2 * y + 1 ∨ j = 2 * y + 2 := .inl HJN.out
        have HMIN : Hid (∀ i, (i = 2 * y + 1 ∨ i = 2 * y + 2) → i < n' → leB (gl M j) (gl M i)) := fun i hi hin => by
          rw [show i = j by have := HJN.out; omega]; exact leB_refl _
        clear h2
        have m2 := fun q => mLess hb wr _ HP.out.cell q
        go_wp2_with fail
        refine (less_any base g n c M j y wr HP.out.row HP.out.len (by omega) (by omega)).mono ?_
        rintro e w3 ⟨rfl, hb3⟩
        have HP3 := Lib.hid (HP.out.keepB hb3)
        have HB3 := Lib.hid (grown_bel HBEL.out hb3)
        clear hb3 m2
        cases hv : lsB (gl M j) (gl M y)
        · have HR : Hid (SunkPost hb base g c n n' k L w w3) := ⟨M, HP3.out, HL.out, HH.out.ok (fun i hi hin => leB_trans _ _ _ hv (HMIN.out i hi hin)), HM.out, HT.out, HB3.out⟩
          clear hv
          go_wp2
          go_ret
          exact ⟨⟨_, rfl⟩, HR.out⟩
        · have HV := Lib.hid (leB_of _ _ hv)
          have m3 := fun q => mSwap hb w3 _ HP3.out.cell q
          clear hv
          go_wp2_with fail
          refine (swap_any base g n c M y j w3 HP3.out.row HP3.out.len (by omega) (by omega)).mono ?_
          rintro e w4 ⟨rfl, ho4, hk4⟩
          have hf : gl (xchL M y j) = Heap.sw (gl M) y j := funext fun i => xchL_gl (by omega) (by omega) i
          have HS : Hid (SinkAt hb base g c n n' k L w j w4) := ⟨xchL M y j, by omega, HP3.out.put hk4 ho4 (xchL_len _ _ _), (xchL_len _ _ _).trans HL.out, by rw [hf]; exact HH.out.step hky hjj (by omega) HMIN.out HV.out, by rw [hf]; exact (Heap.sw_perm _ (by omega) (by omega)).trans HM.out, fun i hi => by rw [hf, Heap.sw_o _ (by omega) (by omega)]; exact HT.out i hi, grown_trans HB3.out hk4.grown⟩
          clear hf ho4 hk4 m3
          go_wp2
          go_roundw
          case rel => exact ⟨j, by omega, rfl, HS.out⟩
          case measure => simp [intOf]; omega

set_option maxHeartbeats 400000 in
theorem hlen_any (a : Option Addr) (n c : Nat) (w : World) :
    Calls Try.prog 87 #[.slice a n c] w fun e w' => e = .returned (.int .i64 n) ∧ w = w' := by
  go_enter Try.func87, Try.ntmps87
  go_wp2
  go_ret
  exact ⟨rfl, rfl⟩

/-- two blocks may have turned -/
structure Grown2 (w w' : World) (g b : Nat) : Prop where
  os : w'.os = w.os
  tape : w'.tape = w.tape
  output : w'.output = w.output
  size : w.heap.size ≤ w'.heap.size
  block : ∀ k, k < w.heap.size → k ≠ g → k ≠ b → w'.heap[k]? = w.heap[k]?
theorem Grown2.of {w w' : World} {g b : Nat} (h : w.grownBy w' (some g)) : Grown2 w w' g b := ⟨h.os, h.tape, h.output, h.size, fun k hk h1 _ => h.block k hk (fun e => h1 (by injection e with e))⟩
theorem Grown2.of' {w w' : World} {g b : Nat} (h : w.grownBy w' (some b)) : Grown2 w w' g b := ⟨h.os, h.tape, h.output, h.size, fun k hk _ h2 => h.block k hk (fun e => h2 (by injection e with e))⟩
theorem Grown2.trans {u v w : World} {g b : Nat} (h : Grown2 u v g b) (k : Grown2 v w g b) : Grown2 u w g b :=
  ⟨k.os.trans h.os, k.tape.trans h.tape, k.output.trans h.output, Nat.le_trans h.size k.size, fun i hi h1 h2 => (k.block i (Nat.lt_of_lt_of_le hi h.size) h1 h2).trans (h.block i hi h1 h2)⟩
theorem Grown2.below {w w' : World} {g b B : Nat} (h : Grown2 w w' g b) (hg : B ≤ g) (hb : B ≤ b) (hB : B ≤ w.heap.size) : Below B w w' :=
  ⟨h.os, h.tape, h.output, h.size, fun k hk => h.block k (by omega) (by omega) (by omega)⟩

set_option maxRecDepth 20000 in
set_option maxHeartbeats 4000000 in
theorem last_any (hb base g c n : Nat) (L : List Ls) (w : World) (h : HpAt w hb base g c (n + 1) L) (hbd : n ≤ 1000000) :
    Calls Try.prog 92 #[.pointer (some ⟨hb, 0, none⟩)] w fun e w' => e = .returned (.iface 38 (lsV (gl L n))) ∧ HpAt w' hb base g c n L ∧ Grown2 w w' g hb := by
  have hc := h.cell
  have hl := h.len
  obtain ⟨x0, x1, x2⟩ := h.row.cells (i := n) (by omega)
  have hlt := heap_lt h.var
  have hgl := h.row.blk.2.1
  have hcap : n + 1 ≤ c := by obtain ⟨_, _, cs, _, h4, _⟩ := h.row.blk; omega
  have hcmx : c ≤ 9223372036854775807 := by obtain ⟨_, _, cs, _, _, h4, _⟩ := h.row.blk; unfold maxLen at h4; omega
  have fz := frozen_of_cells h.var 0
  have HP := Lib.hid h
  clear h
  go_enter Try.func92, Try.ntmps92
  go_wp2
  go_ret
  have hW : ∀ (u : Value) (o : Obj), ((w.setCell ⟨hb, 0, none⟩ u).alloc o).heap[hb]? = some (.cells #[u] 43 (0, 0)) := fun u o => by
    have h1 := heap_set w hb 0 u HP.out.var
    have h2 : (#[Value.slice (some ⟨g, 0, none⟩) (n + 1) c] : Array Value).setIfInBounds 0 u = #[u] := rfl
    rw [h2] at h1
    exact (Below.heap_alloc _ _ _ (heap_lt h1)).trans h1
  have hK : ∀ (u : Value) (o : Obj) k, k < w.heap.size → k ≠ hb → ((w.setCell ⟨hb, 0, none⟩ u).alloc o).heap[k]? = w.heap[k]? := fun u o k hk hne =>
    (Below.heap_alloc _ _ _ (by simp [World.setCell]; exact hk)).trans (heap_set_ne _ _ _ _ _ hne)
  refine ⟨rfl, ⟨hW _ _, HP.out.row.kept (hK _ _ g hgl (Ne.symm HP.out.ne)), by omega, HP.out.ne⟩, ⟨rfl, rfl, rfl, by simp [World.setCell], fun k hk _ h2 => hK _ _ k hk h2⟩⟩

/-- what taking the oldest leaves -/
def PopPost (hb base g c n : Nat) (L : List Ls) (w : World) (e : Ending) (w' : World) : Prop :=
  ∃ (x : Ls) (L' : List Ls), e = .returned (.iface 38 (lsV x)) ∧ HpAt w' hb base g c n L' ∧ L'.length = L.length ∧ Heap.Is leB (gl L') n 0 ∧ x = gl L 0 ∧ (x :: Heap.toL (gl L') n).Perm (Heap.toL (gl L) (n + 1)) ∧ Grown2 w w' g hb

set_option maxRecDepth 20000 in
set_option maxHeartbeats 4000000 in
theorem pop_any (hb base g c n : Nat) (L : List Ls) (w : World) (h : HpAt w hb base g c (n + 1) L) (hbd : n ≤ 1000000) (his : Heap.Is leB (gl L) (n + 1) 0) :
    Calls Try.prog 35 #[.iface 54 (.pointer (some ⟨hb, 0, none⟩))] w (PopPost hb base g c n L w) := by
  have n1 : ∀ (n : Nat) (w : World), (nilAhead (n + 1) 54 (.pointer (some ⟨hb, 0, none⟩)) "Len").run Try.prog w = .ok (some false) w := fun n w => nLen hb w n
  have n2 : ∀ (n : Nat) (w : World), (nilAhead (n + 1) 54 (.pointer (some ⟨hb, 0, none⟩)) "Swap").run Try.prog w = .ok (some false) w := fun n w => nSwap hb w n
  have n3 : ∀ (n : Nat) (w : World), (nilAhead (n + 1) 54 (.pointer (some ⟨hb, 0, none⟩)) "Pop").run Try.prog w = .ok (some false) w := fun n w => nPop hb w n
  have n4 : ∀ (n : Nat) (w : World), (method (n + 1) 54 (.pointer (some ⟨hb, 0, none⟩)) "Pop").run Try.prog w = .ok (92, .pointer (some ⟨hb, 0, none⟩)) w := fun n w => mPop hb w n
  have m1 := fun q => mLen hb w _ h.cell q
  have m2 := fun q => mSwap hb w _ h.cell q
  have hlen := h.len
  have HP := Lib.hid h
  have HI := Lib.hid his
  clear h his
  go_enter Try.func35, Try.ntmps35
  go_wp2_with fail
  refine (hlen_any _ (n + 1) c w).mono ?_
  rintro e w' ⟨rfl, rfl⟩
  go_wp2_with fail
  refine (swap_any base g (n + 1) c L 0 n w HP.out.row HP.out.len (by omega) (by omega)).mono ?_
  rintro e w2 ⟨rfl, ho2, hk2⟩
  have hf : gl (xchL L 0 n) = Heap.sw (gl L) 0 n := funext fun i => xchL_gl (by omega) (by omega) i
  have HP2 := Lib.hid (HP.out.put hk2 ho2 (xchL_len _ _ _))
  have HG2 := Lib.hid hk2.grown
  have HF := Lib.hid hf
  clear ho2 hk2 m1 m2 hf
  go_wp2_with fail
  refine (down_any hb base g c (n + 1) n 0 0 (xchL L 0 n) w2 HP2.out (by omega) (Nat.le_refl _) (by omega) hbd (by rw [HF.out]; exact Heap.Hole.of_pop HI.out)).mono ?_
  rintro e w3 ⟨⟨b, rfl⟩, M, h1, h2, h3, h4, h5, h6⟩
  have HP3 := Lib.hid h1
  have HL3 := Lib.hid (h2.trans (xchL_len _ _ _))
  have HI3 := Lib.hid h3
  have HN3 : Hid (gl M n = gl L 0) := by show _ = _; rw [h5 n (Nat.le_refl _), HF.out, Heap.sw_r]
  have HM3 : Hid ((gl L 0 :: Heap.toL (gl M) n).Perm (Heap.toL (gl L) (n + 1))) := by
    have e1 : (Heap.toL (gl M) (n + 1)).Perm (Heap.toL (Heap.sw (gl L) 0 n) (n + 1)) := by
      rw [Heap.toL_s, Heap.toL_s, h5 n (Nat.le_refl _), HF.out]
      rw [HF.out] at h4
      exact List.Perm.append_right _ h4
    have e2 : (gl L 0 :: Heap.toL (gl M) n).Perm (Heap.toL (gl M) (n + 1)) := by
      rw [Heap.toL_s, HN3.out]
      exact (List.perm_append_singleton _ _).symm
    exact e2.trans (e1.trans (Heap.sw_perm _ (by omega) (by omega)))
  have HG3 := Lib.hid (grown_trans HG2.out h6)
  clear h1 h2 h3 h4 h5 h6
  go_wp2_with fail
  refine (last_any hb base g c n M w3 HP3.out hbd).mono ?_
  rintro e w4 ⟨rfl, hp4, hg4⟩
  have H4 : Hid (PopPost hb base g c n L w (.returned (.iface 38 (lsV (gl M n)))) w4) := ⟨gl M n, M, rfl, hp4, HL3.out, HI3.out, HN3.out, by rw [HN3.out]; exact HM3.out, (Grown2.of HG3.out).trans hg4⟩
  clear hp4 hg4
  go_wp2
  go_ret
  exact H4.out
end Go.Proofs.Ytdlapnelehehgab
