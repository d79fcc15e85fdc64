/- slices.DeleteFunc, at entries read later. -/
import Derived.Test.YtdlapnelehehgabCaIns
import Derived.Test.YtdlapnelehehgabCaQ
namespace Go.Proofs.Ytdlapnelehehgab
open Go.RowKit
set_option linter.unusedVariables false
attribute [local go_sem ↓] Go.wp_at_zero Go.wp_at_succ

/-- the time lies in block nb -/
def NowAt (w : World) (nb : Nat) (now : Int) : Prop := w.cell? ⟨nb, 0, none⟩ = some (.int .i64 now) ∧ nb < w.heap.size
theorem NowAt.keepB {w w' : World} {nb : Nat} {now : Int} (h : NowAt w nb now) (hb : Below w.heap.size w w') : NowAt w' nb now :=
  ⟨(hb.cell (p := ⟨nb, 0, none⟩) h.2).trans h.1, Nat.lt_of_lt_of_le h.2 hb.size⟩
theorem NowAt.grown {w w' : World} {nb g : Nat} {now : Int} (h : NowAt w nb now) (hg : w.grownBy w' (some g)) (hne : nb ≠ g) : NowAt w' nb now := by
  have e := hg.block nb h.2 (fun e => hne (by injection e with e))
  exact ⟨(World.cell?_of_block (w := w) e).trans h.1, Nat.lt_of_lt_of_le h.2 hg.size⟩

set_option maxHeartbeats 1000000 in
theorem sw1_as (v : Bool) (x : Ls) (now : Int) (nb : Nat) (w : World) (h : NowAt w nb now) (hv : raB x now = v) :
    Calls Try.prog 37 #[.agg #[.int .i64 x.e, .int .i64 x.o, .int .i64 x.u], .pointer (some ⟨nb, 0, none⟩)] w fun e w' => e = .returned (.bool v) ∧ Below w.heap.size w w' := by
  obtain ⟨e, o, u⟩ := x
  have HV := Lib.hid hv
  obtain ⟨W, hW⟩ : ∃ W, W = w.alloc (.cells #[.int .i64 e, .int .i64 o, .int .i64 u] 38) := ⟨_, rfl⟩
  have hWb : Below w.heap.size w W := by rw [hW]; exact alB _ _
  have hc : ∀ o : Obj, (w.alloc o).cell? ⟨nb, 0, none⟩ = some (.int .i64 now) := fun o => (h.keepB (alB w o)).1
  have hWh : W.heap[w.heap.size]? = some (.cells #[.int .i64 e, .int .i64 o, .int .i64 u] 38 (0, 0)) := by rw [hW]; exact heap_alloc_new w _
  have d0 : W.cell? ⟨w.heap.size, 0, none⟩ = some (.int .i64 e) := by rw [cell_of_cells hWh]; rfl
  have d1 : W.cell? ⟨w.heap.size, 1, none⟩ = some (.int .i64 o) := by rw [cell_of_cells hWh]; rfl
  have d2 : W.cell? ⟨w.heap.size, 2, none⟩ = some (.int .i64 u) := by rw [cell_of_cells hWh]; rfl
  have HW := Lib.hid hW
  clear hv hW hWh h
  simp only at *
  go_enter Try.func37, Try.ntmps37
  go_wp2_with fail
  rw [← HW.out]
  refine (later_as v ⟨e, o, u⟩ now W HV.out).mono ?_
  rintro e2 w2 ⟨rfl, hb2⟩
  clear d0 d1 d2 hc
  go_wp2
  go_ret
  exact ⟨rfl, hWb.trans (hb2.mono hWb.size)⟩

/-- the first index that holds, -1 if there is none -/
def IdxIs (R : List Ls) (now : Int) (e : Ending) : Prop :=
  (∃ k, k < R.length ∧ (∀ j, j < k → raB (gl R j) now = false) ∧ raB (gl R k) now = true ∧ e = .returned (.int .i64 k)) ∨ ((∀ j, j < R.length → raB (gl R j) now = false) ∧ e = .returned (.int .i64 (-1)))

set_option maxHeartbeats 1000000 in
theorem idx_any (base g c n nb : Nat) (R : List Ls) (now : Int) (w : World) (h : OwnS w base g c R) (hn : R.length = n) (hl : n ≤ 6) (ht : NowAt w nb now) :
    Calls Try.prog 47 #[.slice (some ⟨g, 0, none⟩) n c, .func (.func 37) #[] #[.pointer (some ⟨nb, 0, none⟩)]] w fun e w' => IdxIs R now e ∧ Below w.heap.size w w' := by
  have HO := Lib.hid h
  have HN := Lib.hid hn
  have HT := Lib.hid ht
  clear h hn ht
  go_enter Try.func47, Try.ntmps47
  go_wp2
  go_loopw [8] (fun i wr => ∃ k : Nat, k ≤ n ∧ i = .int .i64 k ∧ Hid (∀ j, j < k → raB (gl R j) now = false) ∧ Below w.heap.size w wr) (fun i _ => n - (intOf i).toNat)
  case atStart => exact ⟨0, by omega, rfl, fun j hj => by omega, Below.refl _ _⟩
  case round =>
    obtain ⟨k, hk, rfl, HA, hbel⟩ := hrel
    by_cases hlt : k < n
    · obtain ⟨hc0, hc1, hc2⟩ := (HO.out.keepB hbel (Nat.le_refl _)).cells (i := k) (by rw [HN.out]; exact hlt)
      cases hv : raB (gl R k) now
      · have HV := Lib.hid hv
        obtain ⟨x, hx⟩ : ∃ x, x = gl R k := ⟨_, rfl⟩
        rw [← hx] at hc0 hc1 hc2
        have HVX : Hid (raB x now = false) := by show _ = _; rw [hx]; exact hv
        clear hv hx
        go_wp2_with fail
        refine (sw1_as false x now nb wr (HT.out.keepB hbel) HVX.out).mono ?_
        rintro e w2 ⟨rfl, hb2⟩
        clear hc0 hc1 hc2
        go_wp2
        go_roundw
        case rel => exact ⟨k + 1, by omega, by go_num, fun j hj => by rcases Nat.lt_or_ge j k with h' | h'; exact HA.out j h'; obtain rfl : j = k := (by omega); exact HV.out, hbel.trans (hb2.mono hbel.size)⟩
        case measure => simp [intOf]; omega
      · have HV := Lib.hid hv
        obtain ⟨x, hx⟩ : ∃ x, x = gl R k := ⟨_, rfl⟩
        rw [← hx] at hc0 hc1 hc2
        have HVX : Hid (raB x now = true) := by show _ = _; rw [hx]; exact hv
        have HR : Hid (IdxIs R now (.returned (.int .i64 k))) := .inl ⟨k, by rw [HN.out]; exact hlt, HA.out, HV.out, rfl⟩
        clear hv hx
        go_wp2_with fail
        refine (sw1_as true x now nb wr (HT.out.keepB hbel) HVX.out).mono ?_
        rintro e w2 ⟨rfl, hb2⟩
        clear hc0 hc1 hc2
        go_wp2
        go_ret
        exact ⟨HR.out, hbel.trans (hb2.mono hbel.size)⟩
    · have HR : Hid (IdxIs R now (.returned (.int .i64 (-1)))) := .inr ⟨fun j hj => HA.out j (by rw [HN.out] at hj; omega), rfl⟩
      go_wp2
      go_ret
      exact ⟨HR.out, hbel⟩

/-- the entries that are not read later -/
def nlL (R : List Ls) (now : Int) : List Ls := R.filter fun x => !raB x now
theorem nl_take {R : List Ls} {now : Int} {k : Nat} (h : k < R.length) : nlL (R.take (k + 1)) now = nlL (R.take k) now ++ (if raB (gl R k) now = true then [] else [gl R k]) := by
  rw [take_succ h]
  simp only [nlL, List.filter_append]
  congr 1
  by_cases he : raB (gl R k) now = true <;> simp [he]
theorem nl_all {R : List Ls} {now : Int} {k : Nat} (h : ∀ j, j < k → raB (gl R j) now = false) (hk : k ≤ R.length) : nlL (R.take k) now = R.take k := by
  unfold nlL
  rw [List.filter_eq_self]
  intro x hx
  obtain ⟨j, hj, rfl⟩ := List.getElem_of_mem hx
  simp only [List.length_take] at hj
  rw [List.getElem_take, ← gl_get (by omega), h j (by omega)]
  rfl
theorem nl_len (R : List Ls) (now : Int) (k : Nat) : (nlL (R.take k) now).length ≤ k := by
  have := List.length_filter_le (fun x => !raB x now) (R.take k)
  simp only [nlL, List.length_take] at this ⊢
  omega

/-- .. at the head of the loop: the first a are those kept of the first b, behind b nothing has turned -/
def KeepAt (base g c n a b : Nat) (R : List Ls) (now : Int) (w wr : World) : Prop :=
  ∃ M, OwnS wr base g c M ∧ M.length = n ∧ M.take a = nlL (R.take b) now ∧ (∀ j, b ≤ j → gl M j = gl R j) ∧ w.grownBy wr (some g)
theorem keep_set {base g c n a b : Nat} {R : List Ls} {now : Int} {w wr w2 : World} (hR : R.length = n) (h : KeepAt base g c n a b R now w wr) (hab : a < b) (hb : b < n) (hbel : Below wr.heap.size wr w2) (hx : raB (gl R b) now = false) :
    KeepAt base g c n (a + 1) (b + 1) R now w (((w2.setCell ⟨g, a * 3, none⟩ (.int .i64 (gl R b).e)).setCell ⟨g, a * 3 + 1, none⟩ (.int .i64 (gl R b).o)).setCell ⟨g, a * 3 + 2, none⟩ (.int .i64 (gl R b).u)) := by
  obtain ⟨M, h1, h2, h3, h4, h5⟩ := h
  have hg := h5.size
  refine ⟨M.set a (gl R b), (h1.keepB hbel (Nat.le_refl _)).setAll (by omega) _, by rw [List.length_set]; exact h2, ?_, fun j hj => ?_, ?_⟩
  · rw [nl_take (by omega), hx, ← h3, take_succ (by rw [List.length_set]; omega), gl_set_eq _ (by omega), List.take_set_of_le (Nat.le_refl _)]
    rfl
  · rw [gl_set_ne _ (by omega)]; exact h4 j (by omega)
  · have k1 : w.grownBy w2 (some g) := ⟨hbel.os.trans h5.os, hbel.tape.trans h5.tape, hbel.output.trans h5.output, Nat.le_trans h5.size hbel.size, fun k hk hne => (hbel.block k (by omega)).trans (h5.block k hk hne)⟩
    exact grown_trans (grown_trans (grown_trans k1 (keptC _ _ _ _).grown) (keptC _ _ _ _).grown) (keptC _ _ _ _).grown
theorem keep_skip {base g c n a b : Nat} {R : List Ls} {now : Int} {w wr w2 : World} (hR : R.length = n) (h : KeepAt base g c n a b R now w wr) (hb : b < n) (hbel : Below wr.heap.size wr w2) (hx : raB (gl R b) now = true) :
    KeepAt base g c n a (b + 1) R now w w2 := by
  obtain ⟨M, h1, h2, h3, h4, h5⟩ := h
  refine ⟨M, h1.keepB hbel (Nat.le_refl _), h2, ?_, fun j hj => h4 j (by omega), ?_⟩
  · rw [nl_take (by omega), hx, if_pos rfl, List.append_nil]; exact h3
  · exact ⟨hbel.os.trans h5.os, hbel.tape.trans h5.tape, hbel.output.trans h5.output, Nat.le_trans h5.size hbel.size, fun k hk hne => (hbel.block k (Nat.lt_of_lt_of_le hk h5.size)).trans (h5.block k hk hne)⟩

set_option maxRecDepth 20000 in
set_option maxHeartbeats 4000000 in
theorem delF_any (base g c n nb : Nat) (R : List Ls) (now : Int) (w : World) (h : OwnS w base g c R) (hn : R.length = n) (hl : n ≤ 6) (ht : NowAt w nb now) (hnb : nb ≠ g) :
    Calls Try.prog 36 #[.slice (some ⟨g, 0, none⟩) n c, .func (.func 37) #[] #[.pointer (some ⟨nb, 0, none⟩)]] w fun e w' => e = .returned (.slice (some ⟨g, 0, none⟩) (nlL R now).length c) ∧ OwnS w' base g c (nlL R now) ∧ w.grownBy w' (some g) := by
  have HO := Lib.hid h
  have HN := Lib.hid hn
  have HT := Lib.hid ht
  obtain ⟨hb1, hb2, cs, hb3, hb4, hb5, hb6, hb7⟩ := h.blk
  unfold maxLen at hb5
  have hnc : n ≤ c := by omega
  clear h hn ht hb3 hb6 hb7
  go_enter Try.func36, Try.ntmps36
  go_wp2_with fail
  refine (idx_any base g c n nb R now w HO.out HN.out hl HT.out).mono ?_
  rintro e w1 ⟨hix, hbel1⟩
  rcases hix with ⟨k1, hk1, hall, hkk, rfl⟩ | ⟨hall, rfl⟩
  · have hkn : k1 < n := by rw [← HN.out]; exact hk1
    have H0 : Hid (KeepAt base g c n k1 (k1 + 1) R now w w1) := by
      refine ⟨R, HO.out.keepB hbel1 (Nat.le_refl _), HN.out, ?_, fun _ _ => rfl, ⟨hbel1.os, hbel1.tape, hbel1.output, hbel1.size, fun k hk _ => hbel1.block k hk⟩⟩
      rw [nl_take hk1, hkk, if_pos rfl, List.append_nil, nl_all hall (Nat.le_of_lt hk1)]
    have v1 : ((k1 : Int) == -1) = false := by rw [beq_eq_false_iff_ne]; omega
    clear hall hkk hbel1 hk1
    go_wp2
    clear v1
    go_loopw [5, 6] (fun i j wr => ∃ a b : Nat, a < b ∧ b ≤ n ∧ i = .int .i64 a ∧ j = .int .i64 b ∧ KeepAt base g c n a b R now w wr) (fun _ j _ => n - (intOf j).toNat)
    case atStart => exact ⟨k1, k1 + 1, by omega, by omega, rfl, by go_num, H0.out⟩
    case round =>
      obtain ⟨a, b, hab, hbn, rfl, rfl, hkp⟩ := hrel
      have HK := Lib.hid hkp
      obtain ⟨M, hM1, hM2, hM3, hM4, hM5⟩ := hkp
      have HO2 := Lib.hid hM1
      have hgs : g < wr.heap.size := hM1.blk.2.1
      by_cases hlt : b < n
      · obtain ⟨hc0, hc1, hc2⟩ := hM1.cells (i := b) (by omega)
        have hx := hM4 b (Nat.le_refl _)
        rw [hx] at hc0 hc1 hc2
        obtain ⟨x, hxx⟩ : ∃ x, x = gl R b := ⟨_, rfl⟩
        rw [← hxx] at hc0 hc1 hc2
        have HX := Lib.hid hxx
        have HNW : Hid (NowAt wr nb now) := HT.out.grown hM5 hnb
        obtain ⟨W, hW⟩ : ∃ W, W = wr.alloc (.cells #[.int .i64 x.e, .int .i64 x.o, .int .i64 x.u] 38) := ⟨_, rfl⟩
        have hWb : Below wr.heap.size wr W := by rw [hW]; exact alB _ _
        have HWH : Hid (W.heap[wr.heap.size]? = some (.cells #[.int .i64 x.e, .int .i64 x.o, .int .i64 x.u] 38 (0, 0))) := by show _ = _; rw [hW]; exact heap_alloc_new wr _
        have HW := Lib.hid hW
        have HWS : Hid (wr.heap.size < W.heap.size) := by show _ < _; rw [hW]; simp
        have HWB := Lib.hid hWb
        obtain ⟨q0, q1, q2⟩ := box3 HWH.out (Below.refl _ _)
        obtain ⟨f0, f1, f2⟩ : W.frozen? ⟨g, a * 3, none⟩ = false ∧ W.frozen? ⟨g, a * 3 + 1, none⟩ = false ∧ W.frozen? ⟨g, a * 3 + 2, none⟩ = false := by
          obtain ⟨_, _, cs2, hbk, _⟩ := (hM1.keepB hWb (Nat.le_refl _)).blk
          exact ⟨frozen_of_cells hbk _, frozen_of_cells hbk _, frozen_of_cells hbk _⟩
        clear hM1 hM2 hM3 hM4 hM5 hx hxx hW hWb f0 f1 f2
        cases hv : raB (gl R b) now
        · have HV := Lib.hid hv
          have HVX : Hid (raB x now = false) := by show _ = _; rw [HX.out]; exact hv
          clear hv
          go_wp2_with fail
          rw [← HW.out]
          refine (sw1_as false x now nb W (HNW.out.keepB HWB.out) HVX.out).mono ?_
          rintro e w2 ⟨rfl, hb2⟩
          have hBel : Below wr.heap.size wr w2 := HWB.out.trans (hb2.mono HWB.out.size)
          have HK2 := Lib.hid (keep_set HN.out HK.out hab hlt hBel HV.out)
          rw [← HX.out] at HK2
          obtain ⟨q3, q4, q5⟩ := box3 HWH.out hb2
          obtain ⟨l0, l1, l2⟩ : (∃ v, w2.cell? ⟨g, a * 3, none⟩ = some v) ∧ (∃ v, w2.cell? ⟨g, a * 3 + 1, none⟩ = some v) ∧ (∃ v, w2.cell? ⟨g, a * 3 + 2, none⟩ = some v) := by
            obtain ⟨M, hM1, hM2, _⟩ := HK.out
            obtain ⟨k0, k1, k2⟩ := (hM1.keepB hBel (Nat.le_refl _)).cells (i := a) (by omega)
            exact ⟨⟨_, k0⟩, ⟨_, k1⟩, ⟨_, k2⟩⟩
          obtain ⟨u0, l0⟩ := l0
          obtain ⟨u1, l1⟩ := l1
          obtain ⟨u2, l2⟩ := l2
          obtain ⟨f0, f1, f2⟩ : w2.frozen? ⟨g, a * 3, none⟩ = false ∧ w2.frozen? ⟨g, a * 3 + 1, none⟩ = false ∧ w2.frozen? ⟨g, a * 3 + 2, none⟩ = false := by
            obtain ⟨_, _, cs2, hbk, _⟩ := (HO2.out.keepB hBel (Nat.le_refl _)).blk
            exact ⟨frozen_of_cells hbk _, frozen_of_cells hbk _, frozen_of_cells hbk _⟩
          clear q0 q1 q2 hc0 hc1 hc2
          go_wp2
          go_roundw
          case rel => exact ⟨a + 1, b + 1, by omega, by omega, by go_num, by go_num, HK2.out⟩
          case measure => simp [intOf]; omega
        · have HV := Lib.hid hv
          have HVX : Hid (raB x now = true) := by show _ = _; rw [HX.out]; exact hv
          clear hv
          go_wp2_with fail
          rw [← HW.out]
          refine (sw1_as true x now nb W (HNW.out.keepB HWB.out) HVX.out).mono ?_
          rintro e w2 ⟨rfl, hb2⟩
          have hBel : Below wr.heap.size wr w2 := HWB.out.trans (hb2.mono HWB.out.size)
          have HK2 := Lib.hid (keep_skip HN.out HK.out hlt hBel HV.out)
          clear q0 q1 q2 hc0 hc1 hc2
          go_wp2
          go_roundw
          case rel => exact ⟨a, b + 1, by omega, by omega, rfl, by go_num, HK2.out⟩
          case measure => simp [intOf]; omega
      · obtain rfl : b = n := by omega
        have hla : (M.take a).length = a := by rw [List.length_take]; omega
        obtain ⟨W2, hr2, ho2, hg2⟩ := clear_own wr 43 Try.underlying43 base g c a (b - a) (c - a) (M.take a) (hM1.take a) (by omega) (by omega)
        have h4 : M.take a = nlL R now := by rw [hM3, List.take_of_length_le (by rw [HN.out]; exact Nat.le_refl _)]
        have HA : Hid (a = (nlL R now).length) := by show _ = _; rw [← h4, hla]
        have HR : Hid (OwnS W2 base g c (nlL R now) ∧ w.grownBy W2 (some g)) := by
          refine ⟨by rw [← h4]; exact ho2, grown_trans hM5 hg2⟩
        have i1 : (a : Int) ≤ (b : Int) := by omega
        have i2 : (b : Int) ≤ (c : Int) := by omega
        have i3 : (a : Int) ≤ (c : Int) := by omega
        have i4 : ¬ c = a := by omega
        clear hM1 hM2 hM3 hM4 hM5 hla ho2 hg2 h4
        go_wp2
        go_ret
        exact ⟨by rw [← HA.out]; rfl, HR.out.1, HR.out.2⟩
  · have e1 : nlL R now = R := by
      have := nl_all (R := R) (k := R.length) hall (Nat.le_refl _)
      rwa [List.take_length] at this
    have HE := Lib.hid e1
    have HO1 := Lib.hid (HO.out.keepB hbel1 (Nat.le_refl _))
    have v1 : (((-1 : Int)) == -1) = true := by decide
    clear hall e1
    go_wp2
    go_ret
    rw [HE.out, HN.out]
    exact ⟨rfl, HO1.out, ⟨hbel1.os, hbel1.tape, hbel1.output, hbel1.size, fun k hk _ => hbel1.block k hk⟩⟩
end Go.Proofs.Ytdlapnelehehgab
