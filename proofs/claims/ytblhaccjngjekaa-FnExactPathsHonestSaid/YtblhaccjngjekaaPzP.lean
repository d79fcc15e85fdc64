/- The program: puzzles behind an interface, and answers. -/
import Derived.Test.YtblhaccjngjekaaPzS
import Derived.Lib.SmallJoins
namespace Go.Proofs.Ytblhaccjngjekaa
open Go.RowKit
set_option linter.unusedVariables false
attribute [local go_sem ↓] Go.wp_at_zero Go.wp_at_succ

set_option maxHeartbeats 400000 in
theorem isNo_as (v : Bool) (n : Int) (w : World) (hv : noB n = v) :
    Calls Try.prog 46 #[.int .i64 n] w fun e w' => e = .returned (.bool v) ∧ w = w' := by
  subst hv
  go_enter Try.func46, Try.ntmps46
  go_wp2
  all_goals
    go_ret
    exact ⟨ret_bool (by rw [Bool.eq_iff_iff]; simp [noB]; try omega), rfl⟩
theorem alZ (w : World) (o : Obj) : Below w.heap.size w (w.alloc o) := (Below.refl _ w).alloc (Nat.le_refl _) o
theorem valid_asZ (v : Bool) (n : Int) (w : World) (hv : ptB n = v) :
    Calls Try.prog 45 #[.int .i64 n] w fun e w' => e = .returned (.bool v) ∧ w = w' := by subst hv; exact valid_any n w

set_option maxHeartbeats 1000000 in
theorem phash0_as (v : Int) (id no : Int) (w : World) (hv : hsR id no = v) :
    Calls Try.prog 18 #[.int .i64 id, .int .i64 no] w fun e w' => e = .returned (.int .i64 v) ∧ w = w' := by
  subst hv
  cases hp : ptB id
  · have HP := Lib.hid hp
    have HR := Lib.hid (hsR_bad (show hsOk id no = false by simp [hsOk, hp]))
    clear hp
    go_enter Try.func18, Try.ntmps18
    go_wp2_with fail
    refine (valid_asZ false id w HP.out).mono ?_
    rintro e w' ⟨rfl, rfl⟩
    go_wp2
    go_ret
    exact ⟨ret_i (by rw [HR.out]), rfl⟩
  have HP := Lib.hid hp
  cases hq : noB no
  · have HQ := Lib.hid hq
    have HR := Lib.hid (hsR_bad (show hsOk id no = false by simp [hsOk, hq]))
    clear hp hq
    go_enter Try.func18, Try.ntmps18
    go_wp2_with fail
    refine (valid_asZ true id w HP.out).mono ?_
    rintro e w' ⟨rfl, rfl⟩
    go_wp2_with fail
    refine (isNo_as false no w HQ.out).mono ?_
    rintro e w' ⟨rfl, rfl⟩
    go_wp2
    go_ret
    exact ⟨ret_i (by rw [HR.out]), rfl⟩
  · have HQ := Lib.hid hq
    obtain ⟨⟨h0, h1⟩, h2, h3⟩ := (hsOk_iff id no).1 (by simp [hsOk, hp, hq])
    have hv : hsR id no = hs id no := hsR_ok (by simp [hsOk, hp, hq])
    clear hp hq
    obtain ⟨n, hn1⟩ : ∃ n, hn id no = n := ⟨_, rfl⟩
    have hb := hn_bd id no
    rw [hn1] at hb
    obtain ⟨hb0, hb1⟩ := hb
    have a1 : (31 * id + 17 * no + 5) % 1009 = n := hn1
    have a2 : (31 * id + 17 * no + 5).tmod 1009 = n := by rw [Int.tmod_eq_emod_of_nonneg (by omega)]; exact a1
    obtain ⟨m, hm⟩ : ∃ m, n * (n + no + 7) = m := ⟨_, rfl⟩
    have hmb := prod_bd (m := n + no + 7) hb0 hb1 (by omega) (by omega)
    rw [hm] at hmb
    obtain ⟨hm0, hm1⟩ := hmb
    have hv2 : hs id no = m % 1009 := by unfold hs; rw [hn1, hm]
    have a3 : m.tmod 1009 = m % 1009 := Int.tmod_eq_emod_of_nonneg (by omega)
    have HV := Lib.hid (hv.trans hv2)
    clear hv hv2 hn1
    go_enter Try.func18, Try.ntmps18
    go_wp2_with fail
    refine (valid_asZ true id w HP.out).mono ?_
    rintro e w' ⟨rfl, rfl⟩
    go_wp2_with fail
    refine (isNo_as true no w HQ.out).mono ?_
    rintro e w' ⟨rfl, rfl⟩
    go_wp2
    go_ret
    exact ⟨ret_i (by rw [HV.out]), rfl⟩
theorem phash_any (id no : Int) (w : World) :
    Calls Try.prog 18 #[.int .i64 id, .int .i64 no] w fun e w' => e = .returned (.int .i64 (hsR id no)) ∧ Below w.heap.size w w' := (phash0_as _ id no w rfl).mono fun _ _ ⟨h1, h2⟩ => ⟨h1, h2 ▸ Below.refl _ _⟩

/-- a puzzle by hash -/
def hpV (id : Int) (b : Nat) : Value := .agg #[.int .i64 id, .int .i64 (pw b)]
set_option maxHeartbeats 1000000 in
theorem hsolved_as (v : Bool) (id no : Int) (b : Nat) (w : World) (hp : ptB id = true) (hq : noB no = true) (hb : b ≤ 5) (hv : okB id no b = v) :
    Calls Try.prog 60 #[.agg #[.int .i64 id, .int .i64 (pw b)], .int .i64 no] w fun e w' => e = .returned (.bool v) ∧ Below w.heap.size w w' := by
  have hs1 := hs_bd id no
  have HE : Hid (okB id no b = decide (hs id no % pw b = 0)) := rfl
  have HR := Lib.hid (hsR_ok (show hsOk id no = true by simp [hsOk, hp, hq]))
  have hp1 := pw_pos b
  have hp2 := pw_le (b := b) (by omega)
  subst hv
  obtain ⟨p, hpp⟩ : ∃ p, pw b = p := ⟨_, rfl⟩
  rw [hpp] at hp1 hp2 HE ⊢
  obtain ⟨v, hv2⟩ : ∃ v, hs id no = v := ⟨_, rfl⟩
  rw [hv2] at hs1 HE HR
  obtain ⟨hv0, hv1⟩ := hs1
  have p0 : (p == 0) = false := by rw [beq_eq_false_iff_ne]; omega
  have p0' : ¬ p = 0 := by omega
  have t1 : v.tmod p = v % p := Int.tmod_eq_emod_of_nonneg hv0
  obtain ⟨W, hW⟩ : ∃ W, W = w.alloc (.cells #[.int .i64 id, .int .i64 p] 62) := ⟨_, rfl⟩
  have hWb : Below w.heap.size w W := by rw [hW]; exact alZ _ _
  have hW0 : W.cell? ⟨w.heap.size, 0, none⟩ = some (.int .i64 id) := by rw [hW]; simp
  have hW1 : W.cell? ⟨w.heap.size, 1, none⟩ = some (.int .i64 p) := by rw [hW]; simp
  have HW := Lib.hid hW
  have HB := Lib.hid hWb
  clear hpp hv2 hp hq hW hWb
  go_enter Try.func60, Try.ntmps60
  go_wp2_with fail
  rw [← HW.out]
  go_quiet ((go_at_call 18; exact Calls.quiet_of_same (calls_flip (phash0_as v id no _ HR.out))))
  go_wp2
  go_ret
  exact ⟨ret_bool (by rw [HE.out, Bool.eq_iff_iff]; simp), by first | exact HB.out | exact HB.out.trans (((Same.refl _).drewN _).below _)⟩
/-- the puzzle of a position with a difficulty -/
def puzV (id bits : Int) : Value :=
  if (ptB id && btB bits) = true then (if bits = 0 then .iface 60 (.agg #[]) else .iface 62 (hpV id bits.toNat)) else .iface 68 (.agg #[])
theorem puzV_no {id bits : Int} (h : (ptB id && btB bits) = false) : puzV id bits = .iface 68 (.agg #[]) := by unfold puzV; rw [if_neg (by rw [h]; decide)]
theorem puzV_free {id : Int} (h : ptB id = true) : puzV id 0 = .iface 60 (.agg #[]) := by unfold puzV; rw [if_pos (by rw [h]; rfl), if_pos rfl]
theorem puzV_hash {id bits : Int} (h : ptB id = true) (h1 : 1 ≤ bits) (h2 : bits ≤ 5) : puzV id bits = .iface 62 (.agg #[.int .i64 id, .int .i64 (pw bits.toNat)]) := by
  unfold puzV; rw [if_pos (by rw [h, (btB_iff _).2 ⟨by omega, h2⟩]; rfl), if_neg (by omega)]; rfl

theorem ret_v {a b : Value} (h : a = b) : Ending.returned a = Ending.returned b := by rw [h]
set_option maxHeartbeats 1000000 in
theorem puz_as (v : Value) (id bits : Int) (w : World) (hv : puzV id bits = v) :
    Calls Try.prog 50 #[.int .i64 id, .int .i64 bits] w fun e w' => e = .returned v ∧ w = w' := by
  subst hv
  cases hp : ptB id
  · have HP := Lib.hid hp
    have HR := Lib.hid (puzV_no (id := id) (bits := bits) (by simp [hp]))
    clear hp
    go_enter Try.func50, Try.ntmps50
    go_wp2_with fail
    refine (valid_asZ false id w HP.out).mono ?_
    rintro e w' ⟨rfl, rfl⟩
    go_wp2
    go_ret
    exact ⟨ret_v HR.out.symm, rfl⟩
  have HP := Lib.hid hp
  by_cases h0 : bits < 0
  · have HR := Lib.hid (puzV_no (id := id) (bits := bits) (by simp [(btB_no bits).2 (.inl h0)]))
    clear hp
    go_enter Try.func50, Try.ntmps50
    go_wp2_with fail
    refine (valid_asZ true id w HP.out).mono ?_
    rintro e w' ⟨rfl, rfl⟩
    go_wp2
    go_ret
    exact ⟨ret_v HR.out.symm, rfl⟩
  by_cases h5 : 5 < bits
  · have HR := Lib.hid (puzV_no (id := id) (bits := bits) (by simp [(btB_no bits).2 (.inr h5)]))
    clear hp
    go_enter Try.func50, Try.ntmps50
    go_wp2_with fail
    refine (valid_asZ true id w HP.out).mono ?_
    rintro e w' ⟨rfl, rfl⟩
    go_wp2
    go_ret
    exact ⟨ret_v HR.out.symm, rfl⟩
  have hb : bits = 0 ∨ bits = 1 ∨ bits = 2 ∨ bits = 3 ∨ bits = 4 ∨ bits = 5 := by omega
  clear h0 h5
  have HRR := Lib.hid (fun (bits : Int) (h1 : 1 ≤ bits) (h2 : bits ≤ 5) => puzV_hash hp h1 h2)
  rcases hb with rfl | rfl | rfl | rfl | rfl | rfl
  · have HR := Lib.hid (puzV_free hp)
    clear hp
    go_enter Try.func50, Try.ntmps50
    go_wp2_with fail
    refine (valid_asZ true id w HP.out).mono ?_
    rintro e w' ⟨rfl, rfl⟩
    go_wp2
    go_ret
    exact ⟨ret_v HR.out.symm, rfl⟩
  all_goals
    clear hp
    go_enter Try.func50, Try.ntmps50
    go_wp2_with fail
    refine (valid_asZ true id w HP.out).mono ?_
    rintro e w' ⟨rfl, rfl⟩
    go_wp2
    go_ret
    exact ⟨ret_v (by rw [HRR.out _ (by decide) (by decide)]; rfl), rfl⟩

/-! the methods behind the interface -/
set_option maxHeartbeats 400000 in
theorem fsolved_any (no : Int) (w : World) :
    Calls Try.prog 86 #[.agg #[], .int .i64 no] w fun e w' => e = .returned (.bool true) ∧ Below w.heap.size w w' := by
  have HB := Lib.hid (alZ w)
  go_enter Try.func86, Try.ntmps86
  go_wp2
  go_ret
  exact ⟨rfl, by first | exact Below.refl _ _ | exact HB.out _⟩
set_option maxHeartbeats 400000 in
theorem nsolved_any (no : Int) (w : World) :
    Calls Try.prog 87 #[.agg #[], .int .i64 no] w fun e w' => e = .returned (.bool false) ∧ Below w.heap.size w w' := by
  have HB := Lib.hid (alZ w)
  go_enter Try.func87, Try.ntmps87
  go_wp2
  go_ret
  exact ⟨rfl, by first | exact Below.refl _ _ | exact HB.out _⟩

set_option maxHeartbeats 1000000 in
theorem pokz_any (id no bits : Int) (w : World) :
    Calls Try.prog 22 #[.int .i64 id, .int .i64 no, .int .i64 bits] w fun e w' => e = .returned (.bool (okR id no bits)) ∧ Below w.heap.size w w' := by
  cases hq : noB no
  · have HQ := Lib.hid hq
    have HR := Lib.hid (okR_no (bits := bits) (.inl (show hsOk id no = false by simp [hsOk, hq])))
    clear hq
    go_enter Try.func22, Try.ntmps22
    go_wp2_with fail
    refine (isNo_as false no w HQ.out).mono ?_
    rintro e w' ⟨rfl, rfl⟩
    go_wp2
    go_ret
    exact ⟨ret_bool HR.out.symm, Below.refl _ _⟩
  have HQ := Lib.hid hq
  cases hpb : (ptB id && btB bits)
  · have HV := Lib.hid (puzV_no hpb)
    have HR : Hid (okR id no bits = false) := by
      show _ = _
      cases hp : ptB id
      · exact okR_no (.inl (by simp [hsOk, hp]))
      · exact okR_no (.inr (.inl (by simpa [hp] using hpb)))
    clear hq hpb
    go_enter Try.func22, Try.ntmps22
    go_wp2_with fail
    refine (isNo_as true no w HQ.out).mono ?_
    rintro e w' ⟨rfl, rfl⟩
    go_wp2_with fail
    refine (puz_as _ id bits w HV.out).mono ?_
    rintro e w' ⟨rfl, rfl⟩
    go_wp2_with fail
    refine (nsolved_any no w).mono ?_
    rintro e w' ⟨rfl, hb⟩
    have HB := Lib.hid hb
    clear hb
    go_wp2
    go_ret
    exact ⟨ret_bool HR.out.symm, HB.out⟩
  have hp : ptB id = true := by rcases hp : ptB id with _ | _ <;> simp [hp] at hpb ⊢
  have hb : btB bits = true := by simpa [hp] using hpb
  obtain ⟨hb0, hb5⟩ := (btB_iff _).1 hb
  have HOK : Hid (hsOk id no = true) := by show _ = _; simp [hsOk, hp, hq]
  by_cases h0 : bits = 0
  · subst h0
    have HV := Lib.hid (puzV_free hp)
    have HR : Hid (okR id no 0 = true) := by show _ = _; rw [okR_at HOK.out hb]; exact okB_zero _ _
    clear hq hpb hp hb
    go_enter Try.func22, Try.ntmps22
    go_wp2_with fail
    refine (isNo_as true no w HQ.out).mono ?_
    rintro e w' ⟨rfl, rfl⟩
    go_wp2_with fail
    refine (puz_as _ id 0 w HV.out).mono ?_
    rintro e w' ⟨rfl, rfl⟩
    go_wp2_with fail
    refine (fsolved_any no w).mono ?_
    rintro e w' ⟨rfl, hb⟩
    have HB := Lib.hid hb
    clear hb
    go_wp2
    go_ret
    exact ⟨ret_bool HR.out.symm, HB.out⟩
  · obtain ⟨b, rfl⟩ : ∃ b : Nat, bits = (b : Int) := ⟨bits.toNat, by omega⟩
    have HV : Hid (puzV id b = .iface 62 (.agg #[.int .i64 id, .int .i64 (pw b)])) := puzV_hash hp (by omega) hb5
    obtain ⟨v, hv⟩ : ∃ v, okB id no b = v := ⟨_, rfl⟩
    have HR : Hid (okR id no b = v) := by show _ = _; rw [okR_at HOK.out hb]; exact hv
    have HP := Lib.hid hp
    have HO := Lib.hid hv
    have hb6 : b ≤ 5 := by omega
    clear hq hpb hp hb hv h0 hb0 hb5
    go_enter Try.func22, Try.ntmps22
    go_wp2_with fail
    refine (isNo_as true no w HQ.out).mono ?_
    rintro e w' ⟨rfl, rfl⟩
    go_wp2_with fail
    refine (puz_as _ id b w HV.out).mono ?_
    rintro e w' ⟨rfl, rfl⟩
    go_wp2_with fail
    refine (hsolved_as v id no b w HP.out HQ.out hb6 HO.out).mono ?_
    rintro e w' ⟨rfl, hb⟩
    have HB := Lib.hid hb
    clear hb
    go_wp2
    go_ret
    exact ⟨ret_bool HR.out.symm, HB.out⟩

set_option maxRecDepth 20000 in
set_option maxHeartbeats 1000000 in
theorem small_as (v : Int) (id : Int) (b : Nat) (w : World) (hp : ptB id = true) (hb : b ≤ 5) (hv : slv id b = v) :
    Calls Try.prog 52 #[.agg #[.int .i64 id, .int .i64 (pw b)]] w fun e w' => e = .returned (.int .i64 v) ∧ Below w.heap.size w w' := by
  subst hv
  have HP := Lib.hid hp
  obtain ⟨p, hpp⟩ : ∃ p, pw b = p := ⟨_, rfl⟩
  have HPW := Lib.hid hpp
  rw [hpp]
  obtain ⟨W, hW⟩ : ∃ W, W = w.alloc (.cells #[.int .i64 id, .int .i64 p] 62) := ⟨_, rfl⟩
  have hWb : Below w.heap.size w W := by rw [hW]; exact alZ _ _
  have hWs : w.heap.size < W.heap.size := by rw [hW]; simp
  have hW0 : W.cell? ⟨w.heap.size, 0, none⟩ = some (.int .i64 id) := by rw [hW]; simp
  have hW1 : W.cell? ⟨w.heap.size, 1, none⟩ = some (.int .i64 p) := by rw [hW]; simp
  have H0 := Lib.hid (fun (u : World) (hu : Below W.heap.size W u) => (hu.cell (p := ⟨w.heap.size, 0, none⟩) hWs).trans hW0)
  have H1 := Lib.hid (fun (u : World) (hu : Below W.heap.size W u) => (hu.cell (p := ⟨w.heap.size, 1, none⟩) hWs).trans hW1)
  have HW := Lib.hid hW
  have HB := Lib.hid hWb
  clear hpp hp hW hWb hW0 hW1
  go_enter Try.func52, Try.ntmps52
  go_wp2_with fail
  rw [← HW.out]
  go_loopw [4] (fun i wr => ∃ k : Nat, k ≤ 256 ∧ i = .int .i64 k ∧ Hid (∀ j : Nat, j < k → okB id j b = false) ∧ Below W.heap.size W wr) (fun i _ => 256 - (intOf i).toNat)
  case atStart => exact ⟨0, by omega, rfl, fun j hj => by omega, Below.refl _ _⟩
  case round =>
    obtain ⟨k, hk, rfl, HN, hbel⟩ := hrel
    by_cases hlt : k < 256
    · have c0 := H0.out wr hbel
      have c1 := H1.out wr hbel
      have HNO : Hid (noB (k : Int) = true) := (noB_iff _).2 ⟨by omega, by omega⟩
      have HBL := Lib.hid hbel
      cases ho : okB id k b
      · have HO := Lib.hid ho
        clear ho hbel
        go_wp2_with fail
        refine (by have := hsolved_as false id k b wr HP.out HNO.out hb HO.out; rw [HPW.out] at this; exact this : Calls _ _ _ _ _).mono ?_
        rintro e w2 ⟨rfl, hb2⟩
        have HB2 := Lib.hid hb2
        clear hb2 c0 c1
        go_wp2
        go_roundw
        case rel => exact ⟨k + 1, by omega, by go_num, fun j hj => by rcases Nat.lt_or_ge j k with h' | h'; exact HN.out j h'; obtain rfl : j = k := (by omega); exact HO.out, HBL.out.trans (HB2.out.mono HBL.out.size)⟩
        case measure => simp [intOf]; omega
      · have HO := Lib.hid ho
        have HS : Hid (slv id b = k) := slv_at hlt ho HN.out
        clear ho hbel
        go_wp2_with fail
        refine (by have := hsolved_as true id k b wr HP.out HNO.out hb HO.out; rw [HPW.out] at this; exact this : Calls _ _ _ _ _).mono ?_
        rintro e w2 ⟨rfl, hb2⟩
        have HB2 := Lib.hid hb2
        clear hb2 c0 c1
        go_wp2
        go_ret
        exact ⟨ret_i (by rw [HS.out]), HB.out.trans ((HBL.out.trans (HB2.out.mono HBL.out.size)).mono HB.out.size)⟩
    · have HS : Hid (slv id b = -1) := slv_none fun j hj => HN.out j (by omega)
      go_wp2
      go_ret
      exact ⟨ret_i (by rw [HS.out]), HB.out.trans (hbel.mono HB.out.size)⟩

/-! a type switch on a puzzle -/
theorem asF1 (w : World) : (Instr.typeAssert (.iface 60 (.agg #[])) 57 60 true).run Try.prog w = .ok (.tuple #[.agg #[], .bool true]) w := by kernel_rfl
theorem asF0 (w : World) : (Instr.typeAssert (.iface 68 (.agg #[])) 57 60 true).run Try.prog w = .ok (.tuple #[.agg #[], .bool false]) w := by kernel_rfl
theorem asFh (v : Value) (w : World) : (Instr.typeAssert (.iface 62 v) 57 60 true).run Try.prog w = .ok (.tuple #[.agg #[], .bool false]) w := by kernel_rfl
theorem asH1 (v : Value) (w : World) : (Instr.typeAssert (.iface 62 v) 57 62 true).run Try.prog w = .ok (.tuple #[v, .bool true]) w := by kernel_rfl
theorem asH0 (w : World) : (Instr.typeAssert (.iface 68 (.agg #[])) 57 62 true).run Try.prog w = .ok (.tuple #[.agg #[.int .i64 0, .int .i64 0], .bool false]) w := by kernel_rfl
set_option maxRecDepth 20000 in
set_option maxHeartbeats 1000000 in
theorem psolve_any (id bits : Int) (w : World) :
    Calls Try.prog 25 #[.int .i64 id, .int .i64 bits] w fun e w' => e = .returned (.int .i64 (slvR id bits)) ∧ Below w.heap.size w w' := by
  have HA := Lib.hid (alZ w)
  cases hpb : (ptB id && btB bits)
  · have HV := Lib.hid (puzV_no hpb)
    have HR := Lib.hid (slvR_bad (show slvOk id bits = false from hpb))
    have t1 := asF0
    have t2 := asH0
    clear hpb
    go_enter Try.func25, Try.ntmps25
    go_wp2_with fail
    refine (puz_as _ id bits w HV.out).mono ?_
    rintro e w' ⟨rfl, rfl⟩
    go_wp2
    go_ret
    exact ⟨ret_i (by rw [HR.out]), by first | exact Below.refl _ _ | exact HA.out _⟩
  have hp : ptB id = true := by rcases hp : ptB id with _ | _ <;> simp [hp] at hpb ⊢
  have hb : btB bits = true := by simpa [hp] using hpb
  obtain ⟨hb0, hb5⟩ := (btB_iff _).1 hb
  have HR := Lib.hid (slvR_ok (show slvOk id bits = true from hpb))
  by_cases h0 : bits = 0
  · subst h0
    have HV := Lib.hid (puzV_free hp)
    have HZ := Lib.hid (slv_zero id)
    have t1 := asF1
    clear hpb hp hb
    go_enter Try.func25, Try.ntmps25
    go_wp2_with fail
    refine (puz_as _ id 0 w HV.out).mono ?_
    rintro e w' ⟨rfl, rfl⟩
    go_wp2
    go_ret
    exact ⟨ret_i (by rw [HR.out]; exact HZ.out.symm), by first | exact Below.refl _ _ | exact HA.out _⟩
  · obtain ⟨b, rfl⟩ : ∃ b : Nat, bits = (b : Int) := ⟨bits.toNat, by omega⟩
    have HV : Hid (puzV id b = .iface 62 (.agg #[.int .i64 id, .int .i64 (pw b)])) := puzV_hash hp (by omega) hb5
    obtain ⟨v, hv⟩ : ∃ v, slv id b = v := ⟨_, rfl⟩
    have HS : Hid (slvR id b = v) := by show _ = _; rw [HR.out]; exact hv
    have HP := Lib.hid hp
    have HO := Lib.hid hv
    have hb6 : b ≤ 5 := by omega
    obtain ⟨p, hpp⟩ : ∃ p, pw b = p := ⟨_, rfl⟩
    have HPW := Lib.hid hpp
    rw [hpp] at HV
    have t1 := asFh
    have t2 := asH1
    have HC := Lib.hid (fun (u : World) => (by have := small_as v id b u HP.out hb6 HO.out; rw [HPW.out] at this; exact this : Calls Try.prog 52 #[.agg #[.int .i64 id, .int .i64 p]] u fun e w' => e = .returned (.int .i64 v) ∧ Below u.heap.size u w'))
    obtain ⟨W, hW⟩ : ∃ W, W = w.alloc (.cells #[.int .i64 id, .int .i64 p] 62) := ⟨_, rfl⟩
    have hWb : Below w.heap.size w W := by rw [hW]; exact alZ _ _
    have hW0 : W.cell? ⟨w.heap.size, 0, none⟩ = some (.int .i64 id) := by rw [hW]; simp
    have hW1 : W.cell? ⟨w.heap.size, 1, none⟩ = some (.int .i64 p) := by rw [hW]; simp
    have HW := Lib.hid hW
    have HB := Lib.hid hWb
    clear hpb hp hb hv h0 hb0 hb5 HR hpp hW hWb
    go_enter Try.func25, Try.ntmps25
    go_wp2_with fail
    refine (puz_as _ id b w HV.out).mono ?_
    rintro e w' ⟨rfl, rfl⟩
    go_wp2_with fail
    try rw [← HW.out]
    go_wp2_with fail
    refine (HC.out W).mono ?_
    rintro e w2 ⟨rfl, hb2⟩
    have HB2 := Lib.hid hb2
    clear hb2 hW0 hW1
    go_wp2
    go_ret
    exact ⟨ret_i (by rw [HS.out]), HB.out.trans (HB2.out.mono HB.out.size)⟩

set_option maxRecDepth 20000 in
set_option maxHeartbeats 1000000 in
theorem times_as (v : Nat) (a : Option Addr) (len cap : Nat) (zs : List Int) (x : Int) (w : World) (h : IntsAt w a zs) (hz : zs.length = len) (hm : len ≤ maxLen) (hv : cnA zs x zs.length = v) :
    Calls Try.prog 58 #[.slice a len cap, .int .i64 x] w fun e w' => e = .returned (.int .i64 v) ∧ w = w' := by
  have HI := Lib.hid h
  have HZ := Lib.hid hz
  have HV := Lib.hid hv
  unfold maxLen at hm
  clear h hz hv
  go_enter Try.func58, Try.ntmps58
  go_wp2
  go_loop [5, 10] (fun n i => ∃ q : Nat, q ≤ len ∧ i = .int .i64 q ∧ n = .int .i64 (cnA zs x q : Nat)) (fun _ i => len - (intOf i).toNat)
  case atStart => exact ⟨0, by omega, rfl, rfl⟩
  case round =>
    obtain ⟨q, hq, rfl, rfl⟩ := hrel
    have HSC : Hid (cnA zs x (q + 1) = cnA zs x q + if gt zs q = x then 1 else 0) := rfl
    have hle := cnA_le zs x q
    obtain ⟨n, hn⟩ : ∃ n, n = cnA zs x q := ⟨_, rfl⟩
    rw [← hn] at HSC hle ⊢
    by_cases hql : q < len
    · obtain ⟨b, off, hab, hb0, hcells⟩ := HI.out.cellZ (by rw [HZ.out]; omega)
      subst hab
      have hcq := hcells q (by rw [HZ.out]; exact hql)
      obtain ⟨y, hy⟩ : ∃ y, y = gt zs q := ⟨_, rfl⟩
      rw [← hy] at hcq HSC
      have q0 : (0 : Int) ≤ (q : Int) := by omega
      have q1 : (q : Int) < (len : Int) := by omega
      clear hy hn hcells
      by_cases hyx : y = x
      · have HE : Hid (cnA zs x (q + 1) = n + 1) := by show _ = _; rw [HSC.out, if_pos hyx]
        have he : (y == x) = true := by simp [hyx]
        clear hyx
        go_wp2
        go_round
        case rel => exact ⟨q + 1, by omega, by go_num, by rw [HE.out]; go_num⟩
        case measure => simp [intOf]; omega
      · have HE : Hid (cnA zs x (q + 1) = n) := by show _ = _; rw [HSC.out, if_neg hyx]; rfl
        have he : (y == x) = false := by simp [hyx]
        clear hyx
        go_wp2
        go_round
        case rel => exact ⟨q + 1, by omega, by go_num, by rw [HE.out]⟩
        case measure => simp [intOf]; omega
    · obtain rfl : q = len := by omega
      have HN : Hid (n = v) := by show _ = _; rw [← HV.out, HZ.out]; exact hn
      clear hn
      go_wp2
      go_ret
      exact ⟨ret_i (by rw [HN.out]), rfl⟩

set_option maxRecDepth 20000 in
set_option maxHeartbeats 1000000 in
theorem pans_any (a : Option Addr) (len cap : Nat) (zs : List Int) (w : World) (h : IntsAt w a zs) (hz : zs.length = len) (hm : len ≤ maxLen) :
    Calls Try.prog 32 #[.slice a len cap] w fun e w' => e = .returned (.int .i64 (ansR zs)) ∧ Below w.heap.size w w' := by
  have HI := Lib.hid h
  have HZ := Lib.hid hz
  have HM := Lib.hid hm
  unfold maxLen at hm
  by_cases h7 : 7 < len
  · have HR := Lib.hid (ansR_long (zs := zs) (by omega))
    have h7' : (7 : Int) < (len : Int) := by omega
    clear h hz
    go_enter Try.func32, Try.ntmps32
    go_wp2
    go_ret
    exact ⟨ret_i (by rw [HR.out]), Below.refl _ _⟩
  have H7 : Hid (zs.length ≤ 7) := by show _ ≤ _; omega
  have h7' : ¬ (7 : Int) < (len : Int) := by omega
  clear h hz
  go_enter Try.func32, Try.ntmps32
  go_wp2
  go_loop [10] (fun i => ∃ k : Nat, k ≤ len ∧ i = .int .i64 k ∧ Hid (∀ j, j < k → mjA zs (gt zs j) = false)) (fun i => len - (intOf i).toNat)
  case atStart => exact ⟨0, by omega, rfl, fun j hj => by omega⟩
  case round =>
    obtain ⟨k, hk, rfl, HN⟩ := hrel
    by_cases hlt : k < len
    · obtain ⟨b, off, hab, hb0, hcells⟩ := HI.out.cellZ (by rw [HZ.out]; omega)
      have hck := hcells k (by rw [HZ.out]; exact hlt)
      obtain ⟨x, hx⟩ : ∃ x, x = gt zs k := ⟨_, rfl⟩
      rw [← hx] at hck
      have HX := Lib.hid hx
      have k0 : (0 : Int) ≤ (k : Int) := by omega
      have k1 : (k : Int) < (len : Int) := by omega
      obtain ⟨n, hn⟩ : ∃ n, cnA zs x zs.length = n := ⟨_, rfl⟩
      have hle := cnA_le zs x zs.length
      rw [hn, HZ.out] at hle
      have HV := Lib.hid hn
      have HM2 : Hid (mjA zs (gt zs k) = decide (len < 2 * n)) := by show _ = _; rw [← HX.out]; unfold mjA; rw [hn, HZ.out]
      have HAB := Lib.hid hab
      subst hab
      clear hcells hx hn
      by_cases hmj : len < 2 * n
      · have HA : Hid (ansR zs = x) := by show _ = _; rw [HX.out]; exact ansR_some H7.out (by rw [HZ.out]; exact hlt) (by rw [HM2.out]; simpa using hmj)
        have hmj' : (len : Int) < 2 * (n : Int) := by omega
        go_wp2_with fail
        refine (times_as n _ len cap zs x w HI.out HZ.out HM.out HV.out).mono ?_
        rintro e w' ⟨rfl, rfl⟩
        go_wp2
        go_ret
        exact ⟨ret_i (by rw [HA.out]), Below.refl _ _⟩
      · have HF : Hid (mjA zs (gt zs k) = false) := by show _ = _; rw [HM2.out]; simpa using hmj
        have hmj' : ¬ (len : Int) < 2 * (n : Int) := by omega
        go_wp2_with fail
        refine (times_as n _ len cap zs x w HI.out HZ.out HM.out HV.out).mono ?_
        rintro e w' ⟨rfl, rfl⟩
        clear hck
        go_wp2
        go_round
        case rel => exact ⟨k + 1, by omega, by go_num, fun j hj => by rcases Nat.lt_or_ge j k with h' | h'; exact HN.out j h'; obtain rfl : j = k := (by omega); exact HF.out⟩
        case measure => simp [intOf]; omega
    · have HA : Hid (ansR zs = -1) := ansR_none H7.out fun i hi => HN.out i (by rw [HZ.out] at hi; omega)
      go_wp2
      go_ret
      exact ⟨ret_i (by rw [HA.out]), Below.refl _ _⟩
end Go.Proofs.Ytblhaccjngjekaa
