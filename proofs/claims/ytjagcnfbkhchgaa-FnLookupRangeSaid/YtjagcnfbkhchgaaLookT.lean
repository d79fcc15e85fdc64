/- Lookups: the nodes of a range, as the program finds them: an iterator, and a loop over it that breaks. -/
import Derived.Test.YtjagcnfbkhchgaaLookR
import Derived.Stop.RegionWithIn
import Derived.IntWalk
import Derived.BigRegionIn
namespace Go.Proofs.Ytjagcnfbkhchgaa
open Go.RowKit Go.Shelf
set_option linter.unusedVariables false

attribute [local go_sem] Oper.semAt_some

theorem rng_upto {zs : List Int} {k : Nat} {a b : Int} : ∀ x, x ≤ zs.length → (∀ y, y < x → ¬ dist a b ≤ dist a (gRot zs k y)) → rngL zs k a b = rotTo zs k x ++ rngF zs k a b (zs.length - x) x := by
  intro x
  induction x with
  | zero => intro _ _; simp [rngL, rotTo]
  | succ x ih =>
    intro hx h
    rw [ih (by omega) (fun y hy => h y (by omega)), show zs.length - x = (zs.length - (x + 1)) + 1 by omega, rngF, if_neg (h x (by omega)), rotTo_succ]
    simp
theorem rng_all {zs : List Int} {k : Nat} {a b : Int} (h : ∀ y, y < zs.length → ¬ dist a b ≤ dist a (gRot zs k y)) : rngL zs k a b = rotTo zs k zs.length := by
  rw [rng_upto zs.length (Nat.le_refl _) h, Nat.sub_self, rngF]; simp
theorem rng_stop {zs : List Int} {k x : Nat} {a b : Int} (hx : x < zs.length) (h : ∀ y, y < x → ¬ dist a b ≤ dist a (gRot zs k y)) (hd : dist a b ≤ dist a (gRot zs k x)) : rngL zs k a b = rotTo zs k (x + 1) := by
  rw [rng_upto x (by omega) h, show zs.length - x = (zs.length - (x + 1)) + 1 by omega, rngF, if_pos hd, rotTo_succ]

theorem index_as (a : Option Addr) (len cap : Nat) (zs : List Int) (key : Int) (w : World) (h : IntsAt w a zs) (hz : zs.length = len) (hm : len ≤ maxLen) (hv : vldB zs = true) (hk : ptB key = true) :
    Calls Try.prog 71 #[.slice a len cap, .int .i64 (nxtI zs key)] w fun e w' => e = .returned (.int .i64 (plc zs key)) ∧ w = w' := by
  rw [nxtI_eq hv hk]
  refine (index_any a len cap zs (nxtL zs key) w h hz hm).mono ?_
  rintro e w1 ⟨rfl, ⟨k, hk, hg, _, rfl⟩ | ⟨hh, rfl⟩⟩
  · have : k = plc zs key := place_one hv hk (plc_lt hv key) (by rw [hg, plc_gt hv key])
    rw [this]; exact ⟨rfl, rfl⟩
  · rw [(hasB_iff _ _).2 (nxt_mem hv key)] at hh; cases hh

/-- what a round that goes on keeps: all that lies below N, and the box of the nodes -/
def KpB (N Ba : Nat) (A B : World) : Prop := (∀ b, b < N → B.heap[b]? = A.heap[b]?) ∧ ∀ v, Boxed A Ba 23 v → Boxed B Ba 23 v
theorem KpB.trans {N Ba : Nat} {A B C : World} (h : KpB N Ba A B) (k : KpB N Ba B C) : KpB N Ba A C := ⟨fun b hb => (k.1 b hb).trans (h.1 b hb), fun v hv => k.2 v (h.2 v hv)⟩
theorem KpB.refl (N Ba : Nat) (A : World) : KpB N Ba A A := ⟨fun _ _ => rfl, fun _ h => h⟩
theorem KpB.put {N Ba : Nat} {w : World} (hN : N ≤ w.heap.size) (hB : Ba < w.heap.size) (W : World) (l : Nat) (o o' : Obj) (hl : w.heap.size ≤ l) (h : W.heap[l]? = some o) (_ : o.isCells = false) (_ : o.isWalk = false) : KpB N Ba W (W.putObj l o') :=
  ⟨fun b hb => World.putObj_heap_other (by omega), fun v hv => (World.putObj_heap_other (by omega)).trans hv⟩

/-- a round has said whether it goes on -/
def YieldOut (A B : World → Prop) (e : Ending) (W : World) : Prop := ∃ r : Bool, e = .returned (.bool r) ∧ ((r = true ∧ A W) ∨ (r = false ∧ B W))
theorem yieldOut_of {A1 A2 B : World → Prop} {e : Ending} {W : World} (h : (e = .returned (.bool true) ∧ A1 W ∧ A2 W) ∨ (e = .returned (.bool false) ∧ B W)) : YieldOut (fun W => A1 W ∧ A2 W) B e W := by
  rcases h with ⟨rfl, h⟩ | ⟨rfl, h⟩
  · exact ⟨true, rfl, .inl ⟨rfl, h⟩⟩
  · exact ⟨false, rfl, .inr ⟨rfl, h⟩⟩

set_option maxRecDepth 100000 in
set_option maxHeartbeats 2000000 in
theorem up1_in (n : Nat) (hn : 1 ≤ n) (l N Ba Bk b off : Nat) (len cap : Nat) (zs : List Int) (key : Int) (hb : b < N) (hv : vldB zs = true) (hk : ptB key = true) (hz : zs.length = len)
    (J Jx : List Int → World → Prop)
    (hY : ∀ pre x W, J pre W → pre.length < len → YieldAt Fence.wide (n - 1) Try.prog l #[.int .i64 x] W fun e W' =>
      (e = .returned (.bool true) ∧ J (pre ++ [x]) W' ∧ KpB N Ba W W') ∨ (e = .returned (.bool false) ∧ Jx (pre ++ [x]) W'))
    (W : World) (hJ : AbidesFrom W.heap.size J) (hbW : b < W.heap.size) (hI : ∀ i, i < len → W.cell? ⟨b, off + i, none⟩ = some (.int .i64 (gt zs i)))
    (ca : Boxed W Ba 23 (.slice (some ⟨b, off, none⟩) len cap)) (ck : W.cell? ⟨Bk, 0, none⟩ = some (.int .i64 key)) (h0 : J [] W) :
    CallsIn Fence.wide n Try.prog 70 #[.func (.yield l) #[] #[], .pointer (some ⟨Ba, 0, none⟩), .pointer (some ⟨Bk, 0, none⟩)] W fun e W' => (∃ v, e = .returned v) ∧
      ((∃ ys, ys = rotTo zs (plc zs key) len ∧ J ys W') ∨ (∃ pre, (∃ x, x < len ∧ pre = rotTo zs (plc zs key) (x + 1)) ∧ Jx pre W')) := by
  have hl := vld_len hv
  have hlen : 1 ≤ len ∧ len ≤ 10 := by omega
  have hpl : plc zs key < len := by rw [← hz]; exact plc_lt hv key
  have hIW : IntsAt W (some ⟨b, off, none⟩) zs := .inr ⟨b, off, rfl, hbW, fun i hi => hI i (by omega)⟩
  have hmx : len ≤ maxLen := by unfold maxLen; omega
  have HI := Lib.hid hI
  have HZ := Lib.hid hz
  have HM := Lib.hid hmx
  have HV := Lib.hid hv
  have HK := Lib.hid hk
  have HJ := Lib.hid hJ
  have HY := Lib.hid hY
  have CA := Lib.hid ca
  clear hI hz hmx hv hk hJ hY ca hl
  obtain ⟨hl1, hl2⟩ := hlen
  have x1 := CA.out.cell
  obtain ⟨pk, hpk⟩ : ∃ pk, plc zs key = pk := ⟨_, rfl⟩
  have HPK := Lib.hid hpk
  refine callsIn_of_wp Try.func70 rfl trivial ?_ rfl
  simp only [Try.ntmps70, List.size_toArray, List.length_cons, List.length_nil, Nat.reduceAdd, Nat.reduceSub, Array.replicate_succ, Array.replicate_zero, List.push_toArray, List.append_toArray, List.nil_append, List.cons_append]
  rw [hpk] at hpl ⊢
  clear hpk
  refine wpIn_wide.2 ?_
  go_wp2
  go_quiet ((first | (go_at_call 21; exact Calls.quiet_of_same (calls_flip (nnext_any _ _ _ zs _ _ (by exact hIW) HZ.out HM.out))) | (go_at_call 71; exact Calls.quiet_of_same (calls_flip (index_as _ _ _ zs _ _ (by exact hIW) HZ.out HM.out HV.out HK.out)))))
  clear ck
  rw [HPK.out]
  have hJ1 : J [] (W.drewN nq) := HJ.out [] W _ none h0 ⟨rfl, rfl, rfl, Nat.le_refl _, fun _ _ _ => rfl⟩ (fun r e => by cases e)
  have hW1 : KpB N Ba W (W.drewN nq) := ⟨fun _ _ => rfl, fun _ h => h⟩
  have x2 : (W.drewN nq).cell? ⟨Ba, 0, none⟩ = some (.slice (some ⟨b, off, none⟩) len cap) := x1
  clear x1
  generalize W.drewN nq = W1 at hJ1 hW1 x2 ⊢
  go_wp2
  clear x2
  refine (wpIn_wide (n := n)).1 ?_
  gi_loopw [13] (fun i wr => ∃ x : Nat, x ≤ len ∧ i = .int .i64 x ∧ J (rotTo zs pk x) wr ∧ KpB N Ba W wr) (fun i _ => len - (intOf i).toNat)
  case atStart => exact ⟨0, Nat.zero_le _, rfl, hJ1, hW1⟩
  case round =>
    obtain ⟨x, hx, rfl, hJs, hkp⟩ := hrel
    by_cases hlt : x < len
    · have hxi : (x : Int) < (len : Int) := by omega
      have hcell : Hid (wr.cell? ⟨b, off + (pk + x) % len, none⟩ = some (.int .i64 (gRot zs pk x))) := by
        show wr.cell? ⟨b, off + (pk + x) % len, none⟩ = some (.int .i64 (gRot zs pk x))
        have e1 := HI.out ((pk + x) % len) (Nat.mod_lt _ (by omega))
        unfold gRot
        rw [HZ.out, ← e1]
        exact World.cell?_of_block (w := W) (hkp.1 b hb)
      have hbx := (hkp.2 _ CA.out).cell
      obtain ⟨m, hm⟩ : ∃ m, (pk + x) % len = m := ⟨_, rfl⟩
      rw [hm] at hcell
      have hml : m < len := by rw [← hm]; exact Nat.mod_lt _ (by omega)
      have ht : (((pk : Int) + (x : Int))).tmod (len : Int) = (m : Int) := by rw [← hm]; rw [Int.tmod_eq_emod_of_nonneg (by omega)]; push_cast; rfl
      have hc := hcell.out
      clear hcell hm
      have hne : ¬ ((len : Int) = 0) := by omega
      have hJd : J (rotTo zs pk x) wr.drew := HJ.out _ wr _ none hJs ⟨rfl, rfl, rfl, Nat.le_refl _, fun _ _ _ => rfl⟩ (fun r e => by cases e)
      obtain ⟨fn, tmps, assign, body, hy, hR⟩ := HY.out _ (gRot zs pk x) wr.drew hJd (by rw [rotTo_len]; exact hlt)
      have hR2 := hR.mono (R' := YieldOut (fun W3 => J (rotTo zs pk x ++ [gRot zs pk x]) W3 ∧ KpB N Ba wr.drew W3) (Jx (rotTo zs pk x ++ [gRot zs pk x]))) (fun e W' h => yieldOut_of h)
      clear hR hJd hJs
      have hw1 : IntKind.i64.wrap ((pk : Int) + (x : Int)) = (pk : Int) + (x : Int) := IntWalk.i64_in _ (by omega)
      have hm0 : (0 : Int) ≤ (m : Int) := by omega
      have hm1 : (m : Int) < (len : Int) := by omega
      gi_wp2
      gi_region_with ((refine hR2.mono ?_; rintro e W3 ⟨r, rfl, hr⟩))
      all_goals
        clear hw1 ht hc hm0 hm1 hbx hy
        rcases hr with ⟨rfl, hJ3, hk3⟩ | ⟨rfl, hJx3⟩
        · gi_wp2
          go_roundw
          case rel => exact ⟨x + 1, by omega, by go_num, by rw [rotTo_succ]; exact hJ3, hkp.trans (show KpB N Ba wr W3 from hk3)⟩
          case measure => simp [intOf]; omega
        · gi_wp2
          refine bodyPost_ret (results_none rfl _ _ _) rfl ?_
          exact ⟨⟨_, rfl⟩, .inr ⟨_, ⟨x, hlt, (rotTo_succ _ _ _).symm⟩, hJx3⟩⟩
    · have hge : (len : Int) ≤ (x : Int) := by omega
      obtain rfl : x = len := by omega
      gi_wp2
      go_end0
      exact ⟨⟨_, rfl⟩, .inl ⟨_, rfl, hJs⟩⟩

set_option maxHeartbeats 1000000 in
theorem upward_any (a : Option Addr) (len cap : Nat) (key : Int) (w : World) :
    Calls Try.prog 56 #[.slice a len cap, .int .i64 key] w fun e w' =>
      e = .returned (.func (.func 70) #[] #[.pointer (some ⟨w.heap.size, 0, none⟩), .pointer (some ⟨w.heap.size + 1, 0, none⟩)]) ∧
      w' = (w.alloc (.cells #[.slice a len cap] 23)).alloc (.cells #[.int .i64 key] 3) := by
  go_enter Try.func56, Try.ntmps56
  go_wp2
  go_ret
  exact ⟨rfl, rfl⟩

theorem up_enters : ∀ args w, (callFunc 70 args).run Try.prog w = .ok (.enter 70 args) w := enters_of Try.func70 (by kernel_rfl) rfl
theorem up_stops (N Ba Bk b off len cap : Nat) (zs : List Int) (key : Int) (hb : b < N) (hv : vldB zs = true) (hk : ptB key = true) (hz : zs.length = len) (w0 : World) (hN : N ≤ w0.heap.size) (hBk : Bk < w0.heap.size)
    (hI : ∀ i, i < len → w0.cell? ⟨b, off + i, none⟩ = some (.int .i64 (gt zs i))) (ca : Boxed w0 Ba 23 (.slice (some ⟨b, off, none⟩) len cap)) (ck : w0.cell? ⟨Bk, 0, none⟩ = some (.int .i64 key)) :
    SeqStopsK Fence.wide 2 Try.prog 70 #[.pointer (some ⟨Ba, 0, none⟩), .pointer (some ⟨Bk, 0, none⟩)] (fun x : Int => #[Value.int .i64 x]) (KpB N Ba) (fun ys => ys = rotTo zs (plc zs key) len) (fun pre => ∃ x, x < len ∧ pre = rotTo zs (plc zs key) (x + 1)) len w0 := fun l J Jx W hW hJ _ hY h0 =>
  up1_in 2 (by omega) l N Ba Bk b off len cap zs key hb hv hk hz J Jx hY W hJ (by have := hW.size; omega) (fun i hi => (hW.cell (p := ⟨b, off + i, none⟩) (by show b < _; omega)).trans (hI i hi)) ((hW.block Ba ca.lt).trans ca) ((hW.cell (p := ⟨Bk, 0, none⟩) hBk).trans ck) h0

end Go.Proofs.Ytjagcnfbkhchgaa
