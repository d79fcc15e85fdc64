/- The steps of the model: dropping, adopting, closer successors, notifying, stabilizing. -/
import Derived.Test.YtfhjmfcdogpbeaaSetS
import Derived.Test.YtfhjmfcdogpbeaaStepMath
namespace Go.Proofs.Ytfhjmfcdogpbeaa
open Go.RowKit
set_option linter.unusedVariables false

theorem NewOwn.toRB {r : List Nd} {w w' : World} {N cap : Nat} {F : Nat → Nat} {b : Bool} {w1 : World} (hb : Below w.heap.size w w1) (ho : RingOwn w' w1.heap.size w'.heap.size N r F) (h1 : r.length ≤ cap) (h2 : cap ≤ maxLen) (hB : Below w1.heap.size w1 w') :
    ∀ n, n = r.length → NewRB r b w (.returned (.tuple #[.slice (some ⟨N, 0, none⟩) n cap, .bool b])) w' := fun n hn =>
  ⟨N, cap, F, by rw [hn], ho.wide hb.size (Nat.le_refl _), h1, h2, hb.trans (hB.mono hb.size)⟩
theorem NewOwn.mono {r : List Nd} {w w1 w2 : World} {e : Ending} (h : NewOwn r w1 e w2) (hb : Below w.heap.size w w1) : NewOwn r w e w2 := by
  obtain ⟨N, cap, F, he, ho, h1, h2, hB⟩ := h
  exact ⟨N, cap, F, he, ho.wide hb.size (Nat.le_refl _), h1, h2, hb.trans (hB.mono hb.size)⟩
theorem maxOf {r : List Nd} (h : rvB r = true) : r.length ≤ maxLen := by have := rv_len h; unfold maxLen; omega

theorem vi_new {w W : World} {o1 : Obj} {x y : Int} (h : W = ((w.alloc o1).alloc (.cells #[.int .i64 x, .int .i64 y] 3)).drew) :
    Below w.heap.size w W ∧ IntsAt W (some ⟨w.heap.size + 1, 0, none⟩) [x, y] ∧ W.heap[w.heap.size]? = some o1 := by
  obtain ⟨_, h1, h2, h3⟩ := two_new (rfl : (w.alloc o1).alloc (.cells #[.int .i64 x, .int .i64 y] 3) = _)
  subst h
  refine ⟨h1.drew, .inr ⟨w.heap.size + 1, 0, rfl, heap_lt h3, fun i hi => ?_⟩, h2⟩
  have : i = 0 ∨ i = 1 := by simp at hi; omega
  rcases this with rfl | rfl
  · exact (cell_of_cells h3 0).trans rfl
  · exact (cell_of_cells h3 1).trans rfl

set_option maxHeartbeats 2000000 in
theorem sdrop_any (a : Option Addr) (len cap k : Nat) (r : List Nd) (w : World) (h : RingAt w a r) (hz : r.length = len) (hv : rvB r = true) (hk : k < len) :
    Calls Try.prog 98 #[.slice a len cap, .int .i64 k] w (NewRB (dropR r k) (dropB r k) w) := by
  have hkr : k < r.length := by rw [hz]; exact hk
  have hm := maxOf hv
  rw [hz] at hm
  obtain ⟨b, off, rfl, hb0, hnodes⟩ := h.at_ hkr
  obtain ⟨sa, sc, hc0, hc1, hc2, hl, hmx, hints⟩ := node_open (hnodes k hkr)
  obtain ⟨hp, hbf, h0, h1, ha⟩ := nd_open hv hkr
  have HP : Hid (dropS r k = r.set k ⟨(gn r k).pos, (gn r k).bef, [gt (gn r k).aft 1, (gt (gn r k).aft 1 + 1) % 64]⟩) := rfl
  have HB : Hid (dropB r k = !liveB r (gt (gn r k).aft 0)) := rfl
  have HR : Hid (dropR r k = if liveB r (gt (gn r k).aft 0) then r else dropS r k) := rfl
  rw [ha] at hints hc2 hl
  simp only [List.length_cons, List.length_nil, Nat.zero_add] at hc2 hl
  obtain ⟨b3, o3, rfl, hb3, hx3, hy3⟩ := ints_two hints
  generalize gt (gn r k).aft 0 = x at *
  generalize gt (gn r k).aft 1 = y at *
  have HI := Lib.hid h
  have HZ := Lib.hid hz
  have HV := Lib.hid hv
  have HM := Lib.hid hm
  clear h hz hv hints hnodes hmx ha
  have hb0 : ∀ o, Below w.heap.size w (w.alloc o) := fun o => (Below.refl _ _).alloc (Nat.le_refl _) _
  have HB0 := Lib.hid hb0
  clear hb0
  cases hlx : liveB r x
  · have hfd : fndI r x = -1 := fnd_dead hlx
    have HLX := Lib.hid hlx
    have HFD := Lib.hid hfd
    clear hlx hfd
    go_enter Try.func98, Try.ntmps98
    go_wp2_with fail
    refine (sfind_any _ len cap r x _ (HI.out.keepB (HB0.out _) (Nat.le_refl _)) HZ.out HM.out).mono ?_
    rintro e w1 ⟨rfl, rfl⟩
    rw [HFD.out]
    have t1 : (y + 1).tmod 64 = (y + 1) % 64 := Int.tmod_eq_emod_of_nonneg (by omega)
    go_wp2
    go_region
    generalize hW : ((w.alloc (Obj.cells #[Value.int IntKind.i64 (gn r k).pos, Value.int IntKind.i64 (gn r k).bef, Value.slice (some ⟨w.heap.size + 1, 0, none⟩) 2 2] 30)).alloc (Obj.cells #[Value.int IntKind.i64 y, Value.int IntKind.i64 ((y + 1) % 64)] 3)).drew = W
    obtain ⟨hBW, hIW, hV⟩ := vi_new hW.symm
    have y0 : W.cell? ⟨w.heap.size, 0, none⟩ = some (.int .i64 (gn r k).pos) := by rw [cell_of_cells hV]; rfl
    have y1 : W.cell? ⟨w.heap.size, 1, none⟩ = some (.int .i64 (gn r k).bef) := by rw [cell_of_cells hV]; rfl
    have y2 : W.cell? ⟨w.heap.size, 2, none⟩ = some (.slice (some ⟨w.heap.size + 1, 0, none⟩) 2 2) := by rw [cell_of_cells hV]; rfl
    have HIW := Lib.hid hIW
    clear hW hIW hV
    go_wp2_with fail
    refine (set_any _ len cap k r (gn r k).pos (gn r k).bef y ((y + 1) % 64) _ 2 W (HI.out.keepB hBW (Nat.le_refl _)) HZ.out HV.out hk HIW.out (Nat.le_refl _)).mono ?_
    rintro e w2 ⟨N, c2, F, rfl, ho, h1, h2, hB⟩
    have HO := Lib.hid ho
    have HC := Lib.hid (And.intro h1 h2)
    clear ho h1 h2
    go_wp2
    go_ret2
    rw [HB.out, HR.out, HLX.out, if_neg (by simp), HP.out]
    exact NewOwn.toRB hBW HO.out HC.out.1 HC.out.2 hB _ (by simp)
  · have hfd := idx_live hlx
    have HLX := Lib.hid hlx
    have HFD := Lib.hid hfd.2.2
    clear hlx hfd
    go_enter Try.func98, Try.ntmps98
    go_wp2_with fail
    refine (sfind_any _ len cap r x _ (HI.out.keepB (HB0.out _) (Nat.le_refl _)) HZ.out HM.out).mono ?_
    rintro e w1 ⟨rfl, rfl⟩
    rw [HFD.out]
    go_wp2_with fail
    refine (copy_any _ len cap r _ (HI.out.keepB (HB0.out _) (Nat.le_refl _)) HZ.out HV.out).mono ?_
    rintro e w2 ⟨N, c2, F, rfl, ho, h1, h2, hB⟩
    have HO := Lib.hid ho
    have HC := Lib.hid (And.intro h1 h2)
    clear ho h1 h2
    go_wp2
    go_ret2
    rw [HB.out, HR.out, HLX.out, if_pos rfl]
    exact NewOwn.toRB (HB0.out _) HO.out HC.out.1 HC.out.2 hB _ (by simp)

set_option maxHeartbeats 2000000 in
theorem sfol_any (a : Option Addr) (len cap k s : Nat) (r : List Nd) (w : World) (h : RingAt w a r) (hz : r.length = len) (hv : rvB r = true) (hk : k < len) (hs : s < len) :
    Calls Try.prog 103 #[.slice a len cap, .int .i64 k, .int .i64 s] w (NewOwn (folR r k s) w) := by
  have hkr : k < r.length := by rw [hz]; exact hk
  have hsr : s < r.length := by rw [hz]; exact hs
  have hm := maxOf hv
  rw [hz] at hm
  obtain ⟨b, off, rfl, hb0, hnodes⟩ := h.at_ hkr
  obtain ⟨sa, sc, hc0, hc1, hc2, hl, hmx, hints⟩ := node_open (hnodes k hkr)
  obtain ⟨sa', sc', hd0, hd1, hd2, hl', hmx', hints'⟩ := node_open (hnodes s hsr)
  obtain ⟨hp', hbf', h0', h1', ha'⟩ := nd_open hv hsr
  have HP : Hid (folR r k s = r.set k ⟨(gn r k).pos, (gn r k).bef, [(gn r s).pos, gt (gn r s).aft 0]⟩) := rfl
  rw [ha'] at hints' hd2 hl'
  simp only [List.length_cons, List.length_nil, Nat.zero_add] at hd2 hl'
  obtain ⟨b3, o3, rfl, hb3, hx3, hy3⟩ := ints_two hints'
  generalize gt (gn r s).aft 0 = x at *
  generalize gt (gn r s).aft 1 = y at *
  generalize (gn r s).pos = ps at *
  generalize (gn r k).aft.length = ln at *
  have HI := Lib.hid h
  have HZ := Lib.hid hz
  have HV := Lib.hid hv
  have q0 : (0 : Int) ≤ (s : Int) := by omega
  have q1 : (s : Int) < (len : Int) := by omega
  clear h hz hv hints hints' hnodes hmx hmx' ha'
  go_enter Try.func103, Try.ntmps103
  go_wp2
  go_region
  generalize hW : ((w.alloc (Obj.cells #[Value.int IntKind.i64 (gn r k).pos, Value.int IntKind.i64 (gn r k).bef, Value.slice (some ⟨w.heap.size + 1, 0, none⟩) 2 2] 30)).alloc (Obj.cells #[Value.int IntKind.i64 ps, Value.int IntKind.i64 x] 3)).drew = W
  obtain ⟨hBW, hIW, hV⟩ := vi_new hW.symm
  have y0 : W.cell? ⟨w.heap.size, 0, none⟩ = some (.int .i64 (gn r k).pos) := by rw [cell_of_cells hV]; rfl
  have y1 : W.cell? ⟨w.heap.size, 1, none⟩ = some (.int .i64 (gn r k).bef) := by rw [cell_of_cells hV]; rfl
  have y2 : W.cell? ⟨w.heap.size, 2, none⟩ = some (.slice (some ⟨w.heap.size + 1, 0, none⟩) 2 2) := by rw [cell_of_cells hV]; rfl
  have HIW := Lib.hid hIW
  clear hW hIW hV
  go_wp2_with fail
  refine (set_any _ len cap k r (gn r k).pos (gn r k).bef ps x _ 2 W (HI.out.keepB hBW (Nat.le_refl _)) HZ.out HV.out hk HIW.out (Nat.le_refl _)).mono ?_
  rintro e w2 ⟨N, c2, F, rfl, ho, h1, h2, hB⟩
  have HO := Lib.hid ho
  have HC := Lib.hid (And.intro h1 h2)
  clear ho h1 h2
  go_wp2
  go_ret
  rw [HP.out]
  exact NewOwn.mono ⟨N, c2, F, by rw [List.length_set]; rfl, HO.out, HC.out.1, HC.out.2, hB⟩ hBW

set_option maxHeartbeats 2000000 in
theorem sadopt_any (a : Option Addr) (len cap k : Nat) (r : List Nd) (w : World) (h : RingAt w a r) (hz : r.length = len) (hv : rvB r = true) (hk : k < len) :
    Calls Try.prog 99 #[.slice a len cap, .int .i64 k] w (NewRB (adoptR r k) (adoptB r k) w) := by
  have hkr : k < r.length := by rw [hz]; exact hk
  have hm := maxOf hv
  rw [hz] at hm
  obtain ⟨b, off, rfl, hb0, hnodes⟩ := h.at_ hkr
  obtain ⟨sa, sc, hc0, hc1, hc2, hl, hmx, hints⟩ := node_open (hnodes k hkr)
  obtain ⟨hp, hbf, h0, h1, ha⟩ := nd_open hv hkr
  have HB : Hid (adoptB r k = liveB r (gt (gn r k).aft 0)) := rfl
  have HR : Hid (adoptR r k = if liveB r (gt (gn r k).aft 0) then folR r k (idxR r (gt (gn r k).aft 0)) else r) := rfl
  rw [ha] at hints hc2 hl
  simp only [List.length_cons, List.length_nil, Nat.zero_add] at hc2 hl
  obtain ⟨b3, o3, rfl, hb3, hx3, hy3⟩ := ints_two hints
  generalize gt (gn r k).aft 0 = x at *
  generalize gt (gn r k).aft 1 = y at *
  have HI := Lib.hid h
  have HZ := Lib.hid hz
  have HV := Lib.hid hv
  have HM := Lib.hid hm
  clear h hz hv hints hnodes hmx ha
  cases hlx : liveB r x
  · have hfd : fndI r x = -1 := fnd_dead hlx
    have HLX := Lib.hid hlx
    have HFD := Lib.hid hfd
    clear hlx hfd
    go_enter Try.func99, Try.ntmps99
    go_wp2_with fail
    refine (sfind_any _ len cap r x _ HI.out HZ.out HM.out).mono ?_
    rintro e w1 ⟨rfl, rfl⟩
    rw [HFD.out]
    go_wp2_with fail
    refine (copy_any _ len cap r _ HI.out HZ.out HV.out).mono ?_
    rintro e w2 ⟨N, c2, F, rfl, ho, h1, h2, hB⟩
    have HO := Lib.hid ho
    have HC := Lib.hid (And.intro h1 h2)
    clear ho h1 h2
    go_wp2
    go_ret2
    rw [HB.out, HR.out, HLX.out, if_neg (by simp)]
    exact NewOwn.toRB (Below.refl _ _) HO.out HC.out.1 HC.out.2 hB _ (by simp)
  · have hfd := idx_live hlx
    have HLX := Lib.hid hlx
    have HFD := Lib.hid hfd.2.2
    have hil : idxR r x < len := by rw [← HZ.out]; exact hfd.1
    clear hlx hfd
    go_enter Try.func99, Try.ntmps99
    go_wp2_with fail
    refine (sfind_any _ len cap r x _ HI.out HZ.out HM.out).mono ?_
    rintro e w1 ⟨rfl, rfl⟩
    rw [HFD.out]
    go_wp2_with fail
    refine (sfol_any _ len cap k _ r _ HI.out HZ.out HV.out hk hil).mono ?_
    rintro e w2 ⟨N, c2, F, rfl, ho, h1, h2, hB⟩
    have HO := Lib.hid ho
    have HC := Lib.hid (And.intro h1 h2)
    clear ho h1 h2
    go_wp2
    go_ret2
    rw [HB.out, HR.out, HLX.out, if_pos rfl]
    exact NewOwn.toRB (Below.refl _ _) HO.out HC.out.1 HC.out.2 hB _ (by simp)
end Go.Proofs.Ytfhjmfcdogpbeaa
