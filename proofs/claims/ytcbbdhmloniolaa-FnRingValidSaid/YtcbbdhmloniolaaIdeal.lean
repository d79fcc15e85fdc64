/- Linked peers that know their neighbours: RingIdeal. -/
import Derived.Test.YtcbbdhmloniolaaNet2
import Derived.LaidEqlPtr
namespace Go.Proofs.Ytcbbdhmloniolaa
open Go.RowKit
set_option linter.unusedVariables false

/-- the place some steps above, around the end -/
def nbI (len i : Nat) (s : Int) : Nat := (((i : Int) + s + len) % len).toNat
theorem nb_lt {len i : Nat} {s : Int} (h : 0 < len) : nbI len i s < len := by
  unfold nbI
  have h1 := Int.emod_nonneg ((i : Int) + s + len) (b := (len : Int)) (by omega)
  have h2 := Int.emod_lt_of_pos ((i : Int) + s + len) (b := (len : Int)) (by omega)
  omega
theorem nb_tmod {len i : Nat} {s : Int} (h : 0 < len) (hs : -1 ≤ s) : ((i : Int) + s + len).tmod len = (nbI len i s : Nat) := by
  unfold nbI
  have h1 := Int.emod_nonneg ((i : Int) + s + len) (b := (len : Int)) (by omega)
  rw [Int.tmod_eq_emod_of_nonneg (by omega)]
  omega

set_option maxHeartbeats 400000 in
theorem nb_any (L len cap i : Nat) (s : Int) (v : Value) (w : World) (hl : 1 ≤ len) (hl' : len ≤ 10) (hi : i < len) (hs : -1 ≤ s) (hs' : s ≤ 2) (hc : w.cell? ⟨L, nbI len i s, none⟩ = some v) :
    Calls Try.prog 78 #[.slice (some ⟨L, 0, none⟩) len cap, .int .i64 i, .int .i64 s] w fun e w' => e = .returned v ∧ w = w' := by
  have ht := nb_tmod (len := len) (i := i) (s := s) (by omega) hs
  have hlt := nb_lt (len := len) (i := i) (s := s) (by omega)
  have h0 : (len : Int) ≠ 0 := by omega
  go_enter Try.func78, Try.ntmps78
  go_wp2
  go_ret
  exact ⟨rfl, rfl⟩

theorem ptr_iff {w : World} {L : Nat} {r : List Nd} {K : Nat → Option Pr} (h : Net w L r K) {z z' : Int} {g g' : Nat} (hz : 0 ≤ z ∧ z < 64) (hz' : 0 ≤ z' ∧ z' < 64) (hp : PtrOf K z (some ⟨g, 0, none⟩)) (hp' : PtrOf K z' (some ⟨g', 0, none⟩)) : g = g' ↔ z = z' := by
  obtain ⟨base, c, tp, la, h1, _⟩ := h
  obtain ⟨q, hq, e⟩ := hp
  obtain ⟨q', hq', e'⟩ := hp'
  have eg : q.blk = g := by simp [Pr.ad] at e; exact e.symm
  have eg' : q'.blk = g' := by simp [Pr.ad] at e'; exact e'.symm
  constructor
  · intro hgg
    have := h1.inj (x := z.toNat) (y := z'.toNat) (by omega) (by omega) hq hq' (by rw [eg, eg', hgg])
    omega
  · intro hzz
    subst hzz
    rw [hq] at hq'
    injection hq' with hq'
    subst hq'
    rw [← eg, ← eg']

theorem Net.blk {w : World} {L : Nat} {r : List Nd} {K : Nat → Option Pr} (h : Net w L r K) {z : Int} {g : Nat} (hz : 0 ≤ z ∧ z < 64) (hp : PtrOf K z (some ⟨g, 0, none⟩)) : ∃ cs, w.heap[g]? = some (.cells cs 91 (0, 0)) := by
  obtain ⟨base, c, tp, la, h1, _⟩ := h
  obtain ⟨q, hq, e⟩ := hp
  have eg : q.blk = g := by simp [Pr.ad] at e; exact e.symm
  exact ⟨_, eg ▸ (h1.peer _ _ (by omega) hq).1⟩
/-- two peers are compared -/
theorem peq {w : World} {a b : Nat} {ca cb : Array Value} (ha : w.heap[a]? = some (.cells ca 91 (0, 0))) (hb : w.heap[b]? = some (.cells cb 91 (0, 0))) :
    (binOp .eql 74 (.pointer (some ⟨a, 0, none⟩)) (.pointer (some ⟨b, 0, none⟩))).run Try.prog w = .ok (.bool (decide (a = b))) w := by
  have hi : (Try.prog.info? 91).map (fun i => i.size) = some 5 := by kernel_rfl
  obtain ⟨i, hi1, hi2⟩ := Option.map_eq_some_iff.1 hi
  by_cases h : a = b
  · subst h
    rw [run_eql_ptr_same w _ Try.underlying74 hi1]; simp
  · rw [run_eql_ptr_other w Try.underlying74 hi1 (by omega) (by intro e; injection e with e; exact h e) ha hb]; simp [h]
theorem pne {w : World} {a b : Nat} {ca cb : Array Value} (ha : w.heap[a]? = some (.cells ca 91 (0, 0))) (hb : w.heap[b]? = some (.cells cb 91 (0, 0))) :
    (binOp .neq 74 (.pointer (some ⟨a, 0, none⟩)) (.pointer (some ⟨b, 0, none⟩))).run Try.prog w = .ok (.bool (!decide (a = b))) w := by
  have h := peq ha hb
  simp only [binOp] at h ⊢
  cases he : (Op.equal 74 (.pointer (some ⟨a, 0, none⟩)) (.pointer (some ⟨b, 0, none⟩))).run Try.prog w <;> simp [he] at h ⊢
  obtain ⟨h1, h2⟩ := h
  simp [h1, h2]
theorem pnil (w : World) (b : Nat) : (binOp .eql 74 (.pointer none) (.pointer (some ⟨b, 0, none⟩))).run Try.prog w = .ok (.bool false) w := by
  have h : ∀ d : Nat, (Op.equalIn (d + 1) 74 (.pointer none) (.pointer (some ⟨b, 0, none⟩))).run Try.prog w = .ok false w := fun d => by
    simp [Op.equalIn, run_underlying Try.underlying74]
  simp only [binOp]
  simp [Op.equal, Op.maxDepth, h 9999]

/-- a node knows its neighbours -/
def kn1 (r : List Nd) (i : Nat) (k : Nat) (s : Int) : Bool := decide (gt (gn r i).aft k = (gn r (nbI r.length i s)).pos)
def knb (r : List Nd) (i : Nat) : Bool := decide ((gn r i).bef = (gn r (nbI r.length i (-1))).pos)
def knB (r : List Nd) (i : Nat) : Bool := kn1 r i 0 1 && kn1 r i 1 2 && knb r i

def KnAt (r : List Nd) (i : Nat) (v : Value) : Prop := v = .int .i64 0 ∨ (v = .int .i64 1 ∧ Hid (kn1 r i 0 1 = true)) ∨ (v = .int .i64 2 ∧ Hid (kn1 r i 0 1 = true) ∧ Hid (kn1 r i 1 2 = true))

set_option maxHeartbeats 1000000 in
theorem kn_any (v : Bool) (L : Nat) (r : List Nd) (K : Nat → Option Pr) (len cap i : Nat) (w : World) (h : Net w L r K) (hv : rvB r = true) (hz : r.length = len) (h3 : 3 ≤ len) (hi : i < len) (hres : knB r i = v) :
    Calls Try.prog 56 #[.slice (some ⟨L, 0, none⟩) len cap, .int .i64 i] w fun e w' => e = .returned (.bool v) ∧ Same w w' := by
  have hm := rv_len hv
  subst hz
  obtain ⟨g, b, s0, s1, hp, hL, hc, hc0, hc2, hc3, hc4, hb, h0, h1⟩ := h.at_ hv hi
  obtain ⟨hpp, hbf, x, y, ha, hx, hy⟩ := (ndB_iff _).1 (rv_nd hv hi)
  have ea : gt (gn r i).aft 0 = x := by rw [ha]; rfl
  have eb : gt (gn r i).aft 1 = y := by rw [ha]; rfl
  rw [ea] at h0
  rw [eb] at h1
  obtain ⟨g0, rfl, _⟩ := h.peer hv hx h0
  obtain ⟨g1, rfl, _⟩ := h.peer hv hy h1
  have n1 := nb_lt (len := r.length) (i := i) (s := 1) (by omega)
  have n2 := nb_lt (len := r.length) (i := i) (s := 2) (by omega)
  have nm := nb_lt (len := r.length) (i := i) (s := -1) (by omega)
  obtain ⟨q1, _, _, _, hq1, _, hd1, _⟩ := h.at_ hv n1
  obtain ⟨q2, _, _, _, hq2, _, hd2, _⟩ := h.at_ hv n2
  obtain ⟨qm, _, _, _, hqm, _, hdm, _⟩ := h.at_ hv nm
  have p1 := ((ndB_iff _).1 (rv_nd hv n1)).1
  have p2 := ((ndB_iff _).1 (rv_nd hv n2)).1
  have pm := ((ndB_iff _).1 (rv_nd hv nm)).1
  have c1 : (kn1 r i 0 1) = decide (g0 = q1) := by unfold kn1; rw [ea]; exact decide_eq_decide.2 (ptr_iff h hx p1 h0 hq1).symm
  have c2 : (kn1 r i 1 2) = decide (g1 = q2) := by unfold kn1; rw [eb]; exact decide_eq_decide.2 (ptr_iff h hy p2 h1 hq2).symm
  obtain ⟨d0, B0⟩ := h.blk hx h0
  obtain ⟨d1, B1⟩ := h.blk hy h1
  obtain ⟨e1, E1⟩ := h.blk p1 hq1
  obtain ⟨e2, E2⟩ := h.blk p2 hq2
  obtain ⟨em, EM⟩ := h.blk pm hqm
  have r1 : ∀ wr, Same w wr → (binOp .neq 74 (.pointer (some ⟨g0, 0, none⟩)) (.pointer (some ⟨q1, 0, none⟩))).run Try.prog wr = .ok (.bool (!decide (g0 = q1))) wr := fun wr hs => pne (by rw [hs.heap]; exact B0) (by rw [hs.heap]; exact E1)
  have r2 : ∀ wr, Same w wr → (binOp .neq 74 (.pointer (some ⟨g1, 0, none⟩)) (.pointer (some ⟨q2, 0, none⟩))).run Try.prog wr = .ok (.bool (!decide (g1 = q2))) wr := fun wr hs => pne (by rw [hs.heap]; exact B1) (by rw [hs.heap]; exact E2)
  have cm : ∀ wr, Same w wr → (binOp .eql 74 (.pointer b) (.pointer (some ⟨qm, 0, none⟩))).run Try.prog wr = .ok (.bool (knb r i)) wr := by
    intro wr hs
    unfold knb
    rcases hb with ⟨hb1, rfl⟩ | ⟨hb1, hb2⟩
    · rw [hb1]
      have : ¬ (-1 = (gn r (nbI r.length i (-1))).pos) := by omega
      rw [pnil]; simp [this]
    · have hbr : 0 ≤ (gn r i).bef ∧ (gn r i).bef < 64 := by omega
      obtain ⟨gb, rfl, _⟩ := h.peer hv hbr hb2
      obtain ⟨eb', EB⟩ := h.blk hbr hb2
      have := ptr_iff h hbr pm hb2 hqm
      rw [peq (by rw [hs.heap]; exact EB) (by rw [hs.heap]; exact EM)]
      rw [decide_eq_decide.2 this]
  have HD1 := Lib.hid hd1
  have HD2 := Lib.hid hd2
  have HDM := Lib.hid hdm
  have C1 := Lib.hid c1
  have C2 := Lib.hid c2
  have HR : Hid (knB r i = v) := hres
  have R1 := Lib.hid r1
  have R2 := Lib.hid r2
  have CM := Lib.hid cm
  clear hb h0 h1 ea eb ha hp h hpp hbf hx hy p1 p2 pm hq1 hq2 hqm hd1 hd2 hdm c1 c2 hc0 hres hv r1 r2 cm B0 B1 E1 E2 EM
  have i0 : ∀ w, (Instr.index 89 (.agg #[.pointer (some ⟨g0, 0, none⟩), .pointer (some ⟨g1, 0, none⟩)]) (.int .i64 0)).run Try.prog w = .ok (.pointer (some ⟨g0, 0, none⟩)) w := fun _ => by kernel_rfl
  have i1 : ∀ w, (Instr.index 89 (.agg #[.pointer (some ⟨g0, 0, none⟩), .pointer (some ⟨g1, 0, none⟩)]) (.int .i64 1)).run Try.prog w = .ok (.pointer (some ⟨g1, 0, none⟩)) w := fun _ => by kernel_rfl
  go_enter Try.func56, Try.ntmps56
  go_wp2
  go_loopw [16] (fun j wr => KnAt r i j ∧ Same w wr) (fun j _ => 2 - (intOf j).toNat)
  case atStart => exact ⟨.inl rfl, Same.refl _⟩
  case round =>
    obtain ⟨hrel, hs⟩ := hrel
    have e2 := (hs.cell ⟨g, 2, none⟩).trans hc2
    have f1 := Lib.hid ((hs.cell ⟨L, nbI r.length i 1, none⟩).trans HD1.out)
    have f2 := Lib.hid ((hs.cell ⟨L, nbI r.length i 2, none⟩).trans HD2.out)
    have fm := Lib.hid ((hs.cell ⟨L, nbI r.length i (-1), none⟩).trans HDM.out)
    rcases hrel with rfl | ⟨rfl, h1⟩ | ⟨rfl, h1, h2⟩
    · by_cases hk : g0 = q1
      · have HK : Hid (kn1 r i 0 1 = true) := C1.out.trans (by simp [hk])
        have hcmp := R1.out wr hs
        rw [show (!decide (g0 = q1)) = false by simp [hk]] at hcmp
        clear hk
        go_wp2_with fail
        refine (nb_any L r.length cap i 1 _ wr (by omega) hm hi (by omega) (by omega) f1.out).mono ?_
        rintro e w2 ⟨rfl, rfl⟩
        go_wp2
        go_roundw
        case rel => exact ⟨.inr (.inl ⟨rfl, HK⟩), hs⟩
        case measure => simp [intOf]
      · have HK : Hid (kn1 r i 0 1 = false) := C1.out.trans (by simp [hk])
        have hcmp := R1.out wr hs
        rw [show (!decide (g0 = q1)) = true by simp [hk]] at hcmp
        clear hk
        go_wp2_with fail
        refine (nb_any L r.length cap i 1 _ wr (by omega) hm hi (by omega) (by omega) f1.out).mono ?_
        rintro e w2 ⟨rfl, rfl⟩
        go_wp2
        go_ret
        exact ⟨ret_bool (by rw [← HR.out, knB, HK.out]; rfl), hs⟩
    · by_cases hk : g1 = q2
      · have HK : Hid (kn1 r i 1 2 = true) := C2.out.trans (by simp [hk])
        have hcmp := R2.out wr hs
        rw [show (!decide (g1 = q2)) = false by simp [hk]] at hcmp
        clear hk
        go_wp2_with fail
        refine (nb_any L r.length cap i 2 _ wr (by omega) hm hi (by omega) (by omega) f2.out).mono ?_
        rintro e w2 ⟨rfl, rfl⟩
        go_wp2
        go_roundw
        case rel => exact ⟨.inr (.inr ⟨rfl, h1, HK⟩), hs⟩
        case measure => simp [intOf]
      · have HK : Hid (kn1 r i 1 2 = false) := C2.out.trans (by simp [hk])
        have hcmp := R2.out wr hs
        rw [show (!decide (g1 = q2)) = true by simp [hk]] at hcmp
        clear hk
        go_wp2_with fail
        refine (nb_any L r.length cap i 2 _ wr (by omega) hm hi (by omega) (by omega) f2.out).mono ?_
        rintro e w2 ⟨rfl, rfl⟩
        go_wp2
        go_ret
        exact ⟨ret_bool (by rw [← HR.out, knB, h1.out, HK.out]; rfl), hs⟩
    · have hcmp : ∀ n, (binOp .eql 74 (.pointer b) (.pointer (some ⟨qm, 0, none⟩))).run Try.prog (wr.drewN n) = .ok (.bool (knb r i)) (wr.drewN n) := fun n => CM.out _ (hs.drewN n)
      go_wp2
      go_quiet ((go_at_call 78; exact Calls.quiet_of_same (calls_flip (nb_any L r.length cap i (-1) _ _ (by omega) hm hi (by omega) (by omega) fm.out))))
      go_wp2
      go_ret
      exact ⟨ret_bool (by rw [← HR.out, knB, h1.out, h2.out]; rfl), hs.drewN _⟩
end Go.Proofs.Ytcbbdhmloniolaa
