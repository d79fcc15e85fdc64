/- The program: the first token at a key or behind it, by binary search; the closure that finds a key's holder. -/
import Derived.Test.YtidabcdaodlfeaaPlP1
namespace Go.Proofs.Ytidabcdaodlfeaa
open Go.RowKit
set_option linter.unusedVariables false
attribute [local go_sem ↓] Go.wp_at_zero Go.wp_at_succ

theorem tb_ge {L : List Tk} (h : tbB L = true) {i : Nat} (hi : i < L.length) : (i : Int) ≤ (gk L i).p := by
  induction i with
  | zero => have := (tb_p h hi).1; omega
  | succ i ih => have h1 := ih (by omega); have h2 := tb_step h hi; omega
theorem tb_len64 {L : List Tk} (h : tbB L = true) : L.length ≤ 64 := by
  rcases Nat.lt_or_ge 64 L.length with h' | h'
  · have h1 := tb_ge h (i := 64) h'
    have h2 := tb_p h (k := 64) h'
    omega
  · exact h'
/-- the index of the token that holds a key -/
def atT (L : List Tk) (key : Int) : Nat := if fdT L key < L.length then fdT L key else 0
theorem atT_lt {L : List Tk} (h : 0 < L.length) (key : Int) : atT L key < L.length := by unfold atT; split <;> omega
theorem atT_own (L : List Tk) (key : Int) : (gk L (atT L key)).n = ownT L key := by unfold atT ownT; split <;> rfl
theorem atT_mod {L : List Tk} (h : 0 < L.length) (key : Int) : ((fdT L key : Nat) : Int).tmod (L.length : Int) = (atT L key : Nat) := by
  have hf := fdT_le L key
  rw [Int.tmod_eq_emod_of_nonneg (by omega)]
  unfold atT
  split
  · rename_i h'; exact Int.emod_eq_of_lt (by omega) (by omega)
  · rw [show fdT L key = L.length by omega]; simp

def cmpI (x y : Int) : Int := if x < y then -1 else if y < x then 1 else 0
theorem cmpI_neg {x y : Int} (h : x < y) : cmpI x y = -1 := by unfold cmpI; rw [if_pos h]
theorem cmpI_zero (x : Int) : cmpI x x = 0 := by unfold cmpI; rw [if_neg (by omega), if_neg (by omega)]
theorem cmpI_pos {x y : Int} (h : y < x) : cmpI x y = 1 := by unfold cmpI; rw [if_neg (by omega), if_pos h]
theorem cmpI_ge {x y : Int} (h : y ≤ x) : 0 ≤ cmpI x y := by unfold cmpI; split; omega; split <;> omega

set_option maxHeartbeats 1000000 in
theorem cmp_any (x y : Int) (w : World) :
    Calls Try.prog 86 #[.int .i64 x, .int .i64 y] w fun e w' => e = .returned (.int .i64 (cmpI x y)) ∧ w = w' := by
  go_enter Try.func86, Try.ntmps86
  go_wp2
  all_goals (go_ret; refine ⟨?_, rfl⟩; unfold cmpI; (repeat' split) <;> first | rfl | (exfalso; omega))

set_option maxHeartbeats 400000 in
theorem cmpP_any (x : Tk) (key : Int) (w : World) :
    Calls Try.prog 80 #[.agg #[.int .i64 x.p, .int .i64 x.n], .int .i64 key] w fun e w' => e = .returned (.int .i64 (cmpI x.p key)) ∧ Below w.heap.size w w' := by
  obtain ⟨p, n⟩ := x
  simp only at *
  have HB := Lib.hid (alB w)
  go_enter Try.func80, Try.ntmps80
  go_wp2_with fail
  refine (cmp_any _ _ _).mono ?_
  rintro e w' ⟨rfl, rfl⟩
  go_wp2
  go_ret
  exact ⟨rfl, HB.out _⟩

set_option maxHeartbeats 2000000 in
theorem bsf_any (a : Option Addr) (len cap : Nat) (L : List Tk) (key : Int) (w : World) (h : TkAt w a L) (hz : L.length = len) (hv : tbB L = true) :
    Calls Try.prog 79 #[.slice a len cap, .int .i64 key, .func (.func 80) #[] #[]] w fun e w' =>
      (∃ v : Bool, e = .returned (.tuple #[.int .i64 (fdT L key : Nat), .bool v])) ∧ Below w.heap.size w w' := by
  have HI := Lib.hid h
  have HZ := Lib.hid hz
  have HV := Lib.hid hv
  have h12 : len ≤ 64 := by have := tb_len64 hv; omega
  clear h hz hv
  go_enter Try.func79, Try.ntmps79
  go_wp2
  go_loopw [9, 10] (fun i j wr => ∃ p q : Nat, p ≤ q ∧ q ≤ len ∧ i = .int .i64 p ∧ j = .int .i64 q ∧ p ≤ fdT L key ∧ fdT L key ≤ q ∧ Below w.heap.size w wr) (fun i j _ => (intOf j).toNat - (intOf i).toNat)
  case atStart => exact ⟨0, len, by omega, by omega, rfl, rfl, by omega, by rw [← HZ.out]; exact fdT_le _ _, Below.refl _ _⟩
  case round =>
    obtain ⟨p, q, hpq, hq, rfl, rfl, hp1, hq1, hbel⟩ := hrel
    have HP := Lib.hid hp1
    have HQ := Lib.hid hq1
    clear hp1 hq1
    by_cases hlt : p < q
    · have hm1 : p ≤ (p + q) / 2 := by omega
      have hm2 : (p + q) / 2 < q := by omega
      obtain ⟨b, off, rfl, hb0, hcells⟩ := (HI.out.keepB hbel (Nat.le_refl _)).at_ (i := (p + q) / 2) (by rw [HZ.out]; omega)
      obtain ⟨hc0, hc1⟩ := hcells ((p + q) / 2) (by rw [HZ.out]; omega)
      obtain ⟨x, hx⟩ : ∃ x, x = gk L ((p + q) / 2) := ⟨_, rfl⟩
      rw [← hx] at hc0 hc1
      have HX := Lib.hid hx
      clear hcells hx
      by_cases hle : x.p < key
      · have hcm := Lib.hid (cmpI_neg hle)
        have hfd : Hid ((p + q) / 2 + 1 ≤ fdT L key) := by
          show (p + q) / 2 + 1 ≤ fdT L key
          rw [HX.out] at hle
          rcases Nat.lt_or_ge ((p + q) / 2) (fdT L key) with h' | h'
          · exact h'
          · exfalso
            have hv := HV.out
            have h1 := fdT_at (L := L) (key := key) (by rw [HZ.out]; omega)
            rcases Nat.eq_or_lt_of_le h' with h2 | h2
            · rw [h2] at h1; omega
            · have := tb_lt hv h2 (by rw [HZ.out]; omega); omega
        go_wp2_with fail
        refine (cmpP_any x key wr).mono ?_
        rintro e w2 ⟨rfl, hb2⟩
        rw [hcm.out]
        have hbel2 : Below w.heap.size w w2 := hbel.trans (hb2.mono hbel.size)
        go_wp2
        go_roundw
        case rel => exact ⟨(p + q) / 2 + 1, q, by omega, hq, by go_num, rfl, hfd.out, HQ.out, hbel2⟩
        case measure => simp [intOf]; omega
      · have hge : key ≤ x.p := by omega
        have hcm := Lib.hid (cmpI_ge hge)
        have hfd : Hid (fdT L key ≤ (p + q) / 2) := by
          show fdT L key ≤ (p + q) / 2
          rcases Nat.lt_or_ge ((p + q) / 2) (fdT L key) with h' | h'
          · have := fdT_below h'
            rw [← HX.out] at this; omega
          · exact h'
        go_wp2_with fail
        refine (cmpP_any x key wr).mono ?_
        rintro e w2 ⟨rfl, hb2⟩
        have hbel2 : Below w.heap.size w w2 := hbel.trans (hb2.mono hbel.size)
        have hc : ¬ cmpI x.p key < 0 := by have := hcm.out; omega
        generalize cmpI x.p key = c at *
        go_wp2
        go_roundw
        case rel => exact ⟨p, (p + q) / 2, by omega, by omega, rfl, by go_num, HP.out, hfd.out, hbel2⟩
        case measure => simp [intOf]; omega
    · obtain rfl : p = q := by omega
      have hpf : Hid (p = fdT L key) := by show p = fdT L key; have := HP.out; have := HQ.out; omega
      by_cases hl : p < len
      · obtain ⟨b, off, rfl, hb0, hcells⟩ := (HI.out.keepB hbel (Nat.le_refl _)).at_ (i := p) (by rw [HZ.out]; omega)
        obtain ⟨hc0, hc1⟩ := hcells p (by rw [HZ.out]; omega)
        obtain ⟨x, hx⟩ : ∃ x, x = gk L p := ⟨_, rfl⟩
        rw [← hx] at hc0 hc1
        clear hcells hx
        go_wp2_with fail
        refine (cmpP_any x key wr).mono ?_
        rintro e w2 ⟨rfl, hb2⟩
        have hbel2 : Below w.heap.size w w2 := hbel.trans (hb2.mono hbel.size)
        generalize cmpI x.p key = c at *
        go_wp2
        go_ret2
        exact ⟨⟨_, by rw [← hpf.out]; rfl⟩, hbel2⟩
      · go_wp2
        go_ret2
        exact ⟨⟨_, by rw [← hpf.out]; rfl⟩, hbel⟩

/-- a box that holds a table -/
structure TabIn (w : World) (tb : Nat) (a : Option Addr) (len cap : Nat) (L : List Tk) : Prop where
  cell : w.cell? ⟨tb, 0, none⟩ = some (.slice a len cap)
  lt : tb < w.heap.size
  tk : TkAt w a L
  len : L.length = len
  ok : tbB L = true
theorem TabIn.keepB {w w' : World} {B tb len cap : Nat} {a : Option Addr} {L : List Tk} (h : TabIn w tb a len cap L) (hb : Below B w w') (hB : w.heap.size ≤ B) : TabIn w' tb a len cap L :=
  ⟨(hb.cell (p := ⟨tb, 0, none⟩) (Nat.lt_of_lt_of_le h.lt hB)).trans h.cell, Nat.lt_of_lt_of_le h.lt hb.size, h.tk.keepB hb hB, h.len, h.ok⟩

set_option maxHeartbeats 1000000 in
theorem hold_any (a : Option Addr) (len cap tb : Nat) (L : List Tk) (key : Int) (w : World) (h : TabIn w tb a len cap L) :
    Calls Try.prog 78 #[.int .i64 key, .pointer (some ⟨tb, 0, none⟩)] w fun e w' => e = .returned (.int .i64 (ownT L key)) ∧ Below w.heap.size w w' := by
  have HT := Lib.hid h
  have h0 := tb_len h.ok
  have hl64 := tb_len64 h.ok
  have hf := fdT_le L key
  have ht := atT_mod h0 key
  have ha := atT_lt h0 key
  have HO := Lib.hid (atT_own L key)
  have hc := h.cell
  rw [h.len] at h0 hf ht ha hl64
  have hq : ((len : Int) == 0) = false := by simp; omega
  have hq' : ¬ (len : Int) = 0 := by omega
  clear h
  go_enter Try.func78, Try.ntmps78
  go_wp2_with fail
  refine (bsf_any a len cap L key w HT.out.tk HT.out.len HT.out.ok).mono ?_
  rintro e w2 ⟨⟨v, rfl⟩, hb2⟩
  have hT2 := HT.out.keepB hb2 (Nat.le_refl _)
  have hc2 := hT2.cell
  obtain ⟨b, off, rfl, hb0, hcells⟩ := hT2.tk.at_ (i := atT L key) (by rw [HT.out.len]; exact ha)
  obtain ⟨hd0, hd1⟩ := hcells (atT L key) (by rw [HT.out.len]; exact ha)
  clear hcells hT2 hc
  go_wp2_with fail
  go_quiet (fail)
  go_wp2
  go_ret
  exact ⟨ret_i HO.out, hb2.trans (((Same.refl w2).drewN _).below _)⟩

set_option maxHeartbeats 400000 in
theorem mkHold_any (a : Option Addr) (len cap : Nat) (w : World) :
    Calls Try.prog 61 #[.slice a len cap] w fun e w' => e = .returned (.func (.func 78) #[] #[.pointer (some ⟨w.heap.size, 0, none⟩)]) ∧ w' = w.alloc (.cells #[.slice a len cap] 31) := by
  go_enter Try.func61, Try.ntmps61
  go_wp2
  go_ret
  exact ⟨rfl, rfl⟩
theorem tabIn_new {w : World} {a : Option Addr} {len cap : Nat} {L : List Tk} (h : TkAt w a L) (hz : L.length = len) (hv : tbB L = true) : TabIn (w.alloc (.cells #[.slice a len cap] 31)) w.heap.size a len cap L :=
  ⟨by simp, by simp, h.keepB (alB w _) (Nat.le_refl _), hz, hv⟩

set_option maxHeartbeats 1000000 in
theorem pown_any (a : Option Addr) (len cap : Nat) (L : List Tk) (key : Int) (w : World) (h : TkAt w a L) (hz : L.length = len) (hm : len ≤ maxLen) :
    Calls Try.prog 27 #[.slice a len cap, .int .i64 key] w fun e w' => e = .returned (.int .i64 (ownR L key)) ∧ Below w.heap.size w w' := by
  have HI := Lib.hid h
  have HZ := Lib.hid hz
  have HM := Lib.hid hm
  clear h hz hm
  cases hv : tbB L
  · have HR := Lib.hid (ownR_bad (show ownOk L key = false by simp [ownOk, hv]))
    have HV := Lib.hid hv
    clear hv
    go_enter Try.func27, Try.ntmps27
    go_wp2_with fail
    refine (isTb_as false a len cap L w HI.out HZ.out HM.out HV.out).mono ?_
    rintro e w2 ⟨rfl, hb2⟩
    go_wp2
    go_ret
    exact ⟨ret_i HR.out.symm, hb2⟩
  cases hp : ptB key
  · have HR := Lib.hid (ownR_bad (show ownOk L key = false by simp [ownOk, hp]))
    have HV := Lib.hid hv
    clear hv
    go_enter Try.func27, Try.ntmps27
    go_wp2_with fail
    refine (isTb_as true a len cap L w HI.out HZ.out HM.out HV.out).mono ?_
    rintro e w2 ⟨rfl, hb2⟩
    go_wp2_with fail
    refine (valid_any key w2).mono ?_
    rintro e w' ⟨rfl, rfl⟩
    rw [hp]
    go_wp2
    go_ret
    exact ⟨ret_i HR.out.symm, hb2⟩
  · have HR := Lib.hid (ownR_ok (show ownOk L key = true by simp [ownOk, hp, hv]))
    have HV := Lib.hid hv
    clear hv
    go_enter Try.func27, Try.ntmps27
    go_wp2_with fail
    refine (isTb_as true a len cap L w HI.out HZ.out HM.out HV.out).mono ?_
    rintro e w2 ⟨rfl, hb2⟩
    go_wp2_with fail
    refine (valid_any key w2).mono ?_
    rintro e w' ⟨rfl, rfl⟩
    rw [hp]
    clear hp
    have HT := Lib.hid (tabIn_new (cap := cap) (HI.out.keepB hb2 (Nat.le_refl _)) HZ.out HV.out)
    have HB := Lib.hid (hb2.trans ((alB w2 (.cells #[.slice a len cap] 31)).mono hb2.size))
    go_wp2_with fail
    refine (mkHold_any a len cap w2).mono ?_
    rintro e w' ⟨rfl, rfl⟩
    go_wp2_with fail
    refine (hold_any a len cap w2.heap.size L key _ HT.out).mono ?_
    rintro e w3 ⟨rfl, hb3⟩
    go_wp2
    go_ret
    exact ⟨ret_i HR.out.symm, HB.out.trans (hb3.mono HB.out.size)⟩
end Go.Proofs.Ytidabcdaodlfeaa
