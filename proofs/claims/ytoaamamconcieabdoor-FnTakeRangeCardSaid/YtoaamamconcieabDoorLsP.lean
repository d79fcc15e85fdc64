/- What the program does to leases. -/
import Derived.Test.YtoaamamconcieabDoorLsF
import Derived.Test.YtoaamamconcieabDoorLsC
import Derived.Lib.SliceRun
namespace Go.Proofs.YtoaamamconcieabDoor
open Go.RowKit
set_option linter.unusedVariables false

set_option maxHeartbeats 1000000 in
theorem cloneL_any (a : Option Addr) (len cap : Nat) (L : List Ls) (w : World) (h : LsAt w a L) (hz : L.length = len) (h0 : 0 < len) (hm : len ≤ 1000000) :
    Calls Tryd.prog 40 #[.slice a len cap] w fun e w' => ∃ g c, e = .returned (.slice (some ⟨g, 0, none⟩) len c) ∧ OwnS w' w.heap.size g c L ∧ Below w.heap.size w w' := by
  obtain ⟨b, off, rfl, hb0, hcells⟩ := h.at_ (i := 0) (by omega)
  have HZ := Lib.hid hz
  have HS : Hid (∀ o : Obj, ∀ (j : Nat) (u : Value), (flat L)[j]? = some u → (w.alloc o).cell? ((⟨b, off, none⟩ : Addr).add j) = some u) := fun o => by
    have hk := (LsAt.keepB (.inr ⟨b, off, rfl, hb0, hcells⟩ : LsAt w (some ⟨b, off, none⟩) L) (alB w o) (Nat.le_refl _))
    rcases hk with hk | ⟨b', off', ha, _, hc⟩
    · subst hk; simp at hz; omega
    · injection ha with ha; injection ha with ha ho; subst ha ho
      exact src_ls hc
  have hq := fun w => Lib.run_eql_slice_nil (P := Tryd.prog) w 23 30 (some ⟨b, off, none⟩) len cap 0 0 Tryd.underlying23
  simp only [Option.isNone_some] at hq
  clear h hz hcells
  go_enter Tryd.func40, Tryd.ntmps40
  go_wp2_with (at_builtin; refine wl_appL _ (by rfl) _ _ (by rfl) w.heap.size w.heap.size 0 0 [] L (by rfl) (own_none w _ rfl) rfl ⟨b, off, none⟩ len cap (by rfl) HZ.out (HS.out _) len (by omega) (by omega) (by simp) ?_; intro g' c' w' hown hgr hat; have HO := Lib.hid hown; have hB : Below w.heap.size w w' := (alB w _).grown hgr (by simp) (fun k hk => by injection hk with hk; omega); clear hown hgr hat)
  go_ret
  refine ⟨g', c', rfl, ?_, hB⟩
  have := HO.out
  rwa [List.nil_append] at this

set_option maxHeartbeats 400000 in
theorem expired_any (x : Ls) (now : Int) (w : World) :
    Calls Tryd.prog 44 #[.agg #[.int .i64 x.e, .int .i64 x.o, .int .i64 x.u], .int .i64 now] w fun e w' => e = .returned (.bool (decide (x.u < now))) ∧ Below w.heap.size w w' := by
  obtain ⟨e, o, u⟩ := x
  simp only at *
  have HB := Lib.hid (alB w)
  go_enter Tryd.func44, Tryd.ntmps44
  go_wp2
  all_goals
    go_ret
    exact ⟨rfl, HB.out _⟩


theorem rnB_o {ow now ut : Int} {x : Ls} (h : (x.o == ow) = false) : rnB ow now ut x = false := by simp at h; simp [rnB, h]
theorem rnB_now {ow now ut : Int} {x : Ls} (h : decide (x.u < now) = true) : rnB ow now ut x = false := by simp at h; simp [rnB]; omega
theorem rnB_ut {ow now ut : Int} {x : Ls} (h : decide (x.u < ut) = false) : rnB ow now ut x = false := by simp at h; simp [rnB]; omega
theorem rnB_all {ow now ut : Int} {x : Ls} (h : (x.o == ow) = true) (h1 : decide (x.u < now) = false) (h2 : decide (x.u < ut) = true) : rnB ow now ut x = true := by simp at h h1 h2; simp [rnB]; omega
theorem renN_no {L : List Ls} {ow now ut : Int} {k : Nat} (h : rnB ow now ut (gl L k) = false) : renN L ow now ut (k + 1) = renN L ow now ut k := by simp [renN, h]
theorem renN_yes {L : List Ls} {ow now ut : Int} {k : Nat} (h : rnB ow now ut (gl L k) = true) : renN L ow now ut (k + 1) = renN L ow now ut k + 1 := by simp [renN, h]
theorem renR_no {L : List Ls} {ow now ut : Int} (h : renOk L ow now ut = false) : renR L ow now ut = ([], -1) := by simp [renR, h]
theorem renR_yes {L : List Ls} {ow now ut : Int} (h : renOk L ow now ut = true) : renR L ow now ut = (L.map (rnL ow now ut), (renN L ow now ut L.length : Int)) := by simp [renR, h]
/-- what LeaseRenew leaves -/
def RenPost (L : List Ls) (ow now ut : Int) (w : World) (e : Ending) (w' : World) : Prop :=
  ∃ g c, e = .returned (.tuple #[.slice (some ⟨g, 0, none⟩) (renR L ow now ut).1.length c, .int .i64 (renR L ow now ut).2]) ∧ OwnS w' w.heap.size g c (renR L ow now ut).1 ∧ Below w.heap.size w w'
theorem renPost_no {L : List Ls} {ow now ut : Int} {w w2 : World} {cs : Array Value} (h : renOk L ow now ut = false) (hcs : cs = #[]) (hb : Below w.heap.size w w2) :
    RenPost L ow now ut w (.returned (.tuple #[.slice (some ⟨w2.heap.size, 0, none⟩) 0 0, .int .i64 (-1)])) (w2.alloc (.cells cs 30)) := by
  refine ⟨w2.heap.size, 0, ?_, ?_, hb.alloc hb.size _⟩
  · rw [renR_no h]; rfl
  · rw [renR_no h]; exact (own_none w2 cs hcs).less hb.size
theorem renPost_yes {L : List Ls} {ow now ut : Int} {w w2 : World} {g c : Nat} (h : renOk L ow now ut = true) (ho : OwnS w2 w.heap.size g c (L.map (rnL ow now ut))) (hb : Below w.heap.size w w2) :
    RenPost L ow now ut w (.returned (.tuple #[.slice (some ⟨g, 0, none⟩) L.length c, .int .i64 (renN L ow now ut L.length : Nat)])) w2 := by
  refine ⟨g, c, ?_, ?_, hb⟩
  · rw [renR_yes h]; simp
  · rw [renR_yes h]; exact ho


theorem bel_dN {B : Nat} {w w' : World} (h : Below B w w') (n : Nat) : Below B w (w'.drewN n) := h.trans (Same.below ⟨n, rfl⟩ B)
theorem mgR_no {L : List Ls} (h : lvB L = false) : mgR L = [] := by simp [mgR, h]
theorem mgR_yes {L : List Ls} (h : lvB L = true) : mgR L = mgS L L.length := by simp [mgR, h]
/-- what the program holds behind k rounds -/
def mgP (L : List Ls) (k : Nat) : List Ls := if k < L.length then mgTo L k else mgS L L.length
theorem mgP_zero {L : List Ls} (h : 0 < L.length) : mgP L 0 = [] := by simp [mgP, h, mgTo]
theorem mgP_last {L : List Ls} {k : Nat} (h : k + 1 = L.length) : mgP L (k + 1) = mgP L k ++ [gl L k] := by
  unfold mgP
  rw [if_neg (by omega), if_pos (by omega), ← h]; rfl
theorem mgP_same {L : List Ls} {k : Nat} (h : k + 1 < L.length) (hs : sameLs (gl L k) (gl L (k + 1)) = true) : mgP L (k + 1) = mgP L k := by
  unfold mgP
  rw [if_pos h, if_pos (by omega), mgTo, if_pos hs, List.append_nil]
theorem mgP_diff {L : List Ls} {k : Nat} (h : k + 1 < L.length) (hs : sameLs (gl L k) (gl L (k + 1)) = false) : mgP L (k + 1) = mgP L k ++ [gl L k] := by
  unfold mgP
  rw [if_pos h, if_pos (by omega), mgTo, if_neg (by rw [hs]; decide)]
theorem mgP_len (L : List Ls) {k : Nat} (hk : k ≤ L.length) : (mgP L k).length ≤ k := by
  unfold mgP
  split
  · exact mgTo_len L k
  · have := mgS_len L L.length; omega
theorem lsfar_app {L : List Ls} {x : Ls} {w w2 w3 : World} {g g' c' : Nat} (hb : Below w.heap.size w w2) (hg : w2.grownBy w3 (some g)) (hgb : w.heap.size ≤ g) (ho : OwnS w3 w.heap.size g' c' (L ++ [x])) :
    LsFar (L ++ [x]) w (.slice (some ⟨g', 0, none⟩) (L.length + 1) c') w3 :=
  ⟨g', c', by rw [List.length_append]; rfl, ho, hb.grown hg hb.size (fun k hk => by injection hk with hk; omega)⟩


/-- the end ahead of lease k -/
def bfL (L : List Ls) (k : Nat) : Int := if k = 0 then (gl L (L.length - 1)).e else (gl L (k - 1)).e
theorem upTo_step {L : List Ls} (hv : lvB L = true) (p : Nat → Bool) {k : Nat} (hk : k < L.length) : upTo L p (k + 1) = upTo L p k + if p k = true then turn (bfL L k) (gl L k).e else 0 := by
  rcases k with _ | k
  · rw [upTo_one hv]; simp [upTo, bfL]
  · rw [upTo_succ hv p hk]; simp [bfL]
theorem upTo_no {L : List Ls} (hv : lvB L = true) {p : Nat → Bool} {k : Nat} (hk : k < L.length) (h : p k = false) : upTo L p (k + 1) = upTo L p k := by rw [upTo_step hv p hk, h]; simp
theorem upTo_yes {L : List Ls} (hv : lvB L = true) {p : Nat → Bool} {k : Nat} (hk : k < L.length) (h : p k = true) : upTo L p (k + 1) = upTo L p k + turn (bfL L k) (gl L k).e := by rw [upTo_step hv p hk, h]; simp
theorem turn_bd (a b : Int) : 0 ≤ turn a b ∧ turn a b ≤ 64 := by unfold turn; split <;> omega
theorem keysI_no1 {L : List Ls} {ow : Int} (h : lvB L = false) : keysI L ow = -1 := by simp [keysI, h]
theorem keysI_no2 {L : List Ls} {ow : Int} (h : ptB ow = false) : keysI L ow = -1 := by simp [keysI, h]
theorem keysI_yes {L : List Ls} {ow : Int} (h : lvB L = true) (h' : ptB ow = true) : keysI L ow = (keysN L ow : Int) := by simp [keysI, h, h']

set_option maxHeartbeats 400000 in
theorem turn_any (a b : Int) (w : World) (ha : 0 ≤ a) (ha' : a < 64) (hb : 0 ≤ b) (hb' : b < 64) :
    Calls Tryd.prog 34 #[.int .i64 a, .int .i64 b] w fun e w' => e = .returned (.int .i64 (turn a b)) ∧ w = w' := by
  by_cases h : a = b
  · have He : Hid (turn a b = 64) := by show turn a b = 64; unfold turn; rw [if_pos h]
    have h1 : (a == b) = true := by simp [h]
    clear h
    go_enter Tryd.func34, Tryd.ntmps34
    go_wp2
    go_ret
    exact ⟨ret_int (by rw [He.out]), rfl⟩
  · have He : Hid (turn a b = dist a b) := by show turn a b = _; unfold turn dist; rw [if_neg h]
    have h1 : (a == b) = false := by simp [h]
    clear h
    go_enter Tryd.func34, Tryd.ntmps34
    go_wp2_with fail
    refine (distance_any a b w ha ha' hb hb').mono ?_
    rintro e w' ⟨rfl, rfl⟩
    go_wp2
    go_ret
    exact ⟨ret_int (by rw [He.out]), rfl⟩

set_option maxHeartbeats 2000000 in
theorem keys_any (a : Option Addr) (len cap : Nat) (L : List Ls) (ow : Int) (w : World) (h : LsAt w a L) (hz : L.length = len) (hm : len ≤ maxLen) :
    Calls Tryd.prog 15 #[.slice a len cap, .int .i64 ow] w fun e w' => e = .returned (.int .i64 (keysI L ow)) ∧ Below w.heap.size w w' := by
  have HI := Lib.hid h
  have HZ := Lib.hid hz
  have HM := Lib.hid hm
  clear h hz hm
  cases hv : lvB L
  · have HE := Lib.hid (keysI_no1 (ow := ow) hv)
    go_enter Tryd.func15, Tryd.ntmps15
    have hB := Below.refl w.heap.size w
    go_wp2_with fail
    refine (lvs_any a len cap L w (HI.out.keepB hB (Nat.le_refl _)) HZ.out HM.out).mono ?_
    rintro e w2 ⟨rfl, hs⟩
    have hB2 : Below w.heap.size w w2 := hB.trans (hs.mono hB.size)
    clear hs
    rw [hv]
    go_wp2
    go_ret
    exact ⟨ret_int HE.out.symm, hB2⟩
  cases h0 : ptB ow
  · have HE := Lib.hid (keysI_no2 (L := L) h0)
    go_enter Tryd.func15, Tryd.ntmps15
    have hB := Below.refl w.heap.size w
    go_wp2_with fail
    refine (lvs_any a len cap L w (HI.out.keepB hB (Nat.le_refl _)) HZ.out HM.out).mono ?_
    rintro e w2 ⟨rfl, hs⟩
    have hB2 : Below w.heap.size w w2 := hB.trans (hs.mono hB.size)
    clear hs
    rw [hv]
    go_wp2_with fail
    refine (valid_any ow w2).mono ?_
    rintro e w' ⟨rfl, rfl⟩
    rw [h0]
    go_wp2
    go_ret
    exact ⟨ret_int HE.out.symm, hB2⟩
  have HE := Lib.hid (keysI_yes hv h0)
  have h12 : 1 ≤ len ∧ len ≤ 12 := by have := lv_len hv; rw [HZ.out] at this; exact this
  obtain ⟨hl1, hl2⟩ := h12
  have HV := Lib.hid hv
  go_enter Tryd.func15, Tryd.ntmps15
  have hB := Below.refl w.heap.size w
  go_wp2_with fail
  refine (lvs_any a len cap L w (HI.out.keepB hB (Nat.le_refl _)) HZ.out HM.out).mono ?_
  rintro e w2 ⟨rfl, hs⟩
  have hB2 : Below w.heap.size w w2 := hB.trans (hs.mono hB.size)
  clear hs
  rw [hv]
  go_wp2_with fail
  refine (valid_any ow w2).mono ?_
  rintro e w' ⟨rfl, rfl⟩
  rw [h0]
  obtain ⟨b, off, rfl, hb0, hcells⟩ := (HI.out.keepB hB2 (Nat.le_refl _)).at_ (i := len - 1) (by rw [HZ.out]; omega)
  obtain ⟨hd0, hd1, hd2⟩ := hcells (len - 1) (by rw [HZ.out]; omega)
  have hn1 : ((len : Int) - 1).toNat = len - 1 := by omega
  have hn2 : (1 : Int) ≤ (len : Int) := by omega
  have hn3 : (0 : Int) ≤ (len : Int) - 1 := by omega
  clear hcells h0 hv
  go_wp2
  go_quiet (fail)
  clear hd0 hd1 hd2 hn1 hn2 hn3
  go_wp2
  go_loopw [5, 6, 27] (fun s q i wr => ∃ k : Nat, k ≤ len ∧ i = .int .i64 k ∧ s = .int .i64 (upTo L (ownB L ow) k) ∧ q = .int .i64 (bfL L k) ∧ Below w.heap.size w wr) (fun _ _ i _ => len - (intOf i).toNat)
  case atStart => exact ⟨0, by omega, rfl, rfl, by unfold bfL; rw [if_pos rfl, HZ.out], bel_dN hB2 _⟩
  case round =>
    obtain ⟨k, hk, rfl, rfl, rfl, hbel⟩ := hrel
    by_cases hlt : k < len
    · have hkL : Hid (k < L.length) := by show k < L.length; rw [HZ.out]; exact hlt
      obtain ⟨b', off', hab, hb0', hcells⟩ := (HI.out.keepB hbel (Nat.le_refl _)).at_ (i := k) hkL.out
      injection hab with hab; injection hab with h1 h2; subst h1 h2
      obtain ⟨hc0, hc1, hc2⟩ := hcells k hkL.out
      clear hcells
      obtain ⟨u0, u1⟩ := upTo_bd HV.out (ownB L ow) (k := k) (by have := hkL.out; omega)
      obtain ⟨e0, e1⟩ := lv_e HV.out hkL.out
      obtain ⟨f0, f1⟩ : 0 ≤ bfL L k ∧ bfL L k < 64 := by unfold bfL; split <;> exact lv_e HV.out (by have := hkL.out; omega)
      have hnx : Hid (bfL L (k + 1) = (gl L k).e) := by show bfL L (k + 1) = _; unfold bfL; rw [if_neg (by omega)]; rfl
      cases c1 : ((gl L k).o == ow)
      · have hs : Hid (upTo L (ownB L ow) (k + 1) = upTo L (ownB L ow) k) := upTo_no HV.out hkL.out (by unfold ownB; simpa using c1)
        go_wp2
        go_roundw
        case rel => exact ⟨k + 1, by omega, by go_num, by rw [hs.out], by rw [hnx.out], hbel.trans ((alB wr _).mono hbel.size)⟩
        case measure => simp [intOf]; omega
      · have hs : Hid (upTo L (ownB L ow) (k + 1) = upTo L (ownB L ow) k + turn (bfL L k) (gl L k).e) := upTo_yes HV.out hkL.out (by unfold ownB; simpa using c1)
        obtain ⟨t0, t1⟩ := turn_bd (bfL L k) (gl L k).e
        have hba : Hid (∀ o : Obj, Below w.heap.size w (wr.alloc o)) := fun o => hbel.trans ((alB wr o).mono hbel.size)
        go_wp2_with fail
        refine (turn_any (bfL L k) (gl L k).e _ f0 f1 e0 e1).mono ?_
        rintro e w' ⟨rfl, rfl⟩
        go_wp2
        go_roundw
        case rel => exact ⟨k + 1, by omega, by go_num, by rw [hs.out], by rw [hnx.out], hba.out _⟩
        case measure => simp [intOf]; omega
    · have hkk : k = L.length := by rw [HZ.out]; omega
      have HK := Lib.hid hkk
      clear hkk
      go_wp2
      go_ret
      exact ⟨ret_int (by rw [HE.out, HK.out, upTo_all HV.out, keysN]), hbel⟩

end Go.Proofs.YtoaamamconcieabDoor
