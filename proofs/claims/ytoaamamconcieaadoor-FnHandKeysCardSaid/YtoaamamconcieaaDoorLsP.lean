/- What the program does to leases. -/
import Derived.Test.YtoaamamconcieaaDoorLsF
import Derived.Test.YtoaamamconcieaaDoorLsC
import Derived.Lib.SliceRun
namespace Go.Proofs.YtoaamamconcieaaDoor
open Go.RowKit
set_option linter.unusedVariables false

set_option maxHeartbeats 1000000 in
theorem cloneL_any (a : Option Addr) (len cap : Nat) (L : List Ls) (w : World) (h : LsAt w a L) (hz : L.length = len) (h0 : 0 < len) (hm : len ≤ 1000000) :
    Calls Tryd.prog 43 #[.slice a len cap] w fun e w' => ∃ g c, e = .returned (.slice (some ⟨g, 0, none⟩) len c) ∧ OwnS w' w.heap.size g c L ∧ Below w.heap.size w w' := by
  obtain ⟨b, off, rfl, hb0, hcells⟩ := h.at_ (i := 0) (by omega)
  have HZ := Lib.hid hz
  have HS : Hid (∀ o : Obj, ∀ (j : Nat) (u : Value), (flat L)[j]? = some u → (w.alloc o).cell? ((⟨b, off, none⟩ : Addr).add j) = some u) := fun o => by
    have hk := (LsAt.keepB (.inr ⟨b, off, rfl, hb0, hcells⟩ : LsAt w (some ⟨b, off, none⟩) L) (alB w o) (Nat.le_refl _))
    rcases hk with hk | ⟨b', off', ha, _, hc⟩
    · subst hk; simp at hz; omega
    · injection ha with ha; injection ha with ha ho; subst ha ho
      exact src_ls hc
  have hq := fun w => Lib.run_eql_slice_nil (P := Tryd.prog) w 24 35 (some ⟨b, off, none⟩) len cap 0 0 Tryd.underlying24
  simp only [Option.isNone_some] at hq
  clear h hz hcells
  go_enter Tryd.func43, Tryd.ntmps43
  go_wp2_with (at_builtin; refine wl_appL _ (by rfl) _ _ (by rfl) w.heap.size w.heap.size 0 0 [] L (by rfl) (own_none w _ rfl) rfl ⟨b, off, none⟩ len cap (by rfl) HZ.out (HS.out _) len (by omega) (by omega) (by simp) ?_; intro g' c' w' hown hgr hat; have HO := Lib.hid hown; have hB : Below w.heap.size w w' := (alB w _).grown hgr (by simp) (fun k hk => by injection hk with hk; omega); clear hown hgr hat)
  go_ret
  refine ⟨g', c', rfl, ?_, hB⟩
  have := HO.out
  rwa [List.nil_append] at this

set_option maxHeartbeats 400000 in
theorem expired_any (x : Ls) (now : Int) (w : World) :
    Calls Tryd.prog 46 #[.agg #[.int .i64 x.e, .int .i64 x.o, .int .i64 x.u], .int .i64 now] w fun e w' => e = .returned (.bool (decide (x.u < now))) ∧ Below w.heap.size w w' := by
  obtain ⟨e, o, u⟩ := x
  simp only at *
  have HB := Lib.hid (alB w)
  go_enter Tryd.func46, Tryd.ntmps46
  go_wp2
  all_goals
    go_ret
    exact ⟨rfl, HB.out _⟩


theorem rnB_o {ow now ut : Int} {x : Ls} (h : (x.o == ow) = false) : rnB ow now ut x = false := by simp at h; simp [rnB, h]
theorem rnB_now {ow now ut : Int} {x : Ls} (h : decide (x.u < now) = true) : rnB ow now ut x = false := by simp at h; simp [rnB]; omega
theorem rnB_ut {ow now ut : Int} {x : Ls} (h : decide (x.u < ut) = false) : rnB ow now ut x = false := by simp at h; simp [rnB]; omega
theorem rnB_all {ow now ut : Int} {x : Ls} (h : (x.o == ow) = true) (h1 : decide (x.u < now) = false) (h2 : decide (x.u < ut) = true) : rnB ow now ut x = true := by simp at h h1 h2; simp [rnB]; omega
theorem renN_no {L : List Ls} {ow now ut : Int} {k : Nat} (h : rnB ow now ut (gl L k) = false) : renN L ow now ut (k + 1) = renN L ow now ut k := by simp [renN, h]
theorem renN_yes {L : List Ls} {ow now ut : Int} {k : Nat} (h : rnB ow now ut (gl L k) = true) : renN L ow now ut (k + 1) = renN L ow now ut k + 1 := by simp [renN, h]
theorem renR_no {L : List Ls} {ow now ut : Int} (h : renOk L ow now ut = false) : renR L ow now ut = ([], -1) := by simp [renR, h]
theorem renR_yes {L : List Ls} {ow now ut : Int} (h : renOk L ow now ut = true) : renR L ow now ut = (L.map (rnL ow now ut), (renN L ow now ut L.length : Int)) := by simp [renR, h]
/-- what LeaseRenew leaves -/
def RenPost (L : List Ls) (ow now ut : Int) (w : World) (e : Ending) (w' : World) : Prop :=
  ∃ g c, e = .returned (.tuple #[.slice (some ⟨g, 0, none⟩) (renR L ow now ut).1.length c, .int .i64 (renR L ow now ut).2]) ∧ OwnS w' w.heap.size g c (renR L ow now ut).1 ∧ Below w.heap.size w w'
theorem renPost_no {L : List Ls} {ow now ut : Int} {w w2 : World} {cs : Array Value} (h : renOk L ow now ut = false) (hcs : cs = #[]) (hb : Below w.heap.size w w2) :
    RenPost L ow now ut w (.returned (.tuple #[.slice (some ⟨w2.heap.size, 0, none⟩) 0 0, .int .i64 (-1)])) (w2.alloc (.cells cs 35)) := by
  refine ⟨w2.heap.size, 0, ?_, ?_, hb.alloc hb.size _⟩
  · rw [renR_no h]; rfl
  · rw [renR_no h]; exact (own_none w2 cs hcs).less hb.size
theorem renPost_yes {L : List Ls} {ow now ut : Int} {w w2 : World} {g c : Nat} (h : renOk L ow now ut = true) (ho : OwnS w2 w.heap.size g c (L.map (rnL ow now ut))) (hb : Below w.heap.size w w2) :
    RenPost L ow now ut w (.returned (.tuple #[.slice (some ⟨g, 0, none⟩) L.length c, .int .i64 (renN L ow now ut L.length : Nat)])) w2 := by
  refine ⟨g, c, ?_, ?_, hb⟩
  · rw [renR_yes h]; simp
  · rw [renR_yes h]; exact ho


theorem bel_dN {B : Nat} {w w' : World} (h : Below B w w') (n : Nat) : Below B w (w'.drewN n) := h.trans (Same.below ⟨n, rfl⟩ B)
theorem mgR_no {L : List Ls} (h : lvB L = false) : mgR L = [] := by simp [mgR, h]
theorem mgR_yes {L : List Ls} (h : lvB L = true) : mgR L = mgS L L.length := by simp [mgR, h]
/-- what the program holds behind k rounds -/
def mgP (L : List Ls) (k : Nat) : List Ls := if k < L.length then mgTo L k else mgS L L.length
theorem mgP_zero {L : List Ls} (h : 0 < L.length) : mgP L 0 = [] := by simp [mgP, h, mgTo]
theorem mgP_last {L : List Ls} {k : Nat} (h : k + 1 = L.length) : mgP L (k + 1) = mgP L k ++ [gl L k] := by
  unfold mgP
  rw [if_neg (by omega), if_pos (by omega), ← h]; rfl
theorem mgP_same {L : List Ls} {k : Nat} (h : k + 1 < L.length) (hs : sameLs (gl L k) (gl L (k + 1)) = true) : mgP L (k + 1) = mgP L k := by
  unfold mgP
  rw [if_pos h, if_pos (by omega), mgTo, if_pos hs, List.append_nil]
theorem mgP_diff {L : List Ls} {k : Nat} (h : k + 1 < L.length) (hs : sameLs (gl L k) (gl L (k + 1)) = false) : mgP L (k + 1) = mgP L k ++ [gl L k] := by
  unfold mgP
  rw [if_pos h, if_pos (by omega), mgTo, if_neg (by rw [hs]; decide)]
theorem mgP_len (L : List Ls) {k : Nat} (hk : k ≤ L.length) : (mgP L k).length ≤ k := by
  unfold mgP
  split
  · exact mgTo_len L k
  · have := mgS_len L L.length; omega
theorem lsfar_app {L : List Ls} {x : Ls} {w w2 w3 : World} {g g' c' : Nat} (hb : Below w.heap.size w w2) (hg : w2.grownBy w3 (some g)) (hgb : w.heap.size ≤ g) (ho : OwnS w3 w.heap.size g' c' (L ++ [x])) :
    LsFar (L ++ [x]) w (.slice (some ⟨g', 0, none⟩) (L.length + 1) c') w3 :=
  ⟨g', c', by rw [List.length_append]; rfl, ho, hb.grown hg hb.size (fun k hk => by injection hk with hk; omega)⟩


/-- the end ahead of lease k -/
def bfL (L : List Ls) (k : Nat) : Int := if k = 0 then (gl L (L.length - 1)).e else (gl L (k - 1)).e
theorem upTo_step {L : List Ls} (hv : lvB L = true) (p : Nat → Bool) {k : Nat} (hk : k < L.length) : upTo L p (k + 1) = upTo L p k + if p k = true then turn (bfL L k) (gl L k).e else 0 := by
  rcases k with _ | k
  · rw [upTo_one hv]; simp [upTo, bfL]
  · rw [upTo_succ hv p hk]; simp [bfL]
theorem upTo_no {L : List Ls} (hv : lvB L = true) {p : Nat → Bool} {k : Nat} (hk : k < L.length) (h : p k = false) : upTo L p (k + 1) = upTo L p k := by rw [upTo_step hv p hk, h]; simp
theorem upTo_yes {L : List Ls} (hv : lvB L = true) {p : Nat → Bool} {k : Nat} (hk : k < L.length) (h : p k = true) : upTo L p (k + 1) = upTo L p k + turn (bfL L k) (gl L k).e := by rw [upTo_step hv p hk, h]; simp
theorem turn_bd (a b : Int) : 0 ≤ turn a b ∧ turn a b ≤ 64 := by unfold turn; split <;> omega
theorem keysI_no1 {L : List Ls} {ow : Int} (h : lvB L = false) : keysI L ow = -1 := by simp [keysI, h]
theorem keysI_no2 {L : List Ls} {ow : Int} (h : ptB ow = false) : keysI L ow = -1 := by simp [keysI, h]
theorem keysI_yes {L : List Ls} {ow : Int} (h : lvB L = true) (h' : ptB ow = true) : keysI L ow = (keysN L ow : Int) := by simp [keysI, h, h']



end Go.Proofs.YtoaamamconcieaaDoor
