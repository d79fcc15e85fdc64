/- A network's node fails. -/
import Derived.Test.YtndjkokipiikpaaNwRing
import Derived.Test.YtndjkokipiikpaaNwRound
import Derived.Lib.SliceRun
namespace Go.Proofs.Ytndjkokipiikpaa
open Go.RowKit
set_option linter.unusedVariables false

/-- a row of m pointers to peers, in block N -/
def PRow (w : World) (N m : Nat) (ps : Nat → Option Addr) : Prop := ∃ la, w.heap[N]? = some (.cells la 84 (0, 0)) ∧ ∀ j, j < m → la[j]? = some (.pointer (ps j))
theorem PRow.kept {w w' : World} {N m : Nat} {ps : Nat → Option Addr} (h : PRow w N m ps) (e : w'.heap[N]? = w.heap[N]?) : PRow w' N m ps := by
  obtain ⟨la, h1, h2⟩ := h; exact ⟨la, e.trans h1, h2⟩
theorem PRow.cell {w : World} {N m : Nat} {ps : Nat → Option Addr} (h : PRow w N m ps) {j : Nat} (hj : j < m) : w.cell? ⟨N, j, none⟩ = some (.pointer (ps j)) ∧ w.frozen? ⟨N, j, none⟩ = false := by
  obtain ⟨la, h1, h2⟩ := h; exact ⟨(cell_of_cells h1 j).trans (h2 j hj), frozen_of_cells h1 j⟩
theorem PRow.set {w : World} {N m : Nat} {ps : Nat → Option Addr} (h : PRow w N m ps) {i : Nat} (hi : i < m) (v : Option Addr) : PRow (w.setCell ⟨N, i, none⟩ (.pointer v)) N m (fun j => if j = i then v else ps j) := by
  obtain ⟨la, h1, h2⟩ := h
  refine ⟨_, heap_set _ _ _ _ h1, fun j hj => ?_⟩
  have hs : i < la.size := (Array.getElem?_eq_some_iff.1 (h2 i hi)).1
  by_cases e : j = i
  · subst e; rw [Array.getElem?_setIfInBounds_self_of_lt hs]; simp
  · rw [Array.getElem?_setIfInBounds_ne (by omega)]; simp only [if_neg e]; exact h2 j hj

theorem Try.infoP : (Try.prog.info? 84).map (fun i => (i.zero, i.size, i.bytes)) = some (some (.pointer none), 1, 8) := by kernel_rfl
theorem wl_appP {ops : Array Oper} {rest : List Oper} {o : Oper} {a : Act} {Q : Exit → Act → World → Prop} (W : World) (hgd : o.guard = none) (s x : Operand)
    (ho : o.op = .call { callee := .builtin .append, args := #[s, x], argTypes := #[59, 59] })
    (base g n cap : Nat) (xs : List Value) (hs : a.eval s = .slice (some ⟨g, 0, none⟩) n cap) (hown : W.ownsRow base 84 1 (.slice (some ⟨g, 0, none⟩) n cap) n xs)
    (ad : Addr) (m c : Nat) (news : List Value) (hx : a.eval x = .slice (some ad) m c) (hl : news.length = m) (hnews : ∀ j u, news[j]? = some u → W.cell? (ad.add j) = some u)
    (h1 : ∀ u ∈ news, u.oneCell' = true) (r : Nat) (ys : List Value) (hr : n + m = r) (hys : xs ++ news = ys) (hb : r ≤ 1000000) (hbase : base ≤ W.heap.size)
    (h : ∀ g' cap' w', w'.ownsRow base 84 1 (.slice (some ⟨g', 0, none⟩) r cap') r ys → W.grownBy w' (some g) → (g' = g ∨ g' = W.heap.size) → wpList Try.prog ops Q rest (a.put o.dst (.slice (some ⟨g', 0, none⟩) r cap')) w') :
    wpList Try.prog ops Q (o :: rest) a W := by
  subst hr hys
  obtain ⟨i0, hi0, hz0, hz1, hz2⟩ := info_parts Try.infoP
  refine wpList_append_own_at (P := Try.prog) W hgd s x _ ho base 84 i0 _ 1 8 Try.underlying59 hi0 hz0 hz1 hz2 rfl (by omega) _ n xs hs hown ad m c news hx (by omega) hnews h1 (by unfold maxLen; omega) (by omega) hbase ?_
  intro v' w' ho1 hg1 hnone hat
  have hv : ∃ g' cap', v' = .slice (some ⟨g', 0, none⟩) (n + m) cap' := by
    rcases ho1.2 with ⟨hn, _⟩ | ⟨g', cap', _, hv, _⟩
    · have := (hnone.1 hn).1; cases this
    · exact ⟨g', cap', hv⟩
  obtain ⟨g', cap', rfl⟩ := hv
  exact h g' cap' w' ho1 hg1 (by simpa [Value.ownBlock] using hat)
theorem ownP_empty {W : World} {base N : Nat} (h : W.heap[N]? = some (.cells #[] 84 (0, 0))) (hb : base ≤ N) : W.ownsRow base 84 1 (.slice (some ⟨N, 0, none⟩) 0 0) 0 [] :=
  ⟨by simp, .inr ⟨N, 0, #[], rfl, hb, h, Nat.zero_le _, by unfold maxLen; omega, rfl, by simp⟩⟩
/-- the pointers as values -/
def pvs (ps : Nat → Option Addr) (m : Nat) : List Value := (List.range m).map fun j => .pointer (ps j)
theorem pvs_len (ps : Nat → Option Addr) (m : Nat) : (pvs ps m).length = m := by simp [pvs]
theorem pvs_get {ps : Nat → Option Addr} {m j : Nat} (h : j < m) : (pvs ps m)[j]? = some (.pointer (ps j)) := by simp [pvs, h]
theorem pvs_get' {ps : Nat → Option Addr} {m j : Nat} {u : Value} (h : (pvs ps m)[j]? = some u) : j < m ∧ u = .pointer (ps j) := by
  have hj : j < m := by have := (List.getElem?_eq_some_iff.1 h).1; rwa [pvs_len] at this
  rw [pvs_get hj] at h; injection h with h; exact ⟨hj, h.symm⟩
theorem pvs_one (ps : Nat → Option Addr) (m : Nat) : ∀ u ∈ pvs ps m, u.oneCell' = true := by
  intro u hu; simp [pvs] at hu; obtain ⟨j, _, rfl⟩ := hu; rfl
theorem ownP_row {w : World} {base g n cap : Nat} {ps : Nat → Option Addr} (h : w.ownsRow base 84 1 (.slice (some ⟨g, 0, none⟩) n cap) n (pvs ps n)) : PRow w g n ps ∧ base ≤ g ∧ n ≤ cap ∧ cap ≤ maxLen := by
  rcases h.2 with ⟨hn, _⟩ | ⟨g', cap', cur, hv, hb, hg, hnc, hcm, hs, ht⟩
  · cases hn
  · injection hv with hv _ hc; injection hv with hv; injection hv with hv; subst hv hc
    refine ⟨⟨cur, hg, fun j hj => ?_⟩, hb, hnc, hcm⟩
    have h1 := pvs_get (ps := ps) hj
    rw [← ht, List.getElem?_take, if_pos (by omega)] at h1
    simpa using h1

theorem clone_src {w : World} {L m : Nat} {ps : Nat → Option Addr} {o : Obj} (hL : L < w.heap.size) (h : PRow w L m ps) : ∀ j u, (pvs ps m)[j]? = some u → (w.alloc o).cell? ((⟨L, 0, none⟩ : Addr).add j) = some u := fun j u hu => by
  obtain ⟨hj, rfl⟩ := pvs_get' hu
  rw [add_plain, Nat.zero_add]
  exact (((Below.refl _ _).alloc (Nat.le_refl _) _ : Below w.heap.size w (w.alloc o)).cell (p := ⟨L, j, none⟩) hL).trans (h.cell hj).1

set_option maxHeartbeats 1000000 in
theorem clone_any (L m cap : Nat) (ps : Nat → Option Addr) (w : World) (h : PRow w L m ps) (hm : m ≤ 10) :
    Calls Try.prog 135 #[.slice (some ⟨L, 0, none⟩) m cap] w fun e w' => ∃ N c, e = .returned (.slice (some ⟨N, 0, none⟩) m c) ∧ m ≤ c ∧ c ≤ maxLen ∧ PRow w' N m ps ∧ w.heap.size ≤ N ∧ Below w.heap.size w w' := by
  have HR := Lib.hid h
  have hL : L < w.heap.size := by obtain ⟨la, h1, _⟩ := h; exact heap_lt h1
  clear h
  have hq := fun w => Lib.run_eql_slice_nil (P := Try.prog) w 59 84 (some ⟨L, 0, none⟩) m cap 0 0 Try.underlying59
  simp only [Option.isNone_some] at hq
  have hs0 : w.heap.size ≤ (w.alloc (.cells #[] 84)).heap.size := by simp
  go_enter Try.func135, Try.ntmps135
  go_wp2_with (at_builtin; refine wl_appP _ (by rfl) _ _ (by rfl) w.heap.size w.heap.size 0 0 [] (by rfl) (ownP_empty (heap_alloc_new w _) (Nat.le_refl _)) ⟨L, 0, none⟩ m cap (pvs ps m) (by rfl) (pvs_len _ _) (clone_src hL HR.out) (pvs_one _ _) m (pvs ps m) (by omega) (by simp) (by omega) (by simp) ?_; intro g' c' w' hown hgr hat; obtain ⟨h1, h2, h3, h4⟩ := ownP_row hown; have HP := Lib.hid h1; have hB : Below w.heap.size w w' := ((Below.refl _ _).alloc (Nat.le_refl _) _ : Below w.heap.size w (w.alloc _)).grown hgr (by simp) (fun k hk => by injection hk with hk; omega); clear hown hgr hat h1)
  go_ret
  exact ⟨g', c', rfl, h3, h4, HP.out, h2, hB⟩

theorem fst_next {P : Nat → Bool} {k : Nat} (h : ∀ j, j < k → P j = false) (hk : P k = false) : ∀ j, j < k + 1 → P j = false := fun j hj => by
  rcases Nat.lt_or_ge j k with h' | h'
  · exact h j h'
  · obtain rfl : j = k := by omega
    exact hk
/-- the first place -/
def FstAt (P : Nat → Bool) (m : Nat) (e : Ending) : Prop := ∃ k, k ≤ m ∧ (∀ j, j < k → P j = false) ∧ ((k < m ∧ P k = true ∧ e = .returned (.int .i64 k)) ∨ (k = m ∧ e = .returned (.int .i64 (-1))))
set_option maxHeartbeats 1000000 in
theorem idxFail_any (P : Nat → Bool) (L m cap : Nat) (cv : Value) (ps : Nat → Option Addr) (w : World) (h : PRow w L m ps) (hm : m ≤ 10)
    (hcl : ∀ j, j < m → ∀ wr, Same w wr → Calls Try.prog 136 #[.pointer (ps j), cv] wr fun e w' => e = .returned (.bool (P j)) ∧ Same wr w') :
    Calls Try.prog 131 #[.slice (some ⟨L, 0, none⟩) m cap, .func (.func 136) #[] #[cv]] w fun e w' => FstAt P m e ∧ Same w w' := by
  have HR := Lib.hid h
  have HC := Lib.hid hcl
  clear h hcl
  go_enter Try.func131, Try.ntmps131
  go_wp2
  go_loopw [8] (fun i wr => ∃ k : Nat, k ≤ m ∧ i = .int .i64 k ∧ (∀ j, j < k → P j = false) ∧ Same w wr) (fun i _ => m - (intOf i).toNat)
  case atStart => exact ⟨0, by omega, rfl, fun j h => absurd h (by omega), Same.refl _⟩
  case round =>
    obtain ⟨k, hk, rfl, hall, hsm⟩ := hrel
    have HA := Lib.hid hall
    clear hall
    obtain ⟨wo, rfl⟩ : ∃ x, x = wr := ⟨_, rfl⟩
    by_cases hlt : k < m
    · have c0 := (hsm.cell ⟨L, k, none⟩).trans (HR.out.cell hlt).1
      rcases bool_cases (P k) with hp | hp
      · have hcall := HC.out k hlt wo hsm
        rw [hp] at hcall
        have HCL := Lib.hid hcall
        have HP := Lib.hid hp
        clear hcall hp
        go_wp2_with fail
        refine HCL.out.mono ?_
        rintro e w2 ⟨rfl, hs2⟩
        go_wp2
        go_roundw
        case rel => exact ⟨k + 1, by omega, by go_num, fst_next HA.out HP.out, hsm.trans hs2⟩
        case measure => simp [intOf]; omega
      · have hcall := HC.out k hlt wo hsm
        rw [hp] at hcall
        have HCL := Lib.hid hcall
        have HP := Lib.hid hp
        clear hcall hp
        go_wp2_with fail
        refine HCL.out.mono ?_
        rintro e w2 ⟨rfl, hs2⟩
        go_wp2
        go_ret
        exact ⟨⟨k, by omega, HA.out, .inl ⟨hlt, HP.out, rfl⟩⟩, hsm.trans hs2⟩
    · obtain rfl : k = m := by omega
      go_wp2
      go_ret
      exact ⟨⟨k, by omega, HA.out, .inr ⟨rfl, rfl⟩⟩, hsm⟩

set_option maxHeartbeats 1000000 in
theorem idxJoin_any (P : Nat → Bool) (L m cap : Nat) (cv : Value) (ps : Nat → Option Addr) (w : World) (h : PRow w L m ps) (hm : m ≤ 10)
    (hcl : ∀ j, j < m → ∀ wr, Same w wr → Calls Try.prog 132 #[.pointer (ps j), cv] wr fun e w' => e = .returned (.bool (P j)) ∧ Same wr w') :
    Calls Try.prog 131 #[.slice (some ⟨L, 0, none⟩) m cap, .func (.func 132) #[] #[cv]] w fun e w' => FstAt P m e ∧ Same w w' := by
  have HR := Lib.hid h
  have HC := Lib.hid hcl
  clear h hcl
  go_enter Try.func131, Try.ntmps131
  go_wp2
  go_loopw [8] (fun i wr => ∃ k : Nat, k ≤ m ∧ i = .int .i64 k ∧ (∀ j, j < k → P j = false) ∧ Same w wr) (fun i _ => m - (intOf i).toNat)
  case atStart => exact ⟨0, by omega, rfl, fun j h => absurd h (by omega), Same.refl _⟩
  case round =>
    obtain ⟨k, hk, rfl, hall, hsm⟩ := hrel
    have HA := Lib.hid hall
    clear hall
    obtain ⟨wo, rfl⟩ : ∃ x, x = wr := ⟨_, rfl⟩
    by_cases hlt : k < m
    · have c0 := (hsm.cell ⟨L, k, none⟩).trans (HR.out.cell hlt).1
      rcases bool_cases (P k) with hp | hp
      · have hcall := HC.out k hlt wo hsm
        rw [hp] at hcall
        have HCL := Lib.hid hcall
        have HP := Lib.hid hp
        clear hcall hp
        go_wp2_with fail
        refine HCL.out.mono ?_
        rintro e w2 ⟨rfl, hs2⟩
        go_wp2
        go_roundw
        case rel => exact ⟨k + 1, by omega, by go_num, fst_next HA.out HP.out, hsm.trans hs2⟩
        case measure => simp [intOf]; omega
      · have hcall := HC.out k hlt wo hsm
        rw [hp] at hcall
        have HCL := Lib.hid hcall
        have HP := Lib.hid hp
        clear hcall hp
        go_wp2_with fail
        refine HCL.out.mono ?_
        rintro e w2 ⟨rfl, hs2⟩
        go_wp2
        go_ret
        exact ⟨⟨k, by omega, HA.out, .inl ⟨hlt, HP.out, rfl⟩⟩, hsm.trans hs2⟩
    · obtain rfl : k = m := by omega
      go_wp2
      go_ret
      exact ⟨⟨k, by omega, HA.out, .inr ⟨rfl, rfl⟩⟩, hsm⟩

theorem fail1_any (q p bx : Nat) (v : Bool) (w : World) (cq cp : Array Value) (hb : w.cell? ⟨bx, 0, none⟩ = some (.pointer (some ⟨p, 0, none⟩))) (hq : w.heap[q]? = some (.cells cq 100 (0, 0))) (hp : w.heap[p]? = some (.cells cp 100 (0, 0))) (hv : decide (q = p) = v) :
    Calls Try.prog 136 #[.pointer (some ⟨q, 0, none⟩), .pointer (some ⟨bx, 0, none⟩)] w fun e w' => e = .returned (.bool v) ∧ Same w w' := by
  have hc := peq hq hp
  rw [hv] at hc
  clear hq hp hv
  go_enter Try.func136, Try.ntmps136
  go_wp2
  go_ret
  exact ⟨rfl, Same.refl _⟩

theorem same_kept {N : Nat} {w w' : World} (h : Same w w') : Kept N w w' := by obtain ⟨n, rfl⟩ := h; exact ⟨rfl, rfl, rfl, rfl, fun _ _ => rfl⟩
/-- a row without place k, its places from k up to i moved -/
def movP (ps : Nat → Option Addr) (k i j : Nat) : Option Addr := if k ≤ j ∧ j < i then ps (j + 1) else ps j
theorem movP_set (ps : Nat → Option Addr) {k i : Nat} (h : k ≤ i) : (fun j => if j = i then ps (i + 1) else movP ps k i j) = movP ps k (i + 1) := by
  funext j
  unfold movP
  by_cases e : j = i
  · subst e; simp [h]
  · rw [if_neg e]
    by_cases h1 : k ≤ j ∧ j < i
    · rw [if_pos h1, if_pos (by omega)]
    · rw [if_neg h1, if_neg (by omega)]

set_option maxHeartbeats 2000000 in
theorem del_any (k N m cap : Nat) (cv : Value) (ps : Nat → Option Addr) (w : World) (h : PRow w N m ps) (hk : k < m) (hm : m ≤ 10) (hc : m ≤ cap)
    (hcl : ∀ j, j < m → ∀ wr, Kept N w wr → Calls Try.prog 136 #[.pointer (ps j), cv] wr fun e w' => e = .returned (.bool (decide (j = k))) ∧ Same wr w') :
    Calls Try.prog 134 #[.slice (some ⟨N, 0, none⟩) m cap, .func (.func 136) #[] #[cv]] w fun e w' => e = .returned (.slice (some ⟨N, 0, none⟩) (m - 1) cap) ∧ PRow w' N (m - 1) (movP ps k m) ∧ Kept N w w' := by
  have HR := Lib.hid h
  have HC := Lib.hid hcl
  clear h hcl
  go_enter Try.func134, Try.ntmps134
  go_wp2_with fail
  refine (idxFail_any (fun j => decide (j = k)) N m cap cv ps w HR.out hm (fun j hj wr hs => HC.out j hj wr (same_kept hs))).mono ?_
  rintro e w1 ⟨⟨k1, hk1, hall, hor⟩, hs1⟩
  have he : k1 = k ∧ e = .returned (.int .i64 k) := by
    rcases hor with ⟨h1, h2, h3⟩ | ⟨h1, _⟩
    · have : k1 = k := by simpa using h2
      subst this; exact ⟨rfl, h3⟩
    · have := hall k (by omega); simp at this
  obtain ⟨rfl, rfl⟩ := he
  clear hall hor
  have HR1 := Lib.hid (HR.out.kept (w' := w1) (by rw [hs1.heap]))
  have v1 : ((k1 : Int) == -1) = false := by simp
  go_wp2
  clear v1
  go_loopw [5, 6] (fun i j wr => ∃ a : Nat, k1 ≤ a ∧ a < m ∧ i = .int .i64 a ∧ j = .int .i64 (a + 1 : Nat) ∧ PRow wr N m (movP ps k1 a) ∧ Kept N w wr) (fun i _ _ => m - (intOf i).toNat)
  case atStart => exact ⟨k1, Nat.le_refl _, hk, rfl, by go_num, by have := HR1.out; rwa [show movP ps k1 k1 = ps from by funext j; unfold movP; rw [if_neg (by omega)]], same_kept hs1⟩
  case round =>
    obtain ⟨a, ha1, ha2, rfl, rfl, hrow, hkp⟩ := hrel
    obtain ⟨wo, rfl⟩ : ∃ x, x = wr := ⟨_, rfl⟩
    by_cases hlt : a + 1 < m
    · have c0 := (hrow.cell hlt).1
      have c1 := hrow.cell ha2
      rw [show movP ps k1 a (a + 1) = ps (a + 1) by unfold movP; rw [if_neg (by omega)]] at c0
      have hcall := HC.out (a + 1) hlt wo hkp
      rw [show decide (a + 1 = k1) = false by simp; omega] at hcall
      have HCL := Lib.hid hcall
      have HROW := Lib.hid hrow
      obtain ⟨c1, c2⟩ := c1
      clear hcall hrow
      go_wp2_with fail
      refine HCL.out.mono ?_
      rintro e w2 ⟨rfl, hs2⟩
      have c1' := (hs2.cell ⟨N, a, none⟩).trans c1
      have c2' : w2.frozen? ⟨N, a, none⟩ = false := by have := hs2.heap; simp only [World.frozen?, this] at c2 ⊢; exact c2
      clear c1 c2 c0
      go_wp2
      go_roundw
      case rel =>
        refine ⟨a + 1, by omega, hlt, by go_num, by go_num, ?_, (hkp.trans (same_kept hs2)).trans (kept_cell _ _ _ _)⟩
        have := (HROW.out.kept (w' := w2) (by rw [hs2.heap])).set ha2 (ps (a + 1))
        rwa [movP_set ps ha1] at this
      case measure => simp [intOf]; omega
    · obtain rfl : m = a + 1 := by omega
      have hcl : ∀ ty, (Builtin.clear_ #[59] ty #[.slice (some ⟨N, a, none⟩) 1 (cap - a)]).run Try.prog wo = .ok (.tuple #[]) (wo.setCells N a (List.replicate 1 (.pointer none))) :=
        fun ty => Lib.run_clear_slice wo _ _ ty _ Try.underlying59 (fun _ => by kernel_rfl) rfl rfl N a 1 _ (by omega) (fun t ht => by obtain rfl : t = 0 := (by omega); rw [Nat.add_zero, (hrow.cell ha2).1]; rfl) (fun t ht => by obtain rfl : t = 0 := (by omega); exact (hrow.cell ha2).2)
      have HROW := Lib.hid hrow
      have e1 : (a + 1 : Nat) - a = 1 := by omega
      clear hrow
      go_wp2
      go_ret
      rw [Nat.add_sub_cancel]
      refine ⟨rfl, ?_, hkp.trans (kept_cell _ _ _ _)⟩
      obtain ⟨la, l1, l2⟩ := HROW.out.set ha2 none
      refine ⟨la, l1, fun j hj => (l2 j (by omega)).trans ?_⟩
      simp only [if_neg (show j ≠ a by omega)]
      unfold movP
      by_cases h1 : k1 ≤ j ∧ j < a
      · rw [if_pos h1, if_pos (by omega)]
      · rw [if_neg h1, if_neg (by omega)]

theorem sz_rv3 {r : List Nd} (h : rvB r = true) : szR r ≤ 1048576 := by
  have h10 := rv_len h
  have : ∀ k, k ≤ r.length → sumA r k ≤ 2 * k := fun k => by
    induction k with
    | zero => intro _; exact Nat.le_refl _
    | succ k ih =>
      intro hk
      have h2 := (nd_open h (show k < r.length by omega)).2.2.2.2
      have h3 : (gn r k).aft.length = 2 := by rw [h2]; rfl
      have := ih (by omega)
      rw [sumA, h3]; omega
  have := this r.length (Nat.le_refl _)
  unfold szR; omega
/-- the pointers to the peers of a ring -/
def psOf (K : Nat → Option Pr) (r : List Nd) (j : Nat) : Option Addr := some ⟨(prOf K r j).blk, 0, none⟩
/-- the peer of node k is dead: the others are a network -/
theorem dn_cut {K : Nat → Option Pr} {r : List Nd} {k : Nat} {p : Pr} (h : Dn K r) (hv : rvB r = true) (hk : k < r.length) (hp : K (gn r k).pos.toNat = some p) : Dn (setK K (gn r k).pos.toNat { p with lv := false }) (cutR r k) := by
  have hle : KLe K (setK K (gn r k).pos.toNat { p with lv := false }) := kle_put hp rfl
  have hne : ∀ i, i < r.length → i ≠ k → (gn r i).pos.toNat ≠ (gn r k).pos.toNat := fun i hi hne e => by
    have h1 := (nd_open hv hi).1
    have h2 := (nd_open hv hk).1
    exact hne (rv_inj hv hi hk (by omega))
  have hcl := cut_len (r := r) hk
  refine ⟨fun i hi => ?_, fun x q hq hno => ?_⟩
  · rw [cut_at hk (by omega)]
    by_cases h1 : i < k
    · rw [if_pos h1]
      obtain ⟨q, hq, hd⟩ := h.1 i (by omega)
      exact ⟨q, by rw [setK_ne _ (hne i (by omega) (by omega))]; exact hq, hd.mono hle⟩
    · rw [if_neg h1]
      obtain ⟨q, hq, hd⟩ := h.1 (i + 1) (by omega)
      exact ⟨q, by rw [setK_ne _ (hne (i + 1) (by omega) (by omega))]; exact hq, hd.mono hle⟩
  · by_cases hx : x = (gn r k).pos.toNat
    · subst hx; rw [setK_at] at hq; injection hq with hq; subst hq; rfl
    · rw [setK_ne _ hx] at hq
      refine h.2 x q hq (fun j hj e => ?_)
      have hjk : j ≠ k := fun e' => hx (by rw [← e, e'])
      by_cases h1 : j < k
      · have := hno j (by omega); rw [cut_at hk (by omega), if_pos h1] at this; exact this e
      · have := hno (j - 1) (by omega); rw [cut_at hk (by omega), if_neg (by omega), show j - 1 + 1 = j by omega] at this; exact this e
/-- what a failure leaves -/
def FailPost (n : Nat) (r : List Nd) (k : Nat) (w : World) (e : Ending) (w' : World) : Prop :=
  e = .returned (.bool (sfB (cutR r k))) ∧ ∃ L' cap' K', NW w' n L' cap' K' (if sfB (cutR r k) then cutR r k else r) ∧ Below n w w'
theorem fail_dead (g : Nat) (pn po : Option Addr) (w : World) (c1 : w.cell? ⟨g, 1, none⟩ = some (.bool false)) :
    Calls Try.prog 120 #[.pointer pn, .pointer (some ⟨g, 0, none⟩), .pointer po] w fun e w' => e = .returned (.bool false) ∧ Below w.heap.size w w' := by
  have hg := block_lt c1
  have d1 : (w.alloc (.cells #[.pointer (some ⟨g, 0, none⟩)] 84)).cell? ⟨g, 1, none⟩ = some (.bool false) := (((Below.refl _ _).alloc (Nat.le_refl _) _ : Below w.heap.size w (w.alloc _)).cell (p := ⟨g, 1, none⟩) hg).trans c1
  clear hg
  go_enter Try.func120, Try.ntmps120
  go_wp2
  go_ret
  exact ⟨rfl, (Below.refl _ _).alloc (Nat.le_refl _) _⟩

set_option maxHeartbeats 4000000 in
theorem fail_live (n L : Nat) (K : Nat → Option Pr) (r : List Nd) (k : Nat) (p : Pr) (po : Option Addr) (w : World) (h : NW w n L r.length K r) (hs : safeB r = true) (hk : k < r.length) (hp : K (gn r k).pos.toNat = some p) :
    Calls Try.prog 120 #[.pointer (some ⟨n, 0, none⟩), .pointer p.ad, .pointer po] w (FailPost n r k w) := by
  have hv := safe_rv hs
  have h10 := rv_len hv
  have hpp := (nd_open hv hk).1
  obtain ⟨c0, c1, c2, c3, c4, cf, hpl, hpn, clv⟩ := h.known hv hpp hp
  rw [live_at hk] at c1 clv
  obtain ⟨la, l1, l2, l3⟩ := id h
  obtain ⟨t0, _⟩ := h.top
  have hnl := h.lt
  obtain ⟨w1, hw1⟩ : ∃ x, x = w.alloc (.cells #[.pointer (some ⟨p.blk, 0, none⟩)] 84) := ⟨_, rfl⟩
  have hB1 : Below w.heap.size w w1 := by rw [hw1]; exact (Below.refl _ _).alloc (Nat.le_refl _) _
  have hz1 : w1.heap.size = w.heap.size + 1 := by rw [hw1]; simp
  have hbx : w1.heap[w.heap.size]? = some (.cells #[.pointer (some ⟨p.blk, 0, none⟩)] 84 (0, 0)) := by rw [hw1]; exact heap_alloc_new w _
  have b0 : w1.cell? ⟨w.heap.size, 0, none⟩ = some (.pointer (some ⟨p.blk, 0, none⟩)) := by rw [cell_of_cells hbx]; rfl
  have d1 : w1.cell? ⟨p.blk, 1, none⟩ = some (.bool true) := (hB1.cell (p := ⟨p.blk, 1, none⟩) hpl).trans c1
  have df : w1.frozen? ⟨p.blk, 1, none⟩ = false := (hB1.frozen (p := ⟨p.blk, 1, none⟩) hpl).trans (cf 1)
  have L1 := l1.keep (w' := w1) (fun g hg => hB1.block g hg)
  obtain ⟨w2, hw2'⟩ : ∃ x, x = (w.setCell ⟨p.blk, 1, none⟩ (.bool false)).alloc (.cells #[.pointer (some ⟨p.blk, 0, none⟩)] 84) := ⟨_, rfl⟩
  have hw2 : w2 = w1.setCell ⟨p.blk, 1, none⟩ (.bool false) := by rw [hw2', hw1, World.setCell_alloc_past _ _ _ _ hpl]
  have L2 : LK w2 n n (some (.slice (some ⟨L, 0, none⟩) r.length r.length)) L la (setK K (gn r k).pos.toNat { p with lv := false }) := by rw [hw2]; exact L1.put (p' := { p with lv := false }) (by omega) hp rfl 1 (.bool false) rfl
  have hz2 : w2.heap.size = w.heap.size + 1 := by rw [hw2]; simp [World.setCell]; exact hz1
  have e0 : w2.cell? ⟨w.heap.size, 0, none⟩ = some (.pointer (some ⟨p.blk, 0, none⟩)) := by
    rw [hw2, World.cell?_setCell_other _ ⟨p.blk, 1, none⟩ ⟨w.heap.size, 0, none⟩ _ (by intro e; injection e with e _; omega)]; exact b0
  obtain ⟨t2, t2f⟩ := L2.topcell
  have hB2 : Below n w w2 := by rw [hw2]; exact (hB1.mono (by omega)).setCell (p := ⟨p.blk, 1, none⟩) hpn _
  have HNE : Hid (∀ i, i < r.length → K (gn r i).pos.toNat = some (prOf K r i)) := fun i hi => by
    obtain ⟨q, hq, _⟩ := l2.1 i hi
    rw [prOf_eq hq]; exact hq
  have HPK : Hid (prOf K r k = p) := prOf_eq hp
  have HROW : Hid (PRow w2 L r.length (psOf K r)) := by
    show PRow _ _ _ _
    refine ⟨la, L2.lblk, fun j hj => ?_⟩
    obtain ⟨q, hq, e⟩ := l3 j hj
    rw [e]; simp [psOf, Pr.ad, prOf_eq hq]
  have HCUT : Hid (Dn (setK K (gn r k).pos.toNat { p with lv := false }) (cutR r k)) := dn_cut l2 hv hk hp
  have HL2 := Lib.hid L2
  have HV := Lib.hid hv
  have HP := Lib.hid hp
  have HD := Lib.hid l2
  have H3 := Lib.hid l3
  have HLV := Lib.hid clv
  have HBX : Hid (w2.heap[w.heap.size]? = some (.cells #[.pointer (some ⟨p.blk, 0, none⟩)] 84 (0, 0))) := by show _ = _; rw [hw2]; exact (heap_set_ne _ _ _ _ _ (by omega)).trans hbx
  have hmf : ∀ (fn : Fn) (first cap : Array Value) (w : World), (Instr.makeFunc fn first cap).run Try.prog w = .ok (.func fn first cap) w := fun _ _ _ _ => rfl
  have HC2 := Lib.hid c0
  clear h hs hv hp l1 l2 l3 L1 L2 c0 c1 c2 c3 c4 cf clv t0 hbx t2f
  simp only [Pr.ad]
  clear hw2
  subst hw2' hw1
  go_enter Try.func120, Try.ntmps120
  go_wp2_with fail
  generalize hw2 : (w.setCell ⟨p.blk, 1, none⟩ (.bool false)).alloc (.cells #[.pointer (some ⟨p.blk, 0, none⟩)] 84) = w2 at *
  clear hw2 b0 d1 df hB1 hz1 t2
  refine (clone_any L r.length r.length (psOf K r) w2 HROW.out h10).mono ?_
  rintro e w3 ⟨N, c3, rfl, hc3, hcm3, hrow3, hN3, hB3⟩
  have HROW3 := Lib.hid hrow3
  have HCL : Hid (∀ j, j < r.length → ∀ wr, Kept N w3 wr → Calls Try.prog 136 #[.pointer (psOf K r j), .pointer (some ⟨w.heap.size, 0, none⟩)] wr fun e w' => e = .returned (.bool (decide (j = k))) ∧ Same wr w') := fun j hj wr hkp => by
    have hk2 : ∀ g, g < w2.heap.size → wr.heap[g]? = w2.heap[g]? := fun g hg => (hkp.block g (by omega)).trans (hB3.block g hg)
    have hb : wr.cell? ⟨w.heap.size, 0, none⟩ = some (.pointer (some ⟨p.blk, 0, none⟩)) := by
      rw [cell_of_cells ((hk2 _ (by omega)).trans HBX.out)]; rfl
    have hpj := (nd_open HV.out hj).1
    obtain ⟨q2, hq2, hqb⟩ := (kle_put (p' := { p with lv := false }) HP.out rfl) _ _ (HNE.out j hj)
    have hblk := (HL2.out.peer _ _ (by omega) hq2).1
    rw [hqb] at hblk
    obtain ⟨p2, hp2, hpb2⟩ := (kle_put (p' := { p with lv := false }) HP.out rfl) _ _ HP.out
    have hblk2 := (HL2.out.peer _ _ (by omega) hp2).1
    rw [hpb2] at hblk2
    refine fail1_any (prOf K r j).blk p.blk w.heap.size _ wr _ _ hb ((hk2 _ (heap_lt hblk)).trans hblk) ((hk2 _ (heap_lt hblk2)).trans hblk2) (decide_eq_decide.2 ?_)
    constructor
    · intro e
      have := HL2.out.inj (by omega) (by omega) hq2 hp2 (by rw [hqb, hpb2]; exact e)
      exact rv_inj HV.out hj hk (by omega)
    · intro e; subst e; rw [HPK.out]
  clear hrow3
  go_wp2_with fail
  refine (del_any k N r.length c3 _ (psOf K r) w3 HROW3.out hk h10 hc3 HCL.out).mono ?_
  rintro e w4 ⟨rfl, hrow4, hkp4⟩
  have hk4 : ∀ g, g < w2.heap.size → w4.heap[g]? = w2.heap[g]? := fun g hg => (hkp4.block g (by omega)).trans (hB3.block g hg)
  obtain ⟨la4, hla4, hl4⟩ := hrow4
  have HL4 := Lib.hid (HL2.out.keep hk4)
  have HK4 := Lib.hid hk4
  have hcl := cut_len (r := r) hk
  have HLIST : Hid (ListOk (setK K (gn r k).pos.toNat { p with lv := false }) (cutR r k) la4 (cutR r k).length) := fun j hj => by
    have hne : ∀ i, i < r.length → i ≠ k → (gn r i).pos.toNat ≠ (gn r k).pos.toNat := fun i hi hne e => by
      have h1 := (nd_open HV.out hi).1
      exact hne (rv_inj HV.out hi hk (by omega))
    rw [cut_at hk (by omega)]
    have hl := hl4 j (by omega)
    by_cases h1 : j < k
    · rw [if_pos h1]
      refine ⟨prOf K r j, by rw [setK_ne _ (hne j (by omega) (by omega))]; exact HNE.out j (by omega), ?_⟩
      rw [hl]; unfold movP; rw [if_neg (by omega)]; rfl
    · rw [if_neg h1]
      refine ⟨prOf K r (j + 1), by rw [setK_ne _ (hne (j + 1) (by omega) (by omega))]; exact HNE.out (j + 1) (by omega), ?_⟩
      rw [hl]; unfold movP; rw [if_pos (by omega)]; rfl
  have HLA := Lib.hid hla4
  have HNET : Hid (Net w4 N (cutR r k) (setK K (gn r k).pos.toNat { p with lv := false })) := ⟨n, n, _, la4, HL4.out.relist HLA.out (by omega), HCUT.out, HLIST.out⟩
  have HCL2 := Lib.hid hcl
  have HVC : Hid (rvB (cutR r k) = true) := cut_rv HV.out hk
  have hB4 : Below n w w4 := ⟨hkp4.os.trans (hB3.os.trans hB2.os), hkp4.tape.trans (hB3.tape.trans hB2.tape), hkp4.output.trans (hB3.output.trans hB2.output), by have := hkp4.size; have := hB3.size; omega, fun g hg => (hk4 g (by omega)).trans (hB2.block g hg)⟩
  clear hla4 hl4 hk4 hcl
  rcases bool_cases (sfB (cutR r k)) with hsf | hsf
  · have HSF := Lib.hid hsf
    clear hsf
    go_wp2_with fail
    refine (areSafe_any false N (cutR r k) _ (r.length - 1) c3 w4 HNET.out HVC.out HCL2.out HSF.out).mono ?_
    rintro e w5 ⟨rfl, hB5⟩
    have HL5 := Lib.hid (HL4.out.keep (fun g hg => hB5.block g hg))
    obtain ⟨p2, hp2, hpb2⟩ := (kle_put (p' := { p with lv := false }) HP.out rfl) _ _ HP.out
    obtain ⟨x0, x1, x2, x3, x4, xf⟩ := HL5.out.cells (by omega) hp2
    rw [hpb2] at x1 xf
    have xf1 := xf 1
    have y0 : w5.cell? ⟨w.heap.size, 0, none⟩ = some (.pointer (some ⟨p.blk, 0, none⟩)) := by
      have h1 := (HK4.out w.heap.size (by omega)).trans HBX.out
      rw [cell_of_cells ((hB5.block _ (heap_lt h1)).trans h1)]; rfl
    clear x0 x2 x3 x4 xf
    have HP2 := Lib.hid (And.intro hp2 hpb2)
    clear hp2 hpb2
    go_wp2
    go_ret
    unfold FailPost
    rw [HSF.out]
    have hput := HL5.out.put (p := p2) (p' := p) (by omega) HP2.out.1 HP2.out.2.symm 1 (.bool true) (by rw [HLV.out]; have h1 := HP2.out.1; rw [setK_at] at h1; injection h1 with h1; subst h1; rfl)
    have ek : setK (setK K (gn r k).pos.toNat { p with lv := false }) (gn r k).pos.toNat p = K := by
      funext y; unfold setK; split
      · rename_i hy; rw [hy]; exact HP.out.symm
      · rename_i hy; rfl
    rw [ek, HP2.out.2] at hput
    exact ⟨rfl, L, r.length, K, ⟨la, hput, HD.out, H3.out⟩, (hB4.trans (hB5.mono (by have := hB4.size; omega))).setCell (p := ⟨p.blk, 1, none⟩) hpn _⟩
  · have HSF := Lib.hid hsf
    clear hsf
    go_wp2_with fail
    refine (areSafe_any true N (cutR r k) _ (r.length - 1) c3 w4 HNET.out HVC.out HCL2.out HSF.out).mono ?_
    rintro e w5 ⟨rfl, hB5⟩
    have HL5 : Hid (LK w5 n n (some (.slice (some ⟨L, 0, none⟩) r.length r.length)) N la4 (setK K (gn r k).pos.toNat { p with lv := false })) := (HL4.out.relist HLA.out (by omega)).keep (fun g hg => hB5.block g hg)
    obtain ⟨y0, y1⟩ := HL5.out.topcell
    go_wp2
    go_ret
    unfold FailPost
    rw [HSF.out]
    refine ⟨rfl, N, c3, _, ⟨la4, ?_, HCUT.out, HLIST.out⟩, (hB4.trans (hB5.mono (by have := hB4.size; omega))).setCell (p := ⟨n, 64, none⟩) (Nat.le_refl _) _⟩
    rw [if_pos rfl, HCL2.out]
    exact HL5.out.top (tp := none) _

theorem rfail_act (i : Int) (r : List Nd) (ha : arg3 r i i = true) : ActOk 120 r i i (failR r i) (failB r i) ∧ rvB (failR r i) = true := by
  have ho : oneB r i = true := by rw [← arg3_self]; exact ha
  have hs := one_safe ho
  have hv := safe_rv hs
  have hpi := (ptB_iff i).1 (by unfold oneB at ho; simp at ho; exact ho.2)
  rcases bool_cases (liveB r i) with hl | hl
  · have e1 : failR r i = r := by unfold failR; rw [ho, hl]; rfl
    have e2 : failB r i = false := by unfold failB; rw [ho, hl]; rfl
    rw [e1, e2]
    refine ⟨fun n L K p q w hn hp hq => ?_, hv⟩
    obtain ⟨_, c1, _⟩ := hn.known hv hpi hp
    rw [hl] at c1
    refine (fail_dead p.blk _ _ w c1).mono ?_
    rintro e w' ⟨rfl, hb⟩
    exact ⟨rfl, L, r.length, K, hn.keepB hb, hb.mono (by have := hn.lt; omega)⟩
  · have e1 : failR r i = if sfB (cutR r (idxR r i)) then cutR r (idxR r i) else r := by unfold failR; rw [ho, hl]; rfl
    have e2 : failB r i = sfB (cutR r (idxR r i)) := by unfold failB; rw [ho, hl]; rfl
    obtain ⟨hk, hko, _⟩ := idx_live hl
    rw [e1, e2]
    refine ⟨fun n L K p q w hn hp hq => fail_live n L K r (idxR r i) p _ w hn hs hk (by rw [hko]; exact hp), ?_⟩
    split
    · exact cut_rv hv hk
    · exact hv

set_option maxHeartbeats 1000000 in
theorem rfail_any (a : Option Addr) (len cap : Nat) (i : Int) (r : List Nd) (w : World) (h : RingAt w a r) (hz : r.length = len) (hm : len ≤ maxLen) :
    Calls Try.prog 31 #[.slice a len cap, .int .i64 i] w (NewRB (failR r i) (failB r i) w) := by
  have ht : Calls Try.prog 62 #[.slice a len cap, .int .i64 1, .int .i64 i, .int .i64 i] w (NewRB (failR r i) (failB r i) w) := by
    rcases bool_cases (arg3 r i i) with ha | ha
    · have ho : oneB r i = false := by rw [← arg3_self]; exact ha
      have e1 : failR r i = [] := by unfold failR; rw [ho]; rfl
      have e2 : failB r i = false := by unfold failB; rw [ho]; rfl
      rw [e1, e2]; exact take_no 1 a len cap r i i w h hz hm ha
    · obtain ⟨h1, h2⟩ := rfail_act i r ha
      exact take_fail a len cap r i i _ _ w h hz hm ha h1 h2
  have HT := Lib.hid ht
  generalize failR r i = R at *
  generalize failB r i = B at *
  clear ht h hz hm
  go_enter Try.func31, Try.ntmps31
  go_wp2_with (go_at_call 62; refine HT.out.mono ?_; rintro e w1 ⟨N, cp, F, rfl, ho, hc1, hc2, hb⟩; have HO := Lib.hid ho; clear ho)
  go_ret2
  exact ⟨N, cp, F, rfl, HO.out, hc1, hc2, hb⟩
theorem fail_sz (r : List Nd) (i : Int) : szR (failR r i) ≤ 1048576 := by
  rcases bool_cases (oneB r i) with ho | ho
  · have e1 : failR r i = [] := by unfold failR; rw [ho]; rfl
    rw [e1]; simp [szR, sumA]
  · exact sz_rv3 (rfail_act i r (by rw [arg3_self]; exact ho)).2
end Go.Proofs.Ytndjkokipiikpaa
