/- What the model does with tables: making one. -/
import Derived.Test.YtidabcdaodlfeaaPlS
namespace Go.Proofs.Ytidabcdaodlfeaa
open Go.RowKit
set_option linter.unusedVariables false
attribute [local go_sem ↓] Go.wp_at_zero Go.wp_at_succ

theorem OwnK.take {w : World} {base g cap : Nat} {L : List Tk} (h : OwnK w base g cap L) (k : Nat) : OwnK w base g cap (L.take k) := by
  obtain ⟨h1, h2, cs, h3, h4, h5, h6, h7⟩ := h.blk
  refine ownk_mk h3 h1 (by rw [List.length_take]; omega) h5 h6 fun j u hu => h7 j u ?_
  have e : flatK L = flatK (L.take k) ++ flatK (L.drop k) := by rw [← flatK_app, List.take_append_drop]
  rw [e, List.getElem?_append_left]
  · exact hu
  · rcases Nat.lt_or_ge j (flatK (L.take k)).length with h' | h'
    · exact h'
    · rw [List.getElem?_eq_none h'] at hu; cases hu
theorem OwnK.front {w : World} {base g cap : Nat} {L M : List Tk} (h : OwnK w base g cap (L ++ M)) : OwnK w base g cap L := by
  have := h.take L.length
  rwa [List.take_left'] at this
  rfl
/-- at most one token, at a position -/
def OneAt (X : List Tk) (p : Int) : Prop := X = [] ∨ ∃ n, X = [⟨p, n⟩]
theorem atP_one (zs ws : List Int) (p : Int) (m d : Nat) : OneAt (atP zs ws p m d) p := by
  rcases atP_some zs ws p m d with ⟨h, _⟩ | ⟨i, _, _, _, _, h⟩
  · exact .inl h
  · exact .inr ⟨_, h⟩
/-- what stands at a position in the midst of a node's tokens -/
def midP (zs ws : List Int) (p : Int) (m k : Nat) : List Tk := if hitTo zs m p k = true then [⟨p, gt zs m⟩] else atP zs ws p (m + 1) (zs.length - (m + 1))
theorem midP_zero (zs ws : List Int) (p : Int) (m : Nat) : midP zs ws p m 0 = atP zs ws p (m + 1) (zs.length - (m + 1)) := by simp [midP, hitTo]
theorem midP_no {zs ws : List Int} {p : Int} {m k : Nat} (h : tok (gt zs m) k ≠ p) : midP zs ws p m (k + 1) = midP zs ws p m k := by
  unfold midP
  have : hitTo zs m p (k + 1) = hitTo zs m p k := by simp [hitTo, h]
  rw [this]
theorem midP_yes {zs ws : List Int} {p : Int} {m k : Nat} (h : tok (gt zs m) k = p) : midP zs ws p m (k + 1) = [⟨p, gt zs m⟩] := by
  unfold midP
  rw [if_pos (by simp [hitTo, h])]
theorem midP_end {zs ws : List Int} {p : Int} {m k : Nat} (hm : m < zs.length) (hk : (gt ws m).toNat = k) : midP zs ws p m k = atP zs ws p m (zs.length - m) := by
  have : zs.length - m = (zs.length - (m + 1)) + 1 := by omega
  rw [this, atP, midP, hit, hk]
theorem midP_one (zs ws : List Int) (p : Int) (m k : Nat) : OneAt (midP zs ws p m k) p := by
  unfold midP
  split
  · exact .inr ⟨_, rfl⟩
  · exact atP_one _ _ _ _ _
theorem OneAt.len {X : List Tk} {p : Int} (h : OneAt X p) : X.length ≤ 1 := by rcases h with rfl | ⟨n, rfl⟩ <;> simp
/-- the row so far, behind one append -/
theorem tkfar_app {M : List Tk} {x : Tk} {w wr w2 : World} {g g' cap' : Nat} (hb : Below w.heap.size w wr) (hgr : (wr.alloc (.cells #[.int .i64 x.p, .int .i64 x.n] 35)).grownBy w2 (some g)) (hgb : w.heap.size ≤ g)
    (ho : OwnK w2 w.heap.size g' cap' (M ++ [x])) : TkFar (M ++ [x]) w (.slice (some ⟨g', 0, none⟩) (M.length + 1) cap') w2 := by
  refine ⟨g', cap', by rw [List.length_append]; rfl, ho, ?_⟩
  exact (hb.trans ((alB wr _).mono hb.size)).grown hgr (by simp; have := hb.size; omega) (fun k hk => by injection hk with hk; omega)

set_option maxRecDepth 20000 in
set_option maxHeartbeats 4000000 in
theorem splace_any (a b : Option Addr) (la lb ca cb : Nat) (zs ws : List Int) (w : World) (ha : IntsAt w a zs) (hb : IntsAt w b ws) (hza : zs.length = la) (hzb : ws.length = lb) (hma : la ≤ maxLen) (hmb : lb ≤ maxLen) :
    Calls Try.prog 23 #[.slice a la ca, .slice b lb cb] w (NewK (plR zs ws) w) := by
  obtain ⟨w1, hw1⟩ : ∃ w1, w1 = w.alloc (.cells #[] 35) := ⟨_, rfl⟩
  have H0 : Hid (TkFar [] w (.slice (some ⟨w.heap.size, 0, none⟩) 0 0) w1) := by show TkFar _ _ _ _; rw [hw1]; exact tkfar_new w _ rfl
  have hB1 : Below w.heap.size w w1 := by rw [hw1]; exact alB _ _
  have HA0 := Lib.hid ha
  have HB0 := Lib.hid hb
  have HA := Lib.hid (ha.keepB hB1 (Nat.le_refl _))
  have HZA := Lib.hid hza
  have HZB := Lib.hid hzb
  have HMA := Lib.hid hma
  have HW := Lib.hid hw1
  have HSF : Hid (∀ (v : Value) (u u' : World), TkFar [] w v u → Same u u' → TkFar [] w v u') := fun v u u' h hs => by
    obtain ⟨g, c, e, ho, hbb⟩ := h
    exact ⟨g, c, e, ho.keepB (hs.below _) (Nat.le_refl _), hbb.trans ((hs.below u.heap.size).mono hbb.size)⟩
  have hmb' : lb ≤ 9223372036854775807 := by unfold maxLen at hmb; omega
  clear ha hb hza hzb hma hw1 hmb
  cases hv : vldB zs
  · have HR := Lib.hid (plR_bad (zs := zs) (ws := ws) (by simp [plOk, hv]))
    go_enter Try.func23, Try.ntmps23
    go_wp2_with fail
    rw [← HW.out]
    refine (svalid_any a la ca zs w1 HA.out HZA.out HMA.out).mono ?_
    rintro e w2 ⟨rfl, hs⟩
    rw [hv]
    go_wp2
    go_ret
    rw [HR.out]
    exact newK_of (HSF.out _ _ _ H0.out hs)
  have HV := Lib.hid hv
  by_cases hl : lb = la
  rotate_left
  · have HR := Lib.hid (plR_bad (zs := zs) (ws := ws) (by simp [plOk]; intro _ h; have h1 := HZA.out; have h2 := HZB.out; omega))
    have hl' : ((lb : Int) != (la : Int)) = true := by simp; omega
    go_enter Try.func23, Try.ntmps23
    go_wp2_with fail
    rw [← HW.out]
    refine (svalid_any a la ca zs w1 HA.out HZA.out HMA.out).mono ?_
    rintro e w2 ⟨rfl, hs⟩
    rw [hv]
    clear hl
    go_wp2
    go_ret
    rw [HR.out]
    exact newK_of (HSF.out _ _ _ H0.out hs)
  · subst hl
    have hl' : ((lb : Int) != (lb : Int)) = false := by simp
    have hlen := vld_len hv
    rw [HZA.out] at hlen
    go_enter Try.func23, Try.ntmps23
    go_wp2_with fail
    rw [← HW.out]
    refine (svalid_any a lb ca zs w1 HA.out HZA.out HMA.out).mono ?_
    rintro e w2 ⟨rfl, hs⟩
    have H2 := Lib.hid (HSF.out _ _ _ H0.out hs)
    have hB2 : Below w.heap.size w w2 := hB1.trans ((hs.below w1.heap.size).mono hB1.size)
    have HB2 := Lib.hid (HB0.out.keepB hB2 (Nat.le_refl _))
    rw [hv]
    clear hv hs hB1
    go_wp2
    go_loop [6] (fun i => ∃ k : Nat, k ≤ lb ∧ i = .int .i64 k ∧ Hid (∀ j, j < k → 1 ≤ gt ws j ∧ gt ws j ≤ 5)) (fun i => lb - (intOf i).toNat)
    case atStart => exact ⟨0, by omega, rfl, fun j hj => by omega⟩
    case round =>
      obtain ⟨k, hk, rfl, HN⟩ := hrel
      by_cases hlt : k < lb
      · obtain ⟨bb, off, rfl, hb0, hcells⟩ : ∃ bb off, b = some ⟨bb, off, none⟩ ∧ bb < w2.heap.size ∧ ∀ i, i < ws.length → w2.cell? ⟨bb, off + i, none⟩ = some (.int .i64 (gt ws i)) := by
          rcases HB2.out with h0 | h0
          · have := HZB.out; rw [h0] at this; simp at this; omega
          · exact h0
        have hc := hcells k (by rw [HZB.out]; exact hlt)
        have k0 : (0 : Int) ≤ (k : Int) := by omega
        have k1 : (k : Int) < (lb : Int) := by omega
        clear hcells
        go_wp2_with fail
        refine (in_any (gt ws k) 1 5 w2).mono ?_
        rintro e w' ⟨rfl, rfl⟩
        cases hq : decide (1 ≤ gt ws k ∧ gt ws k ≤ 5)
        · have HQ := Lib.hid (of_decide_eq_false hq)
          have HR : Hid (plR zs ws = []) := plR_bad (by
            have : wsB ws = false := by
              rcases hh : wsB ws with _ | _
              · rfl
              · exact absurd ((wsB_iff _).1 hh k (by rw [HZB.out]; exact hlt)) HQ.out
            simp only [plOk, this, Bool.and_false])
          go_wp2
          go_ret
          rw [HR.out]
          exact newK_of H2.out
        · have HQ := Lib.hid (of_decide_eq_true hq)
          clear hq
          go_wp2
          go_round
          case rel => exact ⟨k + 1, by omega, by go_num, fun j hj => by rcases Nat.lt_or_ge j k with h' | h'; exact HN.out j h'; obtain rfl : j = k := (by omega); exact HQ.out⟩
          case measure => simp [intOf]; omega
      · obtain rfl : k = lb := by omega
        have HOK : Hid (plOk zs ws = true) := (plOk_iff _ _).2 ⟨HV.out, by rw [HZA.out, HZB.out], (wsB_iff _).2 fun i hi => HN.out i (by rw [HZB.out] at hi; exact hi)⟩
        have HR := Lib.hid (plR_ok HOK.out)
        clear hlt
        go_wp2
        go_loopw [5, 7, 8, 9] (fun o p _ _ wr => ∃ q : Nat, q ≤ 64 ∧ p = .int .i64 q ∧ TkFar (tabTo zs ws q) w o wr) (fun _ p _ _ _ => 64 - (intOf p).toNat)
        case atStart => exact ⟨0, by omega, rfl, H2.out⟩
        case round =>
          obtain ⟨q, hq, rfl, hfar⟩ := hrel
          have HF := Lib.hid hfar
          clear hfar
          by_cases hq64 : q < 64
          · obtain ⟨T, hT⟩ : ∃ T, T = tabTo zs ws q := ⟨_, rfl⟩
            have HT := Lib.hid hT
            have hTl : T.length ≤ 64 := by rw [hT]; exact Nat.le_trans (tabTo_len _ _ _) hq
            have HTL := Lib.hid (show ∀ x ∈ T, x.p < q by intro x hx; rw [hT] at hx; exact ((tab_ord zs ws q).2 x hx).2)
            have HF0 : Hid (TkFar (T ++ atP zs ws q k (zs.length - k)) w u5 wr) := by
              show TkFar _ _ _ _
              rw [HZA.out, Nat.sub_self]
              show TkFar (T ++ []) w u5 wr
              rw [List.append_nil, hT]; exact HF.out
            rw [← hT] at HF
            clear hT
            have HPT := Lib.hid (fun (m : Nat) (hm : m < zs.length) => asc_pt HV.out hm)
            have hqi : (q : Int) < 64 := by omega
            go_wp2
            go_loopw [5, 8, 9] (fun o iv _ wq => ∃ (m : Nat) (v : Int), m ≤ k ∧ v = (m : Int) - 1 ∧ iv = .int .i64 v ∧ TkFar (T ++ atP zs ws q m (zs.length - m)) w o wq) (fun _ iv _ _ => (intOf iv + 1).toNat)
            case atStart => exact ⟨k, _, Nat.le_refl _, rfl, rfl, HF0.out⟩
            case round =>
              obtain ⟨m', v, hm, hv, rfl, hfar⟩ := hrel
              have HG := Lib.hid hfar
              clear hfar HF HF0
              rcases Nat.eq_zero_or_pos m' with hm0 | hm0
              · subst hm0
                have hv0 : v < 0 := by omega
                have HG0 : Hid (TkFar (tabTo zs ws (q + 1)) w u5 wr) := by
                  have h := HG.out
                  show TkFar _ _ _ _
                  rw [tabTo, ← HT.out]
                  exact h
                clear hv HG
                go_wp2
                go_roundw
                case rel => exact ⟨q + 1, by omega, by go_num, HG0.out⟩
                case measure => simp [intOf]; omega
              · obtain ⟨m, rfl⟩ : ∃ m, m' = m + 1 := ⟨m' - 1, by omega⟩
                obtain rfl : v = (m : Int) := by omega
                clear hv hm0
                have hmk : m < k := by omega
                obtain ⟨hz0, hz1⟩ := HPT.out m (by rw [HZA.out]; exact hmk)
                obtain ⟨hw0, hw1⟩ := HN.out m hmk
                obtain ⟨ba, offa, rfl, _, hca⟩ : ∃ bb off, a = some ⟨bb, off, none⟩ ∧ bb < w.heap.size ∧ ∀ i, i < zs.length → w.cell? ⟨bb, off + i, none⟩ = some (.int .i64 (gt zs i)) := by
                  rcases HA0.out with h0 | h0
                  · have := HZA.out; rw [h0] at this; simp at this; omega
                  · exact h0
                obtain ⟨bb, offb, rfl, _, hcb⟩ : ∃ bb off, b = some ⟨bb, off, none⟩ ∧ bb < w.heap.size ∧ ∀ i, i < ws.length → w.cell? ⟨bb, off + i, none⟩ = some (.int .i64 (gt ws i)) := by
                  rcases HB0.out with h0 | h0
                  · have := HZB.out; rw [h0] at this; simp at this; omega
                  · exact h0
                clear hca hcb
                have HCA : Hid (∀ u, Below w.heap.size w u → u.cell? ⟨ba, offa + m, none⟩ = some (.int .i64 (gt zs m))) := Lib.hid (fun u hu => by
                  rcases HA0.out.keepB hu (Nat.le_refl _) with h0 | ⟨b', o', h1, _, h2⟩
                  · have := HZA.out; rw [h0] at this; simp at this; omega
                  · injection h1 with h1; injection h1 with h1 h3; subst h1 h3; exact h2 m (by rw [HZA.out]; exact hmk))
                have HCB : Hid (∀ u, Below w.heap.size w u → u.cell? ⟨bb, offb + m, none⟩ = some (.int .i64 (gt ws m))) := Lib.hid (fun u hu => by
                  rcases HB0.out.keepB hu (Nat.le_refl _) with h0 | ⟨b', o', h1, _, h2⟩
                  · have := HZB.out; rw [h0] at this; simp at this; omega
                  · injection h1 with h1; injection h1 with h1 h3; subst h1 h3; exact h2 m (by rw [HZB.out]; exact hmk))
                have k0 : (0 : Int) ≤ (m : Int) := by omega
                have k1 : (m : Int) < (k : Int) := by omega
                have HGZ : Hid (TkFar (T ++ midP zs ws q m 0) w u5 wr) := by
                  show TkFar _ _ _ _
                  rw [midP_zero]; exact HG.out
                go_wp2
                go_loopw [5, 9] (fun o kv wk => ∃ c : Nat, (c : Int) ≤ gt ws m ∧ kv = .int .i64 c ∧ TkFar (T ++ midP zs ws q m c) w o wk) (fun _ kv _ => (gt ws m - intOf kv).toNat)
                case atStart => exact ⟨0, by omega, rfl, HGZ.out⟩
                case round =>
                  obtain ⟨c, hc, rfl, g, cc, rfl, ho, hbel⟩ := hrel
                  clear HG HGZ
                  have hgl := ho.blk
                  have hcc : (T ++ midP zs ws q m c).length ≤ cc := by obtain ⟨_, _, _, _, h, _⟩ := hgl; exact h
                  have HO := Lib.hid ho
                  have hca := HCA.out _ hbel
                  have hcb := HCB.out _ hbel
                  have hws := hbel.size
                  have hgl : w.heap.size ≤ g ∧ g < wr.heap.size := ⟨hgl.1, hgl.2.1⟩
                  clear ho
                  by_cases hcl : (c : Int) < gt ws m
                  · have hc6 : c < 6 := by omega
                    go_wp2_with fail
                    refine (stok_any (gt zs m) c wr hz0 hz1 hc6).mono ?_
                    rintro e w' ⟨rfl, rfl⟩
                    by_cases ht : tok (gt zs m) c = q
                    rotate_left
                    · have hte : (tok (gt zs m) c != (q : Int)) = true := by simp [ht]
                      have HY := Lib.hid (midP_no (zs := zs) (ws := ws) ht)
                      clear ht
                      go_wp2
                      go_roundw
                      case rel => exact ⟨c + 1, by omega, by go_num, by rw [HY.out]; exact ⟨g, cc, by rw [List.length_append], HO.out, hbel⟩⟩
                      case measure => simp [intOf]; omega
                    · have hte : (tok (gt zs m) c != (q : Int)) = false := by simp [ht]
                      have HY := Lib.hid (midP_yes (zs := zs) (ws := ws) ht)
                      have hone := midP_one zs ws q m c
                      obtain ⟨X, hX⟩ : ∃ X, X = midP zs ws q m c := ⟨_, rfl⟩
                      rw [← hX] at HO hone hcc ⊢
                      clear hX ht
                      obtain ⟨t, htl⟩ : ∃ t, T.length = t := ⟨_, rfl⟩
                      have HTl := Lib.hid htl
                      rcases hone with hX | ⟨n, hX⟩
                      · subst hX
                        rw [List.append_nil] at HO hcc ⊢
                        rw [htl] at hcc hTl ⊢
                        clear htl
                        rcases Nat.eq_zero_or_pos t with h0 | h0
                        · subst h0
                          go_wp2_with (at_builtin; have h1 := (HO.out.keepB (alB wr (.cells #[.int .i64 (q : Int), .int .i64 (gt zs m)] 35)) (Nat.le_refl _)); have h2 := srcK_one (x := ⟨(q : Int), gt zs m⟩) (heap_alloc_new wr (.cells #[.int .i64 (q : Int), .int .i64 (gt zs m)] 35)); refine wl_appK _ (by rfl) _ _ (by rfl) w.heap.size g 0 cc T [⟨(q : Int), gt zs m⟩] (by rfl) h1 HTl.out ⟨wr.heap.size, 0, none⟩ 1 1 (by rfl) rfl h2 1 (by omega) (by omega) (by simp; omega) ?_; intro g' c' w3 hown3 hgr3 hat3; have H3 := Lib.hid (tkfar_app (x := ⟨(q : Int), gt zs m⟩) hbel hgr3 hgl.1 hown3); clear hown3 hgr3 hat3 h1 h2)
                          go_roundw
                          case rel => exact ⟨c + 1, by omega, by go_num, by rw [HY.out]; have := H3.out; rw [HTl.out] at this; exact this⟩
                          case measure => simp [intOf]; omega
                        · obtain ⟨s, rfl⟩ : ∃ s, t = s + 1 := ⟨t - 1, by omega⟩
                          have hs1 : (((s + 1 : Nat) : Int) - 1).toNat = s := by omega
                          have hs1' : ((s : Int) + 1 - 1).toNat = s := by omega
                          obtain ⟨hd0, hd1⟩ := HO.out.cells (i := s) (by rw [HTl.out]; omega)
                          have hlt := HTL.out _ (gk_mem (L := T) (i := s) (by rw [HTl.out]; omega))
                          have hne : ((gk T s).p == (q : Int)) = false := by rw [beq_eq_false_iff_ne]; omega
                          go_wp2_with (at_builtin; have h1 := (HO.out.keepB (alB wr (.cells #[.int .i64 (q : Int), .int .i64 (gt zs m)] 35)) (Nat.le_refl _)); have h2 := srcK_one (x := ⟨(q : Int), gt zs m⟩) (heap_alloc_new wr (.cells #[.int .i64 (q : Int), .int .i64 (gt zs m)] 35)); refine wl_appK _ (by rfl) _ _ (by rfl) w.heap.size g (s + 1) cc T [⟨(q : Int), gt zs m⟩] (by rfl) h1 HTl.out ⟨wr.heap.size, 0, none⟩ 1 1 (by rfl) rfl h2 (s + 1 + 1) (by omega) (by omega) (by simp; omega) ?_; intro g' c' w3 hown3 hgr3 hat3; have H3 := Lib.hid (tkfar_app (x := ⟨(q : Int), gt zs m⟩) hbel hgr3 hgl.1 hown3); clear hown3 hgr3 hat3 h1 h2)
                          go_roundw
                          case rel => exact ⟨c + 1, by omega, by go_num, by rw [HY.out]; have := H3.out; rw [HTl.out] at this; exact this⟩
                          case measure => simp [intOf]; omega
                      · subst hX
                        have hlen : (T ++ [(⟨(q : Int), n⟩ : Tk)]).length = t + 1 := by rw [List.length_append, htl]; rfl
                        have hlast : gk (T ++ [(⟨(q : Int), n⟩ : Tk)]) t = ⟨q, n⟩ := by subst htl; simp [gk]
                        obtain ⟨hd0, hd1⟩ := HO.out.cells (i := t) (by rw [hlen]; omega)
                        rw [hlast] at hd0 hd1
                        have HO' := Lib.hid HO.out.front
                        rw [hlen] at hcc ⊢
                        rw [htl] at hTl
                        clear htl hlen hlast HO
                        have hs1 : (((t + 1 : Nat) : Int) - 1).toNat = t := by omega
                        have hs1' : ((t : Int) + 1 - 1).toNat = t := by omega
                        go_wp2_with (at_builtin; have h1 := (HO'.out.keepB (alB wr (.cells #[.int .i64 (q : Int), .int .i64 (gt zs m)] 35)) (Nat.le_refl _)); have h2 := srcK_one (x := ⟨(q : Int), gt zs m⟩) (heap_alloc_new wr (.cells #[.int .i64 (q : Int), .int .i64 (gt zs m)] 35)); refine wl_appK _ (by rfl) _ _ (by rfl) w.heap.size g t cc T [⟨(q : Int), gt zs m⟩] (by rfl) h1 HTl.out ⟨wr.heap.size, 0, none⟩ 1 1 (by rfl) rfl h2 (t + 1) (by omega) (by omega) (by simp; omega) ?_; intro g' c' w3 hown3 hgr3 hat3; have H3 := Lib.hid (tkfar_app (x := ⟨(q : Int), gt zs m⟩) hbel hgr3 hgl.1 hown3); clear hown3 hgr3 hat3 h1 h2)
                        go_roundw
                        case rel => exact ⟨c + 1, by omega, by go_num, by rw [HY.out]; have := H3.out; rw [HTl.out] at this; exact this⟩
                        case measure => simp [intOf]; omega
                  · have hce : (gt ws m).toNat = c := by omega
                    have HY := Lib.hid (midP_end (zs := zs) (ws := ws) (p := q) (by rw [HZA.out]; exact hmk) hce)
                    clear hce
                    go_wp2
                    go_roundw
                    case rel => exact ⟨m, (m : Int) - 1, by omega, rfl, by go_num, by rw [← HY.out]; exact ⟨g, cc, rfl, HO.out, hbel⟩⟩
                    case measure => simp [intOf]
          · obtain rfl : q = 64 := by omega
            obtain ⟨g, cc, rfl, ho, hbel⟩ := HF.out
            have HO := Lib.hid ho
            clear ho
            go_wp2
            go_ret
            rw [HR.out]
            exact ⟨g, cc, rfl, HO.out, hbel⟩
end Go.Proofs.Ytidabcdaodlfeaa
