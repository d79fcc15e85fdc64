/- The walks of the laws of caches, on. -/
import Derived.Test.YtdlapnelehehgaaCaDraw
import Derived.Test.YtdlapnelehehgaaCaP3
import Derived.Test.YtdlapnelehehgaaLawsCa
namespace Go.Proofs.Ytdlapnelehehgaa
open Go.RowKit
set_option linter.unusedVariables false
attribute [local go_sem ↓] Go.wp_at_zero Go.wp_at_succ

set_option maxRecDepth 20000 in
set_option maxHeartbeats 4000000 in
theorem cacheOthers (s : Option Addr) (len cap : Nat) (z : List Int) (w : World) (h : RowIn .u8 w s len cap z) :
    Calls Try.prog 6 #[.slice s len cap] w fun e w' => e = .returned (.bool true) ∧ Below w.heap.size w w' := by
  have hb := bytes_of_row h
  have hm : len ≤ maxLen := Nat.le_trans hb.1 hb.2.1
  unfold maxLen at hm
  clear h
  by_cases hl : 1048576 < len
  · go_enter Try.func6, Try.ntmps6
    go_wp2
    go_ret
    exact ⟨rfl, Below.refl _ _⟩
  have HY := Lib.hid hb
  clear hb
  go_enter Try.func6, Try.ntmps6
  go_wp2_with fail
  refine (drawCachePut s len cap w HY.out).mono ?_
  rintro e w1 ⟨g, c, L, x, y, t, rfl, hl7, hx, hy, ht, ho, hb1⟩
  have HO1 := Lib.hid ho
  have HB1 := Lib.hid hb1
  have HM := Lib.hid (small_max hl7)
  have H7 := Lib.hid hl7
  obtain ⟨M, v, hR⟩ : ∃ M v, putR L x y t = (M, v) := ⟨_, _, rfl⟩
  have HR := Lib.hid hR
  have hM6 : M.length ≤ 6 := by have := putR_len L x y t; rw [hR] at this; exact this
  have HM6 := Lib.hid (show M.length ≤ 1048576 by omega)
  have HMM := Lib.hid (small_max (show M.length ≤ 7 by omega))
  have HOK : Hid (putOk L x y t = v) := by show _ = _; have := put_snd L x y t; rw [hR] at this; exact this.symm
  have HXX : Hid ((0 ≤ x ∧ x ≤ 69) ∧ (-1 ≤ y ∧ y ≤ 100) ∧ (25 ≤ t ∧ t ≤ 54)) := ⟨hx, hy, ht⟩
  clear ho hb1 hl7 hR hM6 hx hy
  cases v
  case false =>
    go_wp2_with fail
    refine (pput_as M false (some ⟨g, 0, none⟩) _ c L x y t w1 HO1.out.ls rfl HM.out HR.out).mono ?_
    rintro e w2 ⟨a2, c2, rfl, ho2, hb2⟩
    have HO2 := Lib.hid ho2
    have HL2 := Lib.hid (HO1.out.keepB hb2 (Nat.le_refl _))
    have HB2 := Lib.hid (HB1.out.trans (hb2.mono HB1.out.size))
    clear ho2 hb2
    go_wp2_with fail
    refine (sput_at M false (some ⟨g, 0, none⟩) _ c L x y t w2 HL2.out.ls rfl HM.out HR.out).mono ?_
    rintro e w3 ⟨g3, c3, rfl, ho3, hb3⟩
    have HO3 := Lib.hid (HO2.out.keepB hb3 (Nat.le_refl _))
    have HS3 := Lib.hid ho3
    have HL3 := Lib.hid (HL2.out.keepB hb3 (Nat.le_refl _))
    have HB3 := Lib.hid (HB2.out.trans (hb3.mono HB2.out.size))
    clear ho3 hb3
    go_wp2_with fail
    refine (sameLs_same a2 (some ⟨g3, 0, none⟩) _ c2 c3 M w3 HO3.out.ls HS3.out.ls rfl HM6.out).mono ?_
    rintro e w4 ⟨rfl, hs4⟩
    have HB4 := Lib.hid (HB3.out.trans ((hs4.below w3.heap.size).mono HB3.out.size))
    have HO4 := Lib.hid (HO3.out.keepB (hs4.below _) (Nat.le_refl _))
    have HS4 := Lib.hid (HS3.out.keepB (hs4.below _) (Nat.le_refl _))
    have HL4 := Lib.hid (HL3.out.keepB (hs4.below _) (Nat.le_refl _))
    clear hs4
    go_wp2_with fail
    refine (sameLs_same a2 (some ⟨g3, 0, none⟩) _ c2 c3 M w4 HO4.out.ls HS4.out.ls rfl HM6.out).mono ?_
    rintro e w5 ⟨rfl, hs5⟩
    have HB5 := Lib.hid (HB4.out.trans ((hs5.below w4.heap.size).mono HB4.out.size))
    clear hs5
    go_wp2
    go_ret
    exact ⟨rfl, HB5.out⟩
  case true =>
    have hML : M = putL L x y t := by have h1 := HR.out; rw [put_ok HOK.out] at h1; exact (congrArg Prod.fst h1).symm
    have HML := Lib.hid hML
    have HVM : Hid (lvB M = true) := by show _ = _; rw [hML]; exact put_lv HOK.out
    have HVL : Hid (lvB L = true) := ((putOk_iff _ _ _ _).1 HOK.out).1
    clear hML
    have hgd : Try.prog.eqGuardType Try.prog.depth 37 = false := by kernel_rfl
    have HLO : Hid (∀ i, i < L.length → (gl L i).e ≠ x → gl L i ∉ M → L.length = 6 ∧ i = oldL L) := fun i hi hk hn => put_lost HVL.out hi hk (by rw [← HML.out]; exact hn)
    go_wp2_with fail
    refine (pput_as M true (some ⟨g, 0, none⟩) _ c L x y t w1 HO1.out.ls rfl HM.out HR.out).mono ?_
    rintro e w2 ⟨a2, c2, rfl, ho2, hb2⟩
    have HO2 := Lib.hid ho2
    have HL2 := Lib.hid (HO1.out.keepB hb2 (Nat.le_refl _))
    have HB2 := Lib.hid (HB1.out.trans (hb2.mono HB1.out.size))
    clear ho2 hb2
    go_wp2_with fail
    refine (sput_at M true (some ⟨g, 0, none⟩) _ c L x y t w2 HL2.out.ls rfl HM.out HR.out).mono ?_
    rintro e w3 ⟨g3, c3, rfl, ho3, hb3⟩
    have HO3 := Lib.hid (HO2.out.keepB hb3 (Nat.le_refl _))
    have HS3 := Lib.hid ho3
    have HL3 := Lib.hid (HL2.out.keepB hb3 (Nat.le_refl _))
    have HB3 := Lib.hid (HB2.out.trans (hb3.mono HB2.out.size))
    clear ho3 hb3
    go_wp2_with fail
    refine (sameLs_same a2 (some ⟨g3, 0, none⟩) _ c2 c3 M w3 HO3.out.ls HS3.out.ls rfl HM6.out).mono ?_
    rintro e w4 ⟨rfl, hs4⟩
    have HB4 := Lib.hid (HB3.out.trans ((hs4.below w3.heap.size).mono HB3.out.size))
    have HO4 := Lib.hid (HO3.out.keepB (hs4.below _) (Nat.le_refl _))
    have HS4 := Lib.hid (HS3.out.keepB (hs4.below _) (Nat.le_refl _))
    have HL4 := Lib.hid (HL3.out.keepB (hs4.below _) (Nat.le_refl _))
    clear hs4
    have HLC : Hid (∀ w', Same w4 w' → ∀ i, i < L.length → LsCell w' g (i * 3) (gl L i)) := fun w' hs i hi => (HL4.out.keepB (hs.below _) (Nat.le_refl _)).cells hi
    have h70 := H7.out
    go_wp2
    go_loopw [11, 12, 13, 14, 15] (fun lo i _ _ _ wr => ∃ (k m : Nat), k ≤ L.length ∧ i = .int .i64 k ∧ lo = .int .i64 m ∧ Hid (m = 0 ∨ (m = 1 ∧ L.length = 6 ∧ oldL L < k)) ∧ Same w4 wr) (fun _ i _ _ _ _ => L.length - (intOf i).toNat)
    case atStart => exact ⟨0, 0, by omega, rfl, rfl, .inl rfl, Same.refl _⟩
    case round =>
      obtain ⟨k, m, hk, rfl, rfl, HJ, hs⟩ := hrel
      by_cases hlt : k < L.length
      · obtain ⟨hc0, hc1, hc2⟩ := HLC.out _ hs k hlt
        clear hc1 hc2
        have k0 : (0 : Int) ≤ (k : Int) := by omega
        have k1 : (k : Int) < (L.length : Int) := by omega
        obtain ⟨b0, hb0⟩ : ∃ b0, b0 = ((gl L k).e == x) := ⟨_, rfl⟩
        have HB0 : Hid (b0 = false → (gl L k).e ≠ x) := fun h => by rw [hb0] at h; simpa using h
        have hm1 : (m : Int) ≤ 1 := by have := HJ.out; omega
        have hM60 := HM6.out
        go_wp2
        rw [← hb0]
        clear hb0 hc0
        go_loopw [13, 14] (fun fo j w2 => ∃ (q : Nat) (b : Bool), q ≤ M.length ∧ j = .int .i64 q ∧ fo = .bool b ∧ Hid (b = false → (gl L k).e ≠ x ∧ ∀ p, p < q → gl M p ≠ gl L k) ∧ Same w4 w2) (fun _ j _ => M.length - (intOf j).toNat)
        case atStart => exact ⟨0, b0, by omega, rfl, rfl, fun h => ⟨HB0.out h, fun p hp => by omega⟩, hs⟩
        case round =>
          obtain ⟨q, b, hq, rfl, rfl, HQ, hs2⟩ := hrel
          by_cases hqM : q < M.length
          · obtain ⟨x0, x1, x2⟩ := HLC.out _ hs2 k hlt
            obtain ⟨bm, om, rfl, hbm, hcm⟩ := (HO4.out.keepB (hs2.below _) (Nat.le_refl _)).ls.at_ (i := q) hqM
            obtain ⟨y0, y1, y2⟩ := hcm q hqM
            clear hcm
            have q0 : (0 : Int) ≤ (q : Int) := by omega
            have q1 : (q : Int) < (M.length : Int) := by omega
            cases b
            case true =>
              go_wp2
              go_quiet (fail)
              go_wp2
              go_roundw
              case rel => exact ⟨q + 1, true, by omega, by go_num, rfl, Lib.hid (fun h => by cases h), hs2.drewN _⟩
              case measure => simp [intOf]; omega
            case false =>
              have HQ1 := Lib.hid (HQ.out rfl)
              cases c0 : ((gl M q).e == (gl L k).e)
              · have HN : Hid (gl M q ≠ gl L k) := fun h => by rw [h] at c0; simp at c0
                go_wp2
                go_quiet (fail)
                go_wp2
                go_roundw
                case rel => exact ⟨q + 1, false, by omega, by go_num, rfl, Lib.hid (fun _ => ⟨HQ1.out.1, fun p hp => by rcases Nat.lt_or_ge p q with h' | h'; exact HQ1.out.2 p h'; obtain rfl : p = q := (by omega); exact HN.out⟩), hs2.drewN _⟩
                case measure => simp [intOf]; omega
              cases c1 : ((gl M q).o == (gl L k).o)
              · have HN : Hid (gl M q ≠ gl L k) := fun h => by rw [h] at c1; simp at c1
                go_wp2
                go_quiet (fail)
                go_wp2
                go_roundw
                case rel => exact ⟨q + 1, false, by omega, by go_num, rfl, Lib.hid (fun _ => ⟨HQ1.out.1, fun p hp => by rcases Nat.lt_or_ge p q with h' | h'; exact HQ1.out.2 p h'; obtain rfl : p = q := (by omega); exact HN.out⟩), hs2.drewN _⟩
                case measure => simp [intOf]; omega
              cases c2 : ((gl M q).u == (gl L k).u)
              · have HN : Hid (gl M q ≠ gl L k) := fun h => by rw [h] at c2; simp at c2
                go_wp2
                go_quiet (fail)
                go_wp2
                go_roundw
                case rel => exact ⟨q + 1, false, by omega, by go_num, rfl, Lib.hid (fun _ => ⟨HQ1.out.1, fun p hp => by rcases Nat.lt_or_ge p q with h' | h'; exact HQ1.out.2 p h'; obtain rfl : p = q := (by omega); exact HN.out⟩), hs2.drewN _⟩
                case measure => simp [intOf]; omega
              · go_wp2
                go_quiet (fail)
                go_wp2
                go_roundw
                case rel => exact ⟨q + 1, true, by omega, by go_num, rfl, Lib.hid (fun h => by cases h), hs2.drewN _⟩
                case measure => simp [intOf]; omega
          · have hqq : q = M.length := by omega
            have HQQ := Lib.hid hqq
            clear hqq
            cases b
            case true =>
              have HJ2 : Hid (m = 0 ∨ (m = 1 ∧ L.length = 6 ∧ oldL L < k + 1)) := by show _ ∨ _; have := HJ.out; omega
              go_wp2
              go_roundw
              case rel => exact ⟨k + 1, m, by omega, by go_num, rfl, HJ2.out, hs2⟩
              case measure => simp [intOf]; omega
            case false =>
              have HLL : Hid (L.length = 6 ∧ k = oldL L) := by
                obtain ⟨h1, h2⟩ := HQ.out rfl
                refine HLO.out k hlt h1 fun hmem => ?_
                obtain ⟨p, hp, he⟩ := mem_gl hmem
                exact h2 p (by rw [HQQ.out]; exact hp) he
              have hm0 : m = 0 := by have h1 := HJ.out; have h2 := HLL.out; omega
              subst hm0
              have HMIN : Hid (∀ p, p < L.length → ¬ (gl L p).u < (gl L k).u) := fun p hp => by have := old_min L hp; rw [← HLL.out.2] at this; omega
              clear hm1
              go_wp2
              go_loopw [15] (fun j w3 => ∃ p : Nat, p ≤ L.length ∧ j = .int .i64 p ∧ Same w4 w3) (fun j _ => L.length - (intOf j).toNat)
              case atStart => exact ⟨0, by omega, rfl, hs2⟩
              case round =>
                obtain ⟨p, hp, rfl, hs3⟩ := hrel
                by_cases hpl : p < L.length
                · obtain ⟨x0, x1, x2⟩ := HLC.out _ hs3 k hlt
                  obtain ⟨y0, y1, y2⟩ := HLC.out _ hs3 p hpl
                  have hno := HMIN.out p hpl
                  have p0 : (0 : Int) ≤ (p : Int) := by omega
                  have p1 : (p : Int) < (L.length : Int) := by omega
                  clear x0 x1 y0 y1
                  go_wp2
                  go_quiet (fail)
                  go_wp2
                  go_roundw
                  case rel => exact ⟨p + 1, by omega, by go_num, hs3.drewN _⟩
                  case measure => simp [intOf]; omega
                · go_wp2
                  go_roundw
                  case rel => exact ⟨k + 1, 1, by omega, by go_num, by go_num, .inr ⟨rfl, HLL.out.1, by have := HLL.out.2; omega⟩, hs3⟩
                  case measure => simp [intOf]; omega
      · have hend := HB4.out.trans ((hs.below w4.heap.size).mono HB4.out.size)
        rcases HJ.out with h0 | ⟨h0, h6, _⟩
        · subst h0
          go_wp2
          go_ret
          exact ⟨rfl, hend⟩
        · subst h0
          have q0 : ((L.length : Int) == 6) = true := by rw [h6]; rfl
          clear h6
          go_wp2
          go_ret
          exact ⟨rfl, hend⟩

set_option maxHeartbeats 4000000 in
theorem cacheStale (s : Option Addr) (len cap : Nat) (z : List Int) (w : World) (h : RowIn .u8 w s len cap z) :
    Calls Try.prog 5 #[.slice s len cap] w fun e w' => e = .returned (.bool true) ∧ Below w.heap.size w w' := by
  have hb := bytes_of_row h
  have hm : len ≤ maxLen := Nat.le_trans hb.1 hb.2.1
  unfold maxLen at hm
  clear h
  by_cases hl : 1048576 < len
  · go_enter Try.func5, Try.ntmps5
    go_wp2
    go_ret
    exact ⟨rfl, Below.refl _ _⟩
  have HY := Lib.hid hb
  clear hb
  go_enter Try.func5, Try.ntmps5
  go_wp2_with fail
  refine (drawCacheGet s len cap w HY.out).mono ?_
  rintro e w1 ⟨g, c, L, x, t, rfl, hl7, hx, ht, ho, hb1⟩
  have HO1 := Lib.hid ho
  have HB1 := Lib.hid hb1
  have HM := Lib.hid (small_max hl7)
  have H7 := Lib.hid hl7
  obtain ⟨y, v, hR⟩ : ∃ y v, getR L x t = (y, v) := ⟨_, _, rfl⟩
  have HR := Lib.hid hR
  have q1 : (y != y) = false := by simp
  have q2 : (y == y) = true := by simp
  clear ho hb1 hl7 hR
  go_wp2_with fail
  refine (pget_as y v (some ⟨g, 0, none⟩) _ c L x t w1 HO1.out.ls rfl HM.out HR.out).mono ?_
  rintro e w2 ⟨rfl, hb2⟩
  have HO2 := Lib.hid (HO1.out.keepB hb2 (Nat.le_refl _))
  have HB2 := Lib.hid (HB1.out.trans (hb2.mono HB1.out.size))
  clear hb2
  go_wp2_with fail
  refine (sget_as y v (some ⟨g, 0, none⟩) _ c L x t w2 HO2.out.ls rfl HM.out HR.out).mono ?_
  rintro e w3 ⟨rfl, hb3⟩
  have HO3 := Lib.hid (HO2.out.keepB hb3 (Nat.le_refl _))
  have HB3 := Lib.hid (HB2.out.trans (hb3.mono HB2.out.size))
  clear hb3
  cases v
  case false =>
    go_wp2
    go_ret
    exact ⟨rfl, HB3.out⟩
  case true =>
    have hgs : (getR L x t).2 = true := by rw [HR.out]
    obtain ⟨hok, e, he, hh, hv⟩ := get_snd hgs
    have HE : Hid (e ∈ L ∧ e.e = x ∧ e.u ≤ t ∧ t ≤ e.u + 10 ∧ e.o = y ∧ lvB L = true) := by
      obtain ⟨h1, h2⟩ := (htB_iff _ _ _).1 hh
      obtain ⟨h3, h4⟩ := (frB_iff _ _).1 h2
      rw [HR.out] at hv
      exact ⟨he, h1, h3, h4, (congrArg Prod.fst hv).symm, ((getOk_iff _ _ _).1 hok).1⟩
    have h70 := H7.out
    clear hgs hok he hh hv
    go_wp2
    go_loop [10] (fun i => ∃ k : Nat, k ≤ L.length ∧ i = .int .i64 k ∧ Hid (∀ j, j < k → (gl L j).e ≠ x)) (fun i => L.length - (intOf i).toNat)
    case atStart => exact ⟨0, by omega, rfl, fun j hj => by omega⟩
    case round =>
      obtain ⟨k, hk, rfl, HN⟩ := hrel
      by_cases hlt : k < L.length
      · obtain ⟨hc0, hc1, hc2⟩ := HO3.out.cells hlt
        have k0 : (0 : Int) ≤ (k : Int) := by omega
        have k1 : (k : Int) < (L.length : Int) := by omega
        cases hc : ((gl L k).e == x)
        · have HX : Hid ((gl L k).e ≠ x) := by show _ ≠ _; simpa using hc
          go_wp2
          go_round
          case rel => exact ⟨k + 1, by omega, by go_num, fun j hj => by rcases Nat.lt_or_ge j k with h' | h'; exact HN.out j h'; obtain rfl : j = k := (by omega); exact HX.out⟩
          case measure => simp [intOf]; omega
        · have hx' : (gl L k).e = x := by simpa using hc
          have heq : gl L k = e := ord_eq (lv_ord HE.out.2.2.2.2.2) (gl_mem hlt) HE.out.1 (by rw [hx', HE.out.2.1])
          have hu := lv_u HE.out.2.2.2.2.2 hlt
          have hu1 : (gl L k).u ≤ t := by rw [heq]; exact HE.out.2.2.1
          have hu2 : t ≤ (gl L k).u + 10 := by rw [heq]; exact HE.out.2.2.2.1
          have ho1 : ((gl L k).o == y) = true := by rw [heq, HE.out.2.2.2.2.1]; simp
          clear heq hx'
          go_wp2
          go_ret
          exact ⟨rfl, HB3.out⟩
      · exfalso
        obtain ⟨i, hi, he⟩ := mem_gl HE.out.1
        exact HN.out i (by omega) (by rw [he]; exact HE.out.2.1)

set_option maxHeartbeats 4000000 in
theorem cacheDrop (s : Option Addr) (len cap : Nat) (z : List Int) (s2 : Option Addr) (len2 cap2 : Nat) (z2 : List Int) (w : World) (h : RowIn .u8 w s len cap z) (h2 : RowIn .u8 w s2 len2 cap2 z2) :
    Calls Try.prog 10 #[.slice s len cap, .slice s2 len2 cap2] w fun e w' => e = .returned (.bool true) ∧ Below w.heap.size w w' := by
  have hb := bytes_of_row h
  have hb2 := bytes_of_row h2
  have hm : len ≤ maxLen := Nat.le_trans hb.1 hb.2.1
  have hm2 : len2 ≤ maxLen := Nat.le_trans hb2.1 hb2.2.1
  unfold maxLen at hm hm2
  clear h h2 hb2
  by_cases hl : 1048576 < len
  · go_enter Try.func10, Try.ntmps10
    go_wp2
    go_ret
    exact ⟨rfl, Below.refl _ _⟩
  by_cases hl2 : 1048576 < len2
  · go_enter Try.func10, Try.ntmps10
    go_wp2
    go_ret
    exact ⟨rfl, Below.refl _ _⟩
  have hlB : decide ((1048576 : Int) < (len : Int)) = false := by simp; omega
  have hlB2 : decide ((1048576 : Int) < (len2 : Int)) = false := by simp; omega
  have HY := Lib.hid hb
  clear hb
  go_enter Try.func10, Try.ntmps10
  go_wp2_with fail
  refine (drawCacheDrop s len cap w HY.out).mono ?_
  rintro e w1 ⟨g, c, L, x, rfl, hl7, hx, ho, hb1⟩
  have HO1 := Lib.hid ho
  have HB1 := Lib.hid hb1
  have HM := Lib.hid (small_max hl7)
  have H7 := Lib.hid hl7
  obtain ⟨M, v, hR⟩ : ∃ M v, dropR L x = (M, v) := ⟨_, _, rfl⟩
  have HR := Lib.hid hR
  have hM6 : M.length ≤ 6 := by have := dropR_len L x; rw [hR] at this; exact this
  have HM6 := Lib.hid (show M.length ≤ 1048576 by omega)
  have HMM := Lib.hid (small_max (show M.length ≤ 7 by omega))
  clear ho hb1 hl7 hR hM6
  cases v
  case false =>
    go_wp2_with fail
    refine (pdrop_as M false (some ⟨g, 0, none⟩) _ c L x w1 HO1.out.ls rfl HM.out HR.out).mono ?_
    rintro e w2 ⟨a2, c2, rfl, ho2, hb2⟩
    have HO2 := Lib.hid ho2
    have HL2 := Lib.hid (HO1.out.keepB hb2 (Nat.le_refl _))
    have HB2 := Lib.hid (HB1.out.trans (hb2.mono HB1.out.size))
    clear ho2 hb2
    go_wp2_with fail
    refine (sdrop_at M false (some ⟨g, 0, none⟩) _ c L x w2 HL2.out.ls rfl HM.out HR.out).mono ?_
    rintro e w3 ⟨g3, c3, rfl, ho3, hb3⟩
    have HO3 := Lib.hid (HO2.out.keepB hb3 (Nat.le_refl _))
    have HS3 := Lib.hid ho3
    have HB3 := Lib.hid (HB2.out.trans (hb3.mono HB2.out.size))
    clear ho3 hb3
    go_wp2_with fail
    refine (sameLs_same a2 (some ⟨g3, 0, none⟩) _ c2 c3 M w3 HO3.out.ls HS3.out.ls rfl HM6.out).mono ?_
    rintro e w4 ⟨rfl, hs4⟩
    have HB4 := Lib.hid (HB3.out.trans ((hs4.below w3.heap.size).mono HB3.out.size))
    have HO4 := Lib.hid (HO3.out.keepB (hs4.below _) (Nat.le_refl _))
    have HS4 := Lib.hid (HS3.out.keepB (hs4.below _) (Nat.le_refl _))
    clear hs4
    go_wp2_with fail
    refine (sameLs_same a2 (some ⟨g3, 0, none⟩) _ c2 c3 M w4 HO4.out.ls HS4.out.ls rfl HM6.out).mono ?_
    rintro e w5 ⟨rfl, hs5⟩
    have HB5 := Lib.hid (HB4.out.trans ((hs5.below w4.heap.size).mono HB4.out.size))
    clear hs5
    go_wp2
    go_ret
    exact ⟨rfl, HB5.out⟩
  case true =>
    obtain ⟨j, hj, hj0, hj1⟩ := rem_len len2 60 (by omega)
    have hj60 : ¬ (60 : Int) = 0 := by omega
    have hdk : dropOk L x = true := by
      cases hk : dropOk L x
      · have := HR.out; rw [dropR_bad hk] at this; cases this
      · rfl
    have HDK := Lib.hid hdk
    have hMD : M = dropL L x := by have h1 := HR.out; rw [dropR_ok hdk] at h1; exact (congrArg Prod.fst h1).symm
    have hlt : (dropL L x).length < L.length := by have h1 := HR.out; rw [dropR_ok hdk] at h1; exact of_decide_eq_true (congrArg Prod.snd h1)
    have HG : Hid (getR M x j = (0, false)) := get_no fun e he => by
      rw [hMD] at he
      have := ((mem_drop _ _ _).1 he).2
      simp [htB, this]
    have HD2 : Hid (dropR M x = (M, false)) := by
      show _ = _
      have hok2 : dropOk M x = true := (dropOk_iff _ _).2 ⟨by rw [hMD]; exact drop_lv ((dropOk_iff _ _).1 hdk).1 x, ((dropOk_iff _ _).1 hdk).2⟩
      rw [dropR_ok hok2, hMD, drop_again]
      simp
    have hll : M.length + 1 = L.length := by
      rw [hMD]
      rcases drop_len (key := x) ((dropOk_iff _ _).1 hdk).1 with ⟨_, _, h3⟩ | ⟨h1, _⟩
      · exact h3
      · rw [h1] at hlt; omega
    have q1 : ((M.length : Int) == (L.length : Int) - 1) = true := by rw [beq_iff_eq]; omega
    have h70 := H7.out
    clear hdk hMD hlt hll
    go_wp2_with fail
    refine (pdrop_as M true (some ⟨g, 0, none⟩) _ c L x w1 HO1.out.ls rfl HM.out HR.out).mono ?_
    rintro e w2 ⟨a2, c2, rfl, ho2, hb2⟩
    have HO2 := Lib.hid ho2
    have HL2 := Lib.hid (HO1.out.keepB hb2 (Nat.le_refl _))
    have HB2 := Lib.hid (HB1.out.trans (hb2.mono HB1.out.size))
    clear ho2 hb2
    go_wp2_with fail
    refine (sdrop_at M true (some ⟨g, 0, none⟩) _ c L x w2 HL2.out.ls rfl HM.out HR.out).mono ?_
    rintro e w3 ⟨g3, c3, rfl, ho3, hb3⟩
    have HO3 := Lib.hid (HO2.out.keepB hb3 (Nat.le_refl _))
    have HS3 := Lib.hid ho3
    have HB3 := Lib.hid (HB2.out.trans (hb3.mono HB2.out.size))
    clear ho3 hb3
    go_wp2_with fail
    refine (sameLs_same a2 (some ⟨g3, 0, none⟩) _ c2 c3 M w3 HO3.out.ls HS3.out.ls rfl HM6.out).mono ?_
    rintro e w4 ⟨rfl, hs4⟩
    have HB4 := Lib.hid (HB3.out.trans ((hs4.below w3.heap.size).mono HB3.out.size))
    have HO4 := Lib.hid (HO3.out.keepB (hs4.below _) (Nat.le_refl _))
    have HS4 := Lib.hid (HS3.out.keepB (hs4.below _) (Nat.le_refl _))
    clear hs4
    go_wp2_with fail
    refine (pget_as 0 false a2 _ c2 M x j w4 HO4.out.ls rfl HMM.out HG.out).mono ?_
    rintro e w5 ⟨rfl, hb5⟩
    have HB5 := Lib.hid (HB4.out.trans (hb5.mono HB4.out.size))
    have HO5 := Lib.hid (HO4.out.keepB hb5 (Nat.le_refl _))
    clear hb5
    go_wp2_with fail
    refine (pdrop_as M false a2 _ c2 M x w5 HO5.out.ls rfl HMM.out HD2.out).mono ?_
    rintro e w6 ⟨a6, c6, rfl, ho6, hb6⟩
    have HB6 := Lib.hid (HB5.out.trans (hb6.mono HB5.out.size))
    have HO6 := Lib.hid (HO5.out.keepB hb6 (Nat.le_refl _))
    have HX6 := Lib.hid ho6
    clear ho6 hb6
    go_wp2_with fail
    refine (sameLs_same a6 a2 _ c6 c2 M w6 HX6.out.ls HO6.out.ls rfl HM6.out).mono ?_
    rintro e w7 ⟨rfl, hs7⟩
    have HB7 := Lib.hid (HB6.out.trans ((hs7.below w6.heap.size).mono HB6.out.size))
    clear hs7
    go_wp2
    go_ret
    exact ⟨rfl, HB7.out⟩

theorem psweep_as (M : List Ls) (a : Option Addr) (len cap : Nat) (L : List Ls) (now : Int) (w : World) (h : LsAt w a L) (hz : L.length = len) (hm : len ≤ maxLen) (hR : swR L now = M) :
    Calls Try.prog 27 #[.slice a len cap, .int .i64 now] w fun e w' => ∃ a' c, e = .returned (.slice a' M.length c) ∧ OwnL w' w.heap.size a' c M ∧ Below w.heap.size w w' := by
  subst hR; exact psweep_any a len cap L now w h hz hm
theorem ssweep_as (M : List Ls) (a : Option Addr) (len cap : Nat) (L : List Ls) (now : Int) (w : World) (h : LsAt w a L) (hz : L.length = len) (hm : len ≤ maxLen) (hR : swR L now = M) :
    Calls Try.prog 28 #[.slice a len cap, .int .i64 now] w fun e w' => ∃ g c, e = .returned (.slice (some ⟨g, 0, none⟩) M.length c) ∧ OwnS w' w.heap.size g c M ∧ Below w.heap.size w w' := by
  subst hR; exact ssweep_any a len cap L now w h hz hm

set_option maxHeartbeats 4000000 in
theorem cacheSweep (s : Option Addr) (len cap : Nat) (z : List Int) (w : World) (h : RowIn .u8 w s len cap z) :
    Calls Try.prog 11 #[.slice s len cap] w fun e w' => e = .returned (.bool true) ∧ Below w.heap.size w w' := by
  have hb := bytes_of_row h
  have hm : len ≤ maxLen := Nat.le_trans hb.1 hb.2.1
  unfold maxLen at hm
  clear h
  by_cases hl : 1048576 < len
  · go_enter Try.func11, Try.ntmps11
    go_wp2
    go_ret
    exact ⟨rfl, Below.refl _ _⟩
  have HY := Lib.hid hb
  clear hb
  go_enter Try.func11, Try.ntmps11
  go_wp2_with fail
  refine (drawCacheSweep s len cap w HY.out).mono ?_
  rintro e w1 ⟨g, c, L, t, rfl, hl7, ht, ho, hb1⟩
  have HO1 := Lib.hid ho
  have HB1 := Lib.hid hb1
  have HM := Lib.hid (small_max hl7)
  have H7 := Lib.hid hl7
  obtain ⟨M, hR⟩ : ∃ M, swR L t = M := ⟨_, rfl⟩
  have HR := Lib.hid hR
  have hM6 : M.length ≤ 6 := by have := swR_len L t; rw [hR] at this; exact this
  have HM6 := Lib.hid (show M.length ≤ 1048576 by omega)
  have HMM := Lib.hid (small_max (show M.length ≤ 7 by omega))
  clear ho hb1 hl7 hR
  go_wp2_with fail
  refine (psweep_as M (some ⟨g, 0, none⟩) _ c L t w1 HO1.out.ls rfl HM.out HR.out).mono ?_
  rintro e w2 ⟨a2, c2, rfl, ho2, hb2⟩
  have HO2 := Lib.hid ho2
  have HL2 := Lib.hid (HO1.out.keepB hb2 (Nat.le_refl _))
  have HB2 := Lib.hid (HB1.out.trans (hb2.mono HB1.out.size))
  clear ho2 hb2
  go_wp2_with fail
  refine (ssweep_as M (some ⟨g, 0, none⟩) _ c L t w2 HL2.out.ls rfl HM.out HR.out).mono ?_
  rintro e w3 ⟨g3, c3, rfl, ho3, hb3⟩
  have HO3 := Lib.hid (HO2.out.keepB hb3 (Nat.le_refl _))
  have HS3 := Lib.hid ho3
  have HL3 := Lib.hid (HL2.out.keepB hb3 (Nat.le_refl _))
  have HB3 := Lib.hid (HB2.out.trans (hb3.mono HB2.out.size))
  clear ho3 hb3
  go_wp2_with fail
  refine (sameLs_same a2 (some ⟨g3, 0, none⟩) _ c2 c3 M w3 HO3.out.ls HS3.out.ls rfl HM6.out).mono ?_
  rintro e w4 ⟨rfl, hs4⟩
  have HB4 := Lib.hid (HB3.out.trans ((hs4.below w3.heap.size).mono HB3.out.size))
  have HO4 := Lib.hid (HO3.out.keepB (hs4.below _) (Nat.le_refl _))
  have HS4 := Lib.hid (HS3.out.keepB (hs4.below _) (Nat.le_refl _))
  have HL4 := Lib.hid (HL3.out.keepB (hs4.below _) (Nat.le_refl _))
  clear hs4
  cases hv : lvB L
  · have HV := Lib.hid hv
    clear hv
    go_wp2_with fail
    refine (slvs_as false (some ⟨g, 0, none⟩) _ c L w4 HL4.out.ls rfl HM.out HV.out).mono ?_
    rintro e w5 ⟨rfl, hs5⟩
    have HB5 := Lib.hid (HB4.out.trans ((hs5.below w4.heap.size).mono HB4.out.size))
    have HO5 := Lib.hid (HO4.out.keepB (hs5.below _) (Nat.le_refl _))
    have HS5 := Lib.hid (HS4.out.keepB (hs5.below _) (Nat.le_refl _))
    clear hs5
    go_wp2_with fail
    refine (sameLs_same a2 (some ⟨g3, 0, none⟩) _ c2 c3 M w5 HO5.out.ls HS5.out.ls rfl HM6.out).mono ?_
    rintro e w6 ⟨rfl, hs6⟩
    have HB6 := Lib.hid (HB5.out.trans ((hs6.below w5.heap.size).mono HB5.out.size))
    clear hs6
    go_wp2
    go_ret
    exact ⟨rfl, HB6.out⟩
  have HV := Lib.hid hv
  have HSK : Hid (swOk L t = true) := (swOk_iff _ _).2 ⟨hv, by omega⟩
  have HMS : Hid (M = swL L t) := by show _ = _; rw [← HR.out, sw_ok HSK.out]
  have HVM : Hid (lvB M = true) := by show _ = _; rw [HMS.out]; exact sw_lv hv t
  clear hv
  go_wp2_with fail
  refine (slvs_as true (some ⟨g, 0, none⟩) _ c L w4 HL4.out.ls rfl HM.out HV.out).mono ?_
  rintro e w5 ⟨rfl, hs5⟩
  have HB5 := Lib.hid (HB4.out.trans ((hs5.below w4.heap.size).mono HB4.out.size))
  have HO5 := Lib.hid (HO4.out.keepB (hs5.below _) (Nat.le_refl _))
  have HL5 := Lib.hid (HL4.out.keepB (hs5.below _) (Nat.le_refl _))
  clear hs5
  have h70 := H7.out
  have HKP : Hid (∀ i, i < L.length → (∃ D, dropR M (gl L i).e = (D, frB (gl L i) t)) ∧ ∃ y, getR L (gl L i).e t = (y, frB (gl L i) t)) := fun i hi => by
    obtain ⟨h1, h2⟩ := sw_kept HSK.out hi
    rw [← HMS.out] at h1
    exact ⟨⟨_, Prod.ext rfl h1⟩, ⟨_, Prod.ext rfl h2⟩⟩
  have HFA : Hid (frN L t L.length = M.length) := by show _ = _; rw [frN_all, HMS.out]
  go_wp2
  go_loopw [7, 8] (fun n i wr => ∃ k : Nat, k ≤ L.length ∧ i = .int .i64 k ∧ n = .int .i64 (frN L t k : Nat) ∧ Below w5.heap.size w5 wr) (fun _ i _ => L.length - (intOf i).toNat)
  case atStart => exact ⟨0, by omega, rfl, rfl, Below.refl _ _⟩
  case round =>
    obtain ⟨k, hk, rfl, rfl, hbr⟩ := hrel
    by_cases hlt : k < L.length
    · have HLr := Lib.hid (HL5.out.keepB hbr (Nat.le_refl _))
      have HOr := Lib.hid (HO5.out.keepB hbr (Nat.le_refl _))
      obtain ⟨hc0, hc1, hc2⟩ := HLr.out.cells hlt
      have hgl := HLr.out.blk.2.1
      have k0 : (0 : Int) ≤ (k : Int) := by omega
      have k1 : (k : Int) < (L.length : Int) := by omega
      obtain ⟨⟨D, hD⟩, y, hy⟩ := HKP.out k hlt
      have HFS := Lib.hid (frN_s (now := t) hlt)
      have hfle := frN_le L t k
      obtain ⟨m, hm⟩ : ∃ m, m = frN L t k := ⟨_, rfl⟩
      rw [← hm] at HFS hfle ⊢
      obtain ⟨b, hbb⟩ : ∃ b, b = frB (gl L k) t := ⟨_, rfl⟩
      rw [← hbb] at hD hy HFS
      have HD := Lib.hid hD
      have HG := Lib.hid hy
      clear hD hy hm hbb hc1 hc2
      go_wp2_with fail
      refine (pget_as y b (some ⟨g, 0, none⟩) _ c L (gl L k).e t wr HLr.out.ls rfl HM.out HG.out).mono ?_
      rintro e w6 ⟨rfl, hb6⟩
      have hc0 := (hb6.cell (p := ⟨g, k * 3, none⟩) hgl).trans hc0
      have HO6 := Lib.hid (HOr.out.keepB hb6 (Nat.le_refl _))
      have HB6 := Lib.hid (hbr.trans (hb6.mono hbr.size))
      clear hb6
      go_wp2_with fail
      refine (pdrop_as D b a2 _ c2 M (gl L k).e w6 HO6.out.ls rfl HMM.out HD.out).mono ?_
      rintro e w7 ⟨a7, c7, rfl, ho7, hb7⟩
      have HB7 := Lib.hid (HB6.out.trans (hb7.mono HB6.out.size))
      clear hb7 ho7 hc0
      cases b
      case false =>
        go_wp2
        go_roundw
        case rel => exact ⟨k + 1, by omega, by go_num, by rw [HFS.out]; rfl, HB7.out⟩
        case measure => simp [intOf]; omega
      case true =>
        go_wp2
        go_roundw
        case rel => exact ⟨k + 1, by omega, by go_num, by rw [HFS.out]; go_num, HB7.out⟩
        case measure => simp [intOf]; omega
    · have hkl : k = L.length := by omega
      have q0 : ((frN L t k : Nat) : Int) = (M.length : Int) := by rw [hkl, HFA.out]
      rw [q0]
      have q1 : ((M.length : Int) == (M.length : Int)) = true := by simp
      clear q0
      go_wp2
      go_ret
      exact ⟨rfl, HB5.out.trans (hbr.mono HB5.out.size)⟩

set_option maxHeartbeats 4000000 in
theorem cacheSweepGet (s : Option Addr) (len cap : Nat) (z : List Int) (s2 : Option Addr) (len2 cap2 : Nat) (z2 : List Int) (w : World) (h : RowIn .u8 w s len cap z) (h2 : RowIn .u8 w s2 len2 cap2 z2) :
    Calls Try.prog 12 #[.slice s len cap, .slice s2 len2 cap2] w fun e w' => e = .returned (.bool true) ∧ Below w.heap.size w w' := by
  have hb := bytes_of_row h
  have hb2 := bytes_of_row h2
  have hm : len ≤ maxLen := Nat.le_trans hb.1 hb.2.1
  have hm2 : len2 ≤ maxLen := Nat.le_trans hb2.1 hb2.2.1
  unfold maxLen at hm hm2
  clear h h2 hb2
  by_cases hl : 1048576 < len
  · go_enter Try.func12, Try.ntmps12
    go_wp2
    go_ret
    exact ⟨rfl, Below.refl _ _⟩
  by_cases hl2 : 1048576 < len2
  · go_enter Try.func12, Try.ntmps12
    go_wp2
    go_ret
    exact ⟨rfl, Below.refl _ _⟩
  have hlB : decide ((1048576 : Int) < (len : Int)) = false := by simp; omega
  have hlB2 : decide ((1048576 : Int) < (len2 : Int)) = false := by simp; omega
  have HY := Lib.hid hb
  clear hb
  go_enter Try.func12, Try.ntmps12
  go_wp2_with fail
  refine (drawCacheSweep s len cap w HY.out).mono ?_
  rintro e w1 ⟨g, c, L, t, rfl, hl7, ht, ho, hb1⟩
  have HO1 := Lib.hid ho
  have HB1 := Lib.hid hb1
  have HM := Lib.hid (small_max hl7)
  have H7 := Lib.hid hl7
  obtain ⟨M, hR⟩ : ∃ M, swR L t = M := ⟨_, rfl⟩
  have HR := Lib.hid hR
  have hM6 : M.length ≤ 6 := by have := swR_len L t; rw [hR] at this; exact this
  have HM6 := Lib.hid (show M.length ≤ 1048576 by omega)
  have HMM := Lib.hid (small_max (show M.length ≤ 7 by omega))
  clear ho hb1 hl7 hR
  go_wp2_with fail
  refine (psweep_as M (some ⟨g, 0, none⟩) _ c L t w1 HO1.out.ls rfl HM.out HR.out).mono ?_
  rintro e w2 ⟨a2, c2, rfl, ho2, hb2⟩
  have HO2 := Lib.hid ho2
  have HL2 := Lib.hid (HO1.out.keepB hb2 (Nat.le_refl _))
  have HB2 := Lib.hid (HB1.out.trans (hb2.mono HB1.out.size))
  clear ho2 hb2
  go_wp2_with fail
  refine (ssweep_as M (some ⟨g, 0, none⟩) _ c L t w2 HL2.out.ls rfl HM.out HR.out).mono ?_
  rintro e w3 ⟨g3, c3, rfl, ho3, hb3⟩
  have HO3 := Lib.hid (HO2.out.keepB hb3 (Nat.le_refl _))
  have HS3 := Lib.hid ho3
  have HL3 := Lib.hid (HL2.out.keepB hb3 (Nat.le_refl _))
  have HB3 := Lib.hid (HB2.out.trans (hb3.mono HB2.out.size))
  clear ho3 hb3
  go_wp2_with fail
  refine (sameLs_same a2 (some ⟨g3, 0, none⟩) _ c2 c3 M w3 HO3.out.ls HS3.out.ls rfl HM6.out).mono ?_
  rintro e w4 ⟨rfl, hs4⟩
  have HB4 := Lib.hid (HB3.out.trans ((hs4.below w3.heap.size).mono HB3.out.size))
  have HO4 := Lib.hid (HO3.out.keepB (hs4.below _) (Nat.le_refl _))
  have HS4 := Lib.hid (HS3.out.keepB (hs4.below _) (Nat.le_refl _))
  have HL4 := Lib.hid (HL3.out.keepB (hs4.below _) (Nat.le_refl _))
  clear hs4
  cases hv : lvB L
  · have HV := Lib.hid hv
    clear hv
    go_wp2_with fail
    refine (slvs_as false (some ⟨g, 0, none⟩) _ c L w4 HL4.out.ls rfl HM.out HV.out).mono ?_
    rintro e w5 ⟨rfl, hs5⟩
    have HB5 := Lib.hid (HB4.out.trans ((hs5.below w4.heap.size).mono HB4.out.size))
    have HO5 := Lib.hid (HO4.out.keepB (hs5.below _) (Nat.le_refl _))
    have HS5 := Lib.hid (HS4.out.keepB (hs5.below _) (Nat.le_refl _))
    clear hs5
    go_wp2_with fail
    refine (sameLs_same a2 (some ⟨g3, 0, none⟩) _ c2 c3 M w5 HO5.out.ls HS5.out.ls rfl HM6.out).mono ?_
    rintro e w6 ⟨rfl, hs6⟩
    have HB6 := Lib.hid (HB5.out.trans ((hs6.below w5.heap.size).mono HB5.out.size))
    clear hs6
    go_wp2
    go_ret
    exact ⟨rfl, HB6.out⟩
  have HV := Lib.hid hv
  have HSK : Hid (swOk L t = true) := (swOk_iff _ _).2 ⟨hv, by omega⟩
  have HMS : Hid (M = swL L t) := by show _ = _; rw [← HR.out, sw_ok HSK.out]
  have HVM : Hid (lvB M = true) := by show _ = _; rw [HMS.out]; exact sw_lv hv t
  clear hv
  go_wp2_with fail
  refine (slvs_as true (some ⟨g, 0, none⟩) _ c L w4 HL4.out.ls rfl HM.out HV.out).mono ?_
  rintro e w5 ⟨rfl, hs5⟩
  have HB5 := Lib.hid (HB4.out.trans ((hs5.below w4.heap.size).mono HB4.out.size))
  have HO5 := Lib.hid (HO4.out.keepB (hs5.below _) (Nat.le_refl _))
  have HL5 := Lib.hid (HL4.out.keepB (hs5.below _) (Nat.le_refl _))
  clear hs5
  obtain ⟨j, hj, hj0, hj1⟩ := rem_len len2 12 (by omega)
  have hj12 : ¬ (12 : Int) = 0 := by omega
  obtain ⟨y, v, hG⟩ : ∃ y v, getR L j t = (y, v) := ⟨_, _, rfl⟩
  have HG := Lib.hid hG
  have HG2 : Hid (getR M j t = (y, v)) := by show _ = _; rw [HMS.out, sw_get HSK.out j]; exact hG
  have q1 : (y == y) = true := by simp
  have q2 : (v == v) = true := by simp
  clear hG
  go_wp2_with fail
  refine (pget_as y v (some ⟨g, 0, none⟩) _ c L j t w5 HL5.out.ls rfl HM.out HG.out).mono ?_
  rintro e w6 ⟨rfl, hb6⟩
  have HB6 := Lib.hid (HB5.out.trans (hb6.mono HB5.out.size))
  have HO6 := Lib.hid (HO5.out.keepB hb6 (Nat.le_refl _))
  clear hb6
  go_wp2_with fail
  refine (pget_as y v a2 _ c2 M j t w6 HO6.out.ls rfl HMM.out HG2.out).mono ?_
  rintro e w7 ⟨rfl, hb7⟩
  have HB7 := Lib.hid (HB6.out.trans (hb7.mono HB6.out.size))
  clear hb7
  go_wp2
  go_ret
  exact ⟨rfl, HB7.out⟩
end Go.Proofs.Ytdlapnelehehgaa
