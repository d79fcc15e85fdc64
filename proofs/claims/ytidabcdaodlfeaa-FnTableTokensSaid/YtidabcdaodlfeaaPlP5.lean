/- The program: tokens in a map, the map's keys in order, the table. -/
import Derived.Test.YtidabcdaodlfeaaPlP2
import Derived.Test.YtidabcdaodlfeaaPlTM
import Derived.Test.YtidabcdaodlfeaaKeysLay
import Derived.Maps.OwnOps
import Derived.WalkKit
import Derived.WalkArith
namespace Go.Proofs.Ytidabcdaodlfeaa
open Go.RowKit Go.Maps Go.Sort Go.Shelf
set_option linter.unusedVariables false
attribute [local go_sem ↓] Go.wp_at_zero Go.wp_at_succ

theorem lawI : Keyed Try.prog 3 := int_keyed Try.underlying3
theorem zeroI (w : World) : (zeroValue 3).run Try.prog w = .ok (.int .i64 0) w := by kernel_rfl
/-- slices.Sort's two contracts at this program -/
theorem sortsK (m : Nat) : AnyZI.SortsIn Try.prog Try.sortedK_ren Fence.wide m :=
  ⟨fun blk off cap ss W hH hblk hsz => callsIn_wide.2 (AnyM.slices_Sort_int Try.sortK blk off cap ss W hH hblk hsz),
   fun p cap W => callsIn_wide.2 (AnyM.slices_Sort_int_none Try.sortK p cap W)⟩
theorem keys_any (mb : Option Nat) (W : World) :
    Calls Try.prog 57 #[.map mb] W fun e w' => e = .returned (.func (.func 75) #[] #[.pointer (some ⟨W.heap.size, 0, none⟩)]) ∧ w' = W.alloc (.cells #[.map mb] 63) :=
  callsIn_wide.1 (AnyZI.keys_in Try.keysK Fence.wide 5 trivial rfl mb W)
set_option maxHeartbeats 1000000 in
theorem sorted_any (b nn : Nat) (D0 : DataW Unit) (R : Value → Option (DataW Unit × List MemPlace)) (w : World) (hown : w.ownsMap Try.prog 3 R b nn D0) (hmax : Maps.size D0 ≤ 1000) :
    Calls Try.prog 56 #[.func (.func 75) #[] #[.pointer (some ⟨w.heap.size, 0, none⟩)]] (w.alloc (.cells #[.map (some b)] 63)) fun e w' =>
      ∃ (v : Value) (ss : List Int), e = .returned v ∧ ss.Perm (intKeys D0) ∧
      w'.ownsRow (w.alloc (.cells #[.map (some b)] 63)).heap.size 3 1 v ss.length ((ss.mergeSort (fun x y => decide (x ≤ y))).map encZ) ∧ (v = .slice none 0 0 ↔ ss = []) ∧ Below (w.alloc (.cells #[.map (some b)] 63)).heap.size (w.alloc (.cells #[.map (some b)] 63)) w' := by
  have hbl := hown.lt
  have hseq : SeqGives Fence.wide 2 Try.prog 75 #[.pointer (some ⟨w.heap.size, 0, none⟩)] encZ (fun ss => ss.Perm (intKeys D0)) (Maps.size D0) (w.alloc (.cells #[.map (some b)] 63)) :=
    AnyZI.keys_gives (ρ := Try.keysK_ren) { Try.keysK with } Fence.wide _ trivial rfl (by omega) w.heap.size b nn D0 _ (by simp) (by simp) (by
      obtain ⟨es, clock, hb, Ft, hs, hD⟩ := hown
      exact ⟨es, clock, (Below.heap_alloc _ _ b hbl).trans hb, Ft, hs, hD⟩)
  have cS := AnyZI.sorted_in Try.sortedK Fence.wide 5 trivial trivial trivial trivial rfl (by omega) (sortsK _) (enters_of Try.func74 (by kernel_rfl) rfl) 75 #[.pointer (some ⟨w.heap.size, 0, none⟩)] trivial (enters_of Try.func75 (by kernel_rfl) rfl) _ _ (show Maps.size D0 ≤ maxLen by unfold maxLen; omega) (by omega) _ hseq
  exact callsIn_wide.1 cS

/-- the map in block b reads, position by position, as f -/
def MapAt (w : World) (b n : Nat) (f : Int → Option Int) : Prop := ∃ D : DataW Unit, w.ownsMap Try.prog 3 (plainElem Try.prog 3) b n D ∧ MapIs D f
theorem MapAt.keepB {w w' : World} {b n B : Nat} {f : Int → Option Int} (h : MapAt w b n f) (hb : Below B w w') (hB : w.heap.size ≤ B) : MapAt w' b n f := by
  obtain ⟨D, hown, hf⟩ := h
  have hbl := hown.lt
  obtain ⟨es, clock, h1, Ft, hs, hD⟩ := hown
  exact ⟨D, ⟨es, clock, (hb.block b (by omega)).trans h1, Ft, hs, hD⟩, hf⟩
theorem MapAt.mono {w : World} {b n n' : Nat} {f : Int → Option Int} (h : MapAt w b n f) (hn : n ≤ n') : MapAt w b n' f := by
  obtain ⟨D, hown, hf⟩ := h; exact ⟨D, hown.mono hn, hf⟩
theorem MapAt.lt {w : World} {b n : Nat} {f : Int → Option Int} (h : MapAt w b n f) : b < w.heap.size := by obtain ⟨D, hown, _⟩ := h; exact hown.lt

set_option maxRecDepth 100000 in
set_option maxHeartbeats 2000000 in
theorem nodesAt_any (a b : Option Addr) (la lb ca cb : Nat) (zs ws : List Int) (w : World) (ha : IntsAt w a zs) (hb : IntsAt w b ws) (hza : zs.length = la) (hzb : ws.length = lb) (hv : plOk zs ws = true) :
    Calls Try.prog 55 #[.slice a la ca, .slice b lb cb] w fun e w' => e = .returned (.map (some w.heap.size)) ∧ MapAt w' w.heap.size (5 * zs.length) (fstP zs ws zs.length) ∧ Below w.heap.size w w' := by
  obtain ⟨hv1, hl, hw⟩ := (plOk_iff _ _).1 hv
  obtain rfl : lb = la := by omega
  have hlen := vld_len hv1
  rw [hza] at hlen
  have HA := Lib.hid ha
  have HB := Lib.hid hb
  have HZA := Lib.hid hza
  have HZB := Lib.hid hzb
  have HPT := Lib.hid (fun (m : Nat) (hm : m < zs.length) => asc_pt hv1 hm)
  have HWT := Lib.hid ((wsB_iff _).1 hw)
  have hmm := @run_makeMap Try.prog
  obtain ⟨i0, hi, hz0, hz1, hz2⟩ := info_parts Try.infoI
  clear ha hb hza hzb hv hv1 hl hw
  have HF0 : Hid (MapAt (w.alloc (.map #[] 0)) w.heap.size (5 * 0) (fstP zs ws 0)) := ⟨.map [], World.ownsMap_made _ _ _ _, mapIs_new⟩
  go_enter Try.func55, Try.ntmps55
  go_wp2
  go_loopw [15] (fun iv wr => ∃ i : Nat, i ≤ lb ∧ iv = .int .i64 i ∧ MapAt wr w.heap.size (5 * i) (fstP zs ws i) ∧ Below w.heap.size w wr) (fun iv _ => lb - (intOf iv).toNat)
  case atStart => exact ⟨0, by omega, rfl, HF0.out, alB w _⟩
  case round =>
    obtain ⟨i, hile, rfl, hmap, hbel⟩ := hrel
    have HM := Lib.hid hmap
    clear hmap HF0
    by_cases hlt : i < lb
    · obtain ⟨bb, off, rfl, hb0, hcells⟩ : ∃ bb off, a = some ⟨bb, off, none⟩ ∧ bb < wr.heap.size ∧ ∀ j, j < zs.length → wr.cell? ⟨bb, off + j, none⟩ = some (.int .i64 (gt zs j)) := by
        rcases HA.out.keepB hbel (Nat.le_refl _) with h0 | h0
        · have := HZA.out; rw [h0] at this; simp at this; omega
        · exact h0
      have hc1 := hcells i (by rw [HZA.out]; exact hlt)
      clear hcells
      obtain ⟨bc, offc, rfl, hb1, hcells⟩ : ∃ bb off, b = some ⟨bb, off, none⟩ ∧ bb < wr.heap.size ∧ ∀ j, j < ws.length → wr.cell? ⟨bb, off + j, none⟩ = some (.int .i64 (gt ws j)) := by
        rcases HB.out.keepB hbel (Nat.le_refl _) with h0 | h0
        · have := HZB.out; rw [h0] at this; simp at this; omega
        · exact h0
      have hc2 := hcells i (by rw [HZB.out]; exact hlt)
      clear hcells hb0 hb1
      have hpt := HPT.out i (by rw [HZA.out]; exact hlt)
      have hwt := HWT.out i (by rw [HZB.out]; exact hlt)
      obtain ⟨c, hc, hc3, hc4⟩ : ∃ c : Nat, gt ws i = (c : Int) ∧ 1 ≤ c ∧ c ≤ 5 := ⟨(gt ws i).toNat, by omega, by omega, by omega⟩
      have HE := Lib.hid (curF_end (zs := zs) (ws := ws) (i := i) (c := c) (by omega))
      have HT : Hid (tkR (gt zs i) c = tkL (gt zs i) c) := by show _ = _; rw [tkR_ok ((tkOk_iff _ _).2 ⟨hpt, by omega⟩)]; simp
      rw [hc] at hc2
      obtain ⟨nd, hnd⟩ : ∃ nd, nd = gt zs i := ⟨_, rfl⟩
      rw [← hnd] at hc1 HT hpt
      have HND := Lib.hid hnd
      have hws := hbel.size
      clear hnd hc hwt
      have i0' : (0 : Int) ≤ (i : Int) := by omega
      have i1' : (i : Int) < (lb : Int) := by omega
      go_wp2_with fail
      refine (ptoks0_any nd c wr).mono ?_
      rw [HT.out]
      rintro e w2 ⟨g, cc, rfl, hrow, hb2⟩
      have hgl := hrow.lt
      obtain ⟨B0, hB0⟩ : ∃ B0, B0 = wr.heap.size := ⟨_, rfl⟩
      rw [← hB0] at hrow hgl
      have HR := Lib.hid hrow
      have HM2 : Hid (MapAt w2 w.heap.size (5 * i) (curF zs ws i 0)) := by show MapAt _ _ _ _; rw [curF_zero]; exact HM.out.keepB hb2 (Nat.le_refl _)
      have hbel2 : Below w.heap.size w w2 := hbel.trans (hb2.mono hbel.size)
      have hmlt := HM.out.lt
      rw [← hB0] at hmlt
      clear hB0
      rw [tkL_len]
      clear hrow HM hc1 hc2
      go_wp2
      go_loopw [27] (fun kv wk => ∃ (k m : Nat), k ≤ c ∧ m ≤ 5 * i + k ∧ kv = .int .i64 k ∧ MapAt wk w.heap.size m (curF zs ws i k) ∧ OwnI wk B0 (some ⟨g, 0, none⟩) cc (tkL nd c) ∧ Below w.heap.size w wk) (fun kv _ => c - (intOf kv).toNat)
      case atStart => exact ⟨0, 5 * i, by omega, by omega, rfl, HM2.out, HR.out, hbel2⟩
      case round =>
        obtain ⟨k, m, hkc, hmk, rfl, hmap, hrow, hbk⟩ := hrel
        clear HM2 HR
        by_cases hkl : k < c
        · obtain ⟨g', he, _, _, hcells, _⟩ := hrow.at_ (by rw [tkL_len]; omega)
          injection he with he; injection he with he; subst he
          have hck := hcells k (by rw [tkL_len]; exact hkl)
          rw [tkL_gt _ hkl] at hck
          obtain ⟨q, hq⟩ : ∃ q, tok nd k = q := ⟨_, rfl⟩
          rw [hq] at hck
          have hq2 : tok (gt zs i) k = q := by rw [← HND.out]; exact hq
          have hqt := tok_pt nd k
          rw [hq] at hqt
          have hkey : keyOf Try.prog 3 (.int .i64 q) = some (.int .i64 q) := keyOf_int_mk Try.underlying3 (by go_wf)
          have HWN : Hid ((Lit.int .i64 nd).wf = true) := by show _ = true; go_wf
          obtain ⟨D, hown, his⟩ := hmap
          have hhas := his.has q
          have HIS := Lib.hid his
          have HROW := Lib.hid hrow
          have hbs := hbk.size
          have HQ := Lib.hid hq2
          clear hcells hq hq2 his hrow
          cases hcf : (curF zs ws i k q).isSome
          · have hnone : curF zs ws i k q = none := by cases h : curF zs ws i k q <;> simp_all
            have HS := Lib.hid (curF_yes HQ.out hnone)
            rw [hcf] at hhas
            clear hcf hnone
            go_wp2_with (first
              | (at_lookup; refine wpList_lookup_own_ok_int _ rfl _ _ 63 rfl 3 3 .i64 lawI Try.underlying63 Try.underlying3 (zeroI _) w.heap.size m _ rfl hown _ _ rfl hkey ?_; intro c0 hat hwc; rw [hhas])
              | (at_mapUpdate; refine wpList_mapUpdate_own _ rfl _ _ _ 63 rfl 3 3 lawI Try.underlying63 _ w.heap.size m _ rfl hown (by unfold maxLen; omega) _ _ _ rfl rfl hkey _ [] (plainElem_int Try.underlying3 HWN.out) ?_; intro w1 hown1 hgrow1)
              | go_in)
            go_roundw
            case rel =>
              refine ⟨k + 1, m + 1, by omega, by omega, by go_num, ?_, ?_, hbk.grown hgrow1 hbk.size (fun j hj => by injection hj with hj; omega)⟩
              · rw [HS.out]
                refine ⟨_, hown1, ?_⟩
                have := HIS.out.put q (gt zs i)
                rw [← HND.out] at this ⊢
                exact this
              · exact HROW.out.kept (fun g2 h1 h2 => hgrow1.block g2 h2 (fun e => by injection e with e; omega))
            case measure => simp [intOf]; omega
          · have HS := Lib.hid (curF_no HQ.out hcf)
            rw [hcf] at hhas
            clear hcf
            go_wp2_with (first
              | (at_lookup; refine wpList_lookup_own_ok_int _ rfl _ _ 63 rfl 3 3 .i64 lawI Try.underlying63 Try.underlying3 (zeroI _) w.heap.size m _ rfl hown _ _ rfl hkey ?_; intro c0 hat hwc; rw [hhas])
              | go_in)
            go_roundw
            case rel => exact ⟨k + 1, m, by omega, by omega, by go_num, by rw [HS.out]; exact ⟨D, hown, HIS.out⟩, HROW.out, hbk⟩
            case measure => simp [intOf]; omega
        · obtain rfl : k = c := by omega
          have HM3 : Hid (MapAt wr w.heap.size (5 * (i + 1)) (fstP zs ws (i + 1))) := by show MapAt _ _ _ _; rw [← HE.out]; exact hmap.mono (by omega)
          clear hmap hrow
          go_wp2
          go_roundw
          case rel => exact ⟨i + 1, by omega, by go_num, HM3.out, hbk⟩
          case measure => simp [intOf]; omega
    · obtain rfl : i = lb := by omega
      have HR : Hid (MapAt wr w.heap.size (5 * zs.length) (fstP zs ws zs.length)) := by show MapAt _ _ _ _; rw [HZA.out]; exact HM.out
      clear HM
      go_wp2
      go_ret
      exact ⟨rfl, HR.out, hbel⟩
end Go.Proofs.Ytidabcdaodlfeaa
