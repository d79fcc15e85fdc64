/- Transfers: drawing a transfer and a number. -/
import Derived.Test.YtmjloobakahdgaaTfDraw4
namespace Go.Proofs.Ytmjloobakahdgaa
open Go.RowKit
set_option linter.unusedVariables false

attribute [local go_sem ↓] Go.wp_at_zero Go.wp_at_succ

theorem run_max2z {P : Program} (ts : Array TypeId) (t : TypeId) (k k' : IntKind) (x y : Int) (w : World) : (Builtin.max_ ts t #[.int k x, .int k' y]).run P w = .ok (.int k (max x y)) w := by
  simp [Builtin.max_, Builtin.max2]; omega
attribute [local go_sem ↓] run_max2z

/-- a transfer and a number that a law drew -/
def DrewTfN (w : World) (e : Ending) (w' : World) : Prop :=
  ∃ (a : Option Addr) (cap : Nat) (t : Tf) (n : Int), e = .returned (.tuple #[.agg #[.slice a t.items.length cap, .int .i64 t.nxt, .int .i64 t.ack], .int .i64 n]) ∧ IntsFrom w' w.heap.size a t.items ∧ t.items.length ≤ 21 ∧ t.items.length ≤ cap ∧ (-2 ≤ t.nxt ∧ t.nxt ≤ 23) ∧ (-2 ≤ t.ack ∧ t.ack ≤ 23) ∧ (-1 ≤ n ∧ n ≤ 26) ∧ Below w.heap.size w w'

set_option maxHeartbeats 2000000 in
theorem drawTransferAck (s : Option Addr) (len cap : Nat) (w : World) (h : BytesAt w s len cap) :
    Calls Try.prog 41 #[.slice s len cap] w (DrewTfN w) := by
  obtain ⟨W, hW⟩ : ∃ W, W = w.alloc (.cells #[.slice none 0 0, .int .i64 0, .int .i64 0] 24) := ⟨_, rfl⟩
  have hB : Below w.heap.size w W := by rw [hW]; exact (Below.refl _ _).alloc (Nat.le_refl _) _
  have hs : W.heap.size = w.heap.size + 1 := by rw [hW]; simp
  have HR : Hid (W.heap[w.heap.size]? = some zObj) := by show _ = _; rw [hW]; exact heap_alloc_new w _
  have HBY : Hid (BytesAt W s len cap) := bytes_keep h hB
  have HW := Lib.hid hW
  have HS := Lib.hid hs
  have HB := Lib.hid hB
  clear h hW hB hs
  go_enter Try.func41, Try.ntmps41
  go_wp2_with fail
  rw [← HW.out]
  refine (open_any s len cap W HBY.out).mono ?_
  rintro e w0 ⟨rfl, hr0, hb0, hz0⟩
  obtain ⟨q, hq⟩ : ∃ q, q = W.heap.size := ⟨_, rfl⟩
  rw [← hq] at hr0 hz0 ⊢
  have HQ := Lib.hid hq
  have HZ := Lib.hid hz0
  have HB0 := Lib.hid hb0
  clear hz0 hb0 hq
  go_wp2_with fail
  refine (ttransfer_any q 5 w0 (hr0.less (by omega))).mono ?_
  rintro e w1 ⟨a, cap1, t, rfl, hi, hl, hlc, hn, hk, hr1, hg1⟩
  have HIH := Lib.hid hi
  have HL := Lib.hid hl
  have HLC := Lib.hid hlc
  have HN := Lib.hid hn
  have HK := Lib.hid hk
  have HR1 := Lib.hid hr1
  have HG1 := Lib.hid hg1
  clear hi hl hlc hn hk hr1 hg1 hr0
  go_wp2_with fail
  have hi := HIH.out
  have hr1 := HR1.out
  have hg1 := HG1.out
  have hn := HN.out
  obtain ⟨V, hV⟩ : ∃ V, V = w1.alloc (.cells #[.slice a t.items.length cap1, .int .i64 t.nxt, .int .i64 t.ack] 24) := ⟨_, rfl⟩
  have hq := HQ.out
  have hz := HZ.out
  have hsz := HS.out
  have hg1s := hg1.size
  have hr1l := hr1.lt
  have hb1 : Below w1.heap.size w1 V := by rw [hV]; exact (Below.refl _ _).alloc (Nat.le_refl _) _
  have HRS : Hid (V.heap[w.heap.size]? = some zObj) := (hb1.block _ (by omega)).trans ((hg1.block _ (by omega) (by intro e; injection e with e; omega)).trans ((HB0.out.block _ (by omega)).trans HR.out))
  have HTV : Hid (V.heap[w1.heap.size]? = some (.cells #[.slice a t.items.length cap1, .int .i64 t.nxt, .int .i64 t.ack] 24 (0, 0))) := by show _ = _; rw [hV]; exact heap_alloc_new w1 _
  have HIF : Hid (IntsFrom V w0.heap.size a t.items) := hi.keep hb1.size (fun i _ h2 => hb1.block i h2)
  have hB1 : Below w.heap.size w w1 := HB.out.trans ((below_of_grown HB0.out (by omega) (by omega) hg1).mono (by omega))
  have HB1 : Hid (Below w.heap.size w V) := hB1.trans (hb1.mono hB1.size)
  have HRV : Hid (Ready V q 5) := hr1.below hb1 hr1l
  have HNE : Hid (w.heap.size < q ∧ q < w0.heap.size ∧ w0.heap.size ≤ w1.heap.size) := ⟨by omega, by omega, hg1s⟩
  have HV := Lib.hid hV
  have HSK : Hid (∀ w' : World, Kept q V w' → (w'.cell? ⟨w1.heap.size, 0, none⟩ = some (.slice a t.items.length cap1) ∧ w'.cell? ⟨w1.heap.size, 1, none⟩ = some (.int .i64 t.nxt) ∧ w'.cell? ⟨w1.heap.size, 2, none⟩ = some (.int .i64 t.ack))) := fun w' hk => cells3 ((hk.block _ (by have := HNE.out; omega)).trans HTV.out)
  have HKR : Hid (Kept q V V) := Kept.refl q V
  have HKD : Hid (Kept q V V.drew) := ⟨rfl, rfl, rfl, rfl, fun _ _ => rfl⟩
  have HSS : Hid (∀ (w' : World) (x y z : Value), Kept q V w' → ((((w'.setCell ⟨w.heap.size, 0, none⟩ x).setCell ⟨w.heap.size, 1, none⟩ y).setCell ⟨w.heap.size, 2, none⟩ z).cell? ⟨w1.heap.size, 0, none⟩ = some (.slice a t.items.length cap1) ∧ (((w'.setCell ⟨w.heap.size, 0, none⟩ x).setCell ⟨w.heap.size, 1, none⟩ y).setCell ⟨w.heap.size, 2, none⟩ z).cell? ⟨w1.heap.size, 1, none⟩ = some (.int .i64 t.nxt) ∧ (((w'.setCell ⟨w.heap.size, 0, none⟩ x).setCell ⟨w.heap.size, 1, none⟩ y).setCell ⟨w.heap.size, 2, none⟩ z).cell? ⟨w1.heap.size, 2, none⟩ = some (.int .i64 t.ack))) := fun w' x y z hk => cells3 ((set3_ne (by have := HNE.out; omega)).trans ((hk.block _ (by have := HNE.out; omega)).trans HTV.out))
  have s1 : IntKind.i64.wrap (t.nxt + 3) = t.nxt + 3 := by rw [IntKind.wrap_i64]; omega
  have s2 : max (t.nxt + 3) 1 = t.nxt + 3 := by omega
  have hmix : Try.prog.follows .mixedOrders = true := by kernel_rfl
  obtain ⟨d0, d1, d2⟩ := cells3 HTV.out
  rw [← HV.out]
  clear hr1 hg1 hi hn hz hsz hg1s hr1l hb1 hB1 hV hq
  go_region_held3 (fun w' => (w'.cell? ⟨w1.heap.size, 0, none⟩ = some (.slice a t.items.length cap1) ∧ w'.cell? ⟨w1.heap.size, 1, none⟩ = some (.int .i64 t.nxt) ∧ w'.cell? ⟨w1.heap.size, 2, none⟩ = some (.int .i64 t.ack)))
    (first
      | (with_reducible exact HSK.out _ HKR.out)
      | (with_reducible exact HSK.out _ HKD.out)
      | (with_reducible exact HSK.out _ HK2.out)
      | (with_reducible exact HSS.out _ _ _ _ HK2.out))
    ((first
      | (go_at_call 59
         refine (pick_r q 4 (t.nxt + 3) _ ?hrdy ?hp1 ?hp2).mono ?_
         case hrdy => exact HRV.out
         case hp1 => (have := HN.out; omega)
         case hp2 => (have := HN.out; omega)
         rintro e w2 ⟨p, hp0, hp1, rfl, hr2, hk2⟩
         have HK2 : Hid (Kept q V w2) := ⟨hk2.os, hk2.tape, hk2.output, hk2.size, hk2.block⟩
         have HR2 : Hid (w2.heap[w.heap.size]? = some zObj) := (HK2.out.block _ (by have := HNE.out; omega)).trans HRS.out
         have hff := zt_facts HR2.out
         obtain ⟨z0, z1, z2, z3⟩ := hff
         have s3 : IntKind.i64.wrap (p - 1) = p - 1 := by (have := HN.out; rw [IntKind.wrap_i64]; omega)
         clear hr2 hk2)))
  all_goals
    go_wp2
    refine bodyPost_ret (res_ct rfl _ _ w.heap.size _ #[.slice a t.items.length cap1, .int .i64 t.nxt, .int .i64 t.ack] (0, 0) _ rfl (set3 (zobj_eq HR2.out)) Try.underlying24 rfl (by kernel_rfl)) rfl ?_
    have hne := HNE.out
    have hn := HN.out
    have hks := HK2.out.size
    refine ⟨a, cap1, t, p - 1, rfl, ?_, HL.out, HLC.out, HN.out, HK.out, ⟨by omega, by omega⟩, below_set3 (HB1.out.trans (HK2.out.below (by omega))) (Nat.le_refl _) _ _ _⟩
    exact ((HIF.out.keep (Nat.le_of_eq hks.symm) (fun i h1 _ => HK2.out.block i (by omega))).keep (Nat.le_of_eq (size_set3 _ _ _ _ _).symm) (fun i h1 _ => set3_ne (by omega))).down (by omega)
end Go.Proofs.Ytmjloobakahdgaa
