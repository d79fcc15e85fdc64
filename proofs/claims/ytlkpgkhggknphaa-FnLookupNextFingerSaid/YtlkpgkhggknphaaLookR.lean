/- Lookups: paths and ranges, as the program finds them. -/
import Derived.Test.YtlkpgkhggknphaaLookQ
import Derived.RangeFuncNested
namespace Go.Proofs.Ytlkpgkhggknphaa
open Go.RowKit Go.Shelf
set_option linter.unusedVariables false

attribute [local go_sem] Oper.semAt_some

/-- three boxes -/
theorem boxesT (w : World) (t1 t2 t3 : TypeId) (x y z : Value) : Below w.heap.size w (((w.alloc (.cells #[x] t1)).alloc (.cells #[y] t2)).alloc (.cells #[z] t3)) ∧
    Boxed (((w.alloc (.cells #[x] t1)).alloc (.cells #[y] t2)).alloc (.cells #[z] t3)) w.heap.size t1 x ∧
    Boxed (((w.alloc (.cells #[x] t1)).alloc (.cells #[y] t2)).alloc (.cells #[z] t3)) (w.heap.size + 1) t2 y ∧
    Boxed (((w.alloc (.cells #[x] t1)).alloc (.cells #[y] t2)).alloc (.cells #[z] t3)) (w.heap.size + 1 + 1) t3 z ∧
    (((w.alloc (.cells #[x] t1)).alloc (.cells #[y] t2)).alloc (.cells #[z] t3)).heap.size = w.heap.size + 3 := by
  have h2 := Boxed.new (w.alloc (.cells #[x] t1)) t2 y
  have h3 := Boxed.new ((w.alloc (.cells #[x] t1)).alloc (.cells #[y] t2)) t3 z
  rw [World.size_alloc] at h2
  rw [World.size_alloc, World.size_alloc] at h3
  exact ⟨(((Below.refl _ w).alloc (Nat.le_refl _) _).alloc (by simp) _).alloc (by simp; omega) _, ((Boxed.new w t1 x).alloc _).alloc _, h2.alloc _, h3, by simp⟩

theorem new_of_gathered {L : List Int} (hL : L ≠ []) {w : World} {e : Ending} {w' : World} (h : Gathered L w e w') : NewInts L w e w' := by
  obtain ⟨v, rfl, h1, _, h3⟩ := h
  obtain ⟨k, hk⟩ : ∃ k, L.length = k + 1 := ⟨L.length - 1, by have := List.length_pos_iff.2 hL; omega⟩
  have h1' := h1
  rw [hk] at h1'
  obtain ⟨g, cap, rfl⟩ := ownsRow_succ h1'
  exact ⟨g, cap, by rw [hk], by unfold OwnI; rw [hk]; exact h1', h3⟩

theorem path_enters : ∀ args w, (callFunc 33 args).run Try.prog w = .ok (.enter 33 args) w := enters_of Try.func33 (by kernel_rfl) rfl
theorem path_stops (n₀ Ba Bi Bk : Nat) (a : Option Addr) (len cap : Nat) (zs : List Int) (id key : Int) (hba : Ba < n₀) (hbi : Bi < n₀) (hbk : Bk < n₀) (hv : vldB zs = true) (hid : id ∈ zs) (hk0 : 0 ≤ key) (hk1 : key < 64) (hz : zs.length = len) (hm : len ≤ maxLen)
    (w0 : World) (hn₀ : n₀ = w0.heap.size) (hI : IntsAt w0 a zs) (ca : w0.cell? ⟨Ba, 0, none⟩ = some (.slice a len cap)) (ci : w0.cell? ⟨Bi, 0, none⟩ = some (.int .i64 id)) (ck : w0.cell? ⟨Bk, 0, none⟩ = some (.int .i64 key)) :
    SeqStopsK Fence.wide 2 Try.prog 33 #[.pointer (some ⟨Ba, 0, none⟩), .pointer (some ⟨Bk, 0, none⟩), .pointer (some ⟨Bi, 0, none⟩)] (fun x : Int => #[Value.int .i64 x]) (Below n₀) (fun ys => ys = pathL zs id key) (fun _ => True) 8 w0 := fun l J Jx W hW hJ _ hY h0 =>
  path1_in 2 (by omega) l n₀ Ba Bi Bk a len cap zs id key hba hbi hbk hv hid hk0 hk1 hz hm J Jx hY w0 W hW hn₀ hI hJ ca ci ck h0
theorem collect_path (Ba Bi Bk : Nat) (a : Option Addr) (len cap : Nat) (zs : List Int) (id key : Int) (hv : vldB zs = true) (hid : id ∈ zs) (hk0 : 0 ≤ key) (hk1 : key < 64) (hz : zs.length = len) (hm : len ≤ maxLen)
    (w0 : World) (hba : Ba < w0.heap.size) (hbi : Bi < w0.heap.size) (hbk : Bk < w0.heap.size) (hI : IntsAt w0 a zs) (ca : w0.cell? ⟨Ba, 0, none⟩ = some (.slice a len cap)) (ci : w0.cell? ⟨Bi, 0, none⟩ = some (.int .i64 id)) (ck : w0.cell? ⟨Bk, 0, none⟩ = some (.int .i64 key)) :
    Calls Try.prog 18 #[.func (.func 33) #[] #[.pointer (some ⟨Ba, 0, none⟩), .pointer (some ⟨Bk, 0, none⟩), .pointer (some ⟨Bi, 0, none⟩)]] w0 (NewInts (pathL zs id key) w0) :=
  (collect_any 33 _ path_enters (pathL zs id key) 8 (by omega) w0 (path_stops w0.heap.size Ba Bi Bk a len cap zs id key hba hbi hbk hv hid hk0 hk1 hz hm w0 rfl hI ca ci ck)).mono
    fun e w3 h => new_of_gathered (by intro h; have := path_ne zs id key; rw [h] at this; simp at this) h

set_option maxHeartbeats 400000 in
theorem lpath_any (a : Option Addr) (len cap : Nat) (zs : List Int) (id key : Int) (w : World) (h : IntsAt w a zs) (hz : zs.length = len) (hm : len ≤ maxLen) :
    Calls Try.prog 6 #[.slice a len cap, .int .i64 id, .int .i64 key] w (NewInts (pathV zs id key) w) := by
  have HI := Lib.hid h
  have HZ := Lib.hid hz
  have HM := Lib.hid hm
  clear h hz hm
  cases hv : memB zs id
  · have He : Hid (pathV zs id key = []) := pathV_no (.inl hv)
    go_enter Try.func6, Try.ntmps6
    go_wp2_with fail
    refine (member_any a len cap zs id w HI.out HZ.out HM.out).mono ?_
    rintro e w1 ⟨rfl, rfl⟩
    go_wp2
    go_ret
    rw [He.out]
    exact new_of_sofar (sofar_new w _ rfl)
  cases hk : ptB key
  · have He : Hid (pathV zs id key = []) := pathV_no (.inr hk)
    go_enter Try.func6, Try.ntmps6
    go_wp2_with fail
    refine (member_any a len cap zs id w HI.out HZ.out HM.out).mono ?_
    rintro e w1 ⟨rfl, rfl⟩
    go_wp2_with (go_at_call 17; refine (valid_any _ _).mono ?_; rintro e w' ⟨rfl, rfl⟩)
    go_ret
    rw [He.out]
    exact new_of_sofar (sofar_new w _ rfl)
  have He : Hid (pathV zs id key = pathL zs id key) := pathV_yes hv hk
  have HMB := Lib.hid (memB_yes hv)
  have HPK := Lib.hid ((ptB_iff _).1 hk)
  go_enter Try.func6, Try.ntmps6
  go_wp2_with fail
  refine (member_any a len cap zs id w HI.out HZ.out HM.out).mono ?_
  rintro e w1 ⟨rfl, rfl⟩
  go_wp2_with (first | (go_at_call 17; refine (valid_any _ _).mono ?_; rintro e w' ⟨rfl, rfl⟩) | fail)
  refine (pathFrom_any a len cap id key w).mono ?_
  rintro e w2 ⟨rfl, hw2⟩
  obtain ⟨hB0, b1, b2, b3, hs0⟩ := boxesT w 23 3 3 (.slice a len cap) (.int .i64 id) (.int .i64 key)
  rw [← hw2] at hB0 b1 b2 b3 hs0
  have HS0 := Lib.hid hs0
  clear hw2 hs0
  have l1 := b1.lt
  have l2 := b2.lt
  have l3 := b3.lt
  have c1 := Lib.hid b1.cell
  have c2 := Lib.hid b2.cell
  have c3 := Lib.hid b3.cell
  clear b1 b2 b3 HS0
  go_wp2_with fail
  refine (collect_path w.heap.size (w.heap.size + 1) (w.heap.size + 1 + 1) a len cap zs id key HMB.out.1 HMB.out.2 HPK.out.1 HPK.out.2 HZ.out HM.out w2 l1 l2 l3 (HI.out.keepB hB0 (Nat.le_refl _)) c1.out c2.out c3.out).mono ?_
  rintro e w3 ⟨g, gc, rfl, ho, hb⟩
  have HO := Lib.hid ho
  clear ho
  go_wp2
  go_ret
  rw [He.out]
  exact new_mono ⟨g, gc, rfl, HO.out, hb⟩ hB0

end Go.Proofs.Ytlkpgkhggknphaa
