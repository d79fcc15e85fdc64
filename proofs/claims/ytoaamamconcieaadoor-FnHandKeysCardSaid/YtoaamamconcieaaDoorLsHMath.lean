/- What handing over and taking over leave (no walk). -/
import Derived.Test.YtoaamamconcieaaDoorLsMath
namespace Go.Proofs.YtoaamamconcieaaDoor
open Go.RowKit
set_option linter.unusedVariables false

theorem lzB_of {L : List Ls} {fr at_ to ut : Int} (h : handOk L fr at_ to ut = true) : lzB ⟨at_, to, ut⟩ = true := by
  obtain ⟨_, _, h1, h2, h3, h4⟩ := (handOk_iff _ _ _ _ _).1 h
  exact (lzB_iff _).2 ⟨h1, h2, h3, h4⟩
/-- the four ways -/
theorem hand_ways (L : List Ls) (fr at_ to ut : Int) :
    (handOk L fr at_ to ut = false ∧ handR L fr at_ to ut = ([], false)) ∨
    (handOk L fr at_ to ut = true ∧ ¬ (ofL L at_).o = fr ∧ handR L fr at_ to ut = (L, false)) ∨
    (handOk L fr at_ to ut = true ∧ (ofL L at_).o = fr ∧ ¬ (ofL L at_).e = at_ ∧ L.length = 12 ∧ handR L fr at_ to ut = (L, false)) ∨
    (handOk L fr at_ to ut = true ∧ (ofL L at_).o = fr ∧ (ofL L at_).e = at_ ∧ handR L fr at_ to ut = (L.set (atL L at_) ⟨at_, to, ut⟩, true)) ∨
    (handOk L fr at_ to ut = true ∧ (ofL L at_).o = fr ∧ ¬ (ofL L at_).e = at_ ∧ L.length < 12 ∧ handR L fr at_ to ut = (insL L (fdL L at_) ⟨at_, to, ut⟩, true)) := by
  cases hk : handOk L fr at_ to ut
  · exact .inl ⟨rfl, hand_no hk⟩
  by_cases ho : (ofL L at_).o = fr
  · by_cases he : (ofL L at_).e = at_
    · exact .inr (.inr (.inr (.inl ⟨rfl, ho, he, hand_set hk ho he⟩)))
    · have hl := lv_len ((handOk_iff _ _ _ _ _).1 hk).1
      by_cases h12 : 12 ≤ L.length
      · exact .inr (.inr (.inl ⟨rfl, ho, he, by omega, hand_full hk ho he h12⟩))
      · exact .inr (.inr (.inr (.inr ⟨rfl, ho, he, by omega, hand_ins hk ho he (by omega)⟩)))
  · exact .inr (.inl ⟨rfl, ho, hand_o hk ho⟩)
/-- the leases afterwards, where it was done -/
theorem hand_done {L M : List Ls} {fr at_ to ut : Int} (h : handR L fr at_ to ut = (M, true)) :
    handOk L fr at_ to ut = true ∧ (ofL L at_).o = fr ∧ lvB M = true ∧ ofL M at_ = ⟨at_, to, ut⟩ ∧ M.length = (if (ofL L at_).e = at_ then L.length else L.length + 1) ∧
    ∀ x : Ls, x.e = at_ → x.o = fr → (0 ≤ x.u ∧ x.u ≤ 999) → lvB (M.set (atL M at_) x) = true ∧ ∀ key : Int, (ofL (M.set (atL M at_) x) key).o = (ofL L key).o := by
  rcases hand_ways L fr at_ to ut with ⟨_, hr⟩ | ⟨_, _, hr⟩ | ⟨_, _, _, _, hr⟩ | ⟨hk, ho, he, hr⟩ | ⟨hk, ho, he, hl, hr⟩
  · rw [hr] at h; simp at h
  · rw [hr] at h; simp at h
  · rw [hr] at h; simp at h
  · rw [hr] at h
    injection h with h
    subst h
    obtain ⟨hv, hfr, h1, h2, h3⟩ := (handOk_iff _ _ _ _ _).1 hk
    have hal := at_lt (L := L) (by have := lv_len hv; omega) at_
    have hse : SameE L (L.set (atL L at_) ⟨at_, to, ut⟩) := sameE_set (by show at_ = _; exact he.symm)
    have hvm : lvB (L.set (atL L at_) ⟨at_, to, ut⟩) = true := lv_set hv (by show at_ = _; exact he.symm) h2 h3
    have hat : atL (L.set (atL L at_) ⟨at_, to, ut⟩) at_ = atL L at_ := (hse.at_ at_).symm
    refine ⟨hk, ho, hvm, ?_, ?_, ?_⟩
    · unfold ofL; rw [hat, gl_set_eq _ hal]
    · rw [if_pos he, List.length_set]
    · intro x hxe hxo hxu
      rw [hat, List.set_set]
      have hxe' : x.e = (gl L (atL L at_)).e := by rw [hxe]; exact he.symm
      refine ⟨lv_set hv hxe' (by rw [hxo]; exact hfr) hxu, fun key => ?_⟩
      have e := (sameE_set (L := L) (k := atL L at_) (x := x) hxe').at_ key
      unfold ofL
      rw [← e]
      by_cases hkk : atL L at_ = atL L key
      · rw [← hkk, gl_set_eq _ hal, hxo]; exact ho.symm
      · rw [gl_set_ne _ hkk]
  · rw [hr] at h
    injection h with h
    subst h
    obtain ⟨hv, hfr, h1, h2, h3⟩ := (handOk_iff _ _ _ _ _).1 hk
    have hx := lzB_of hk
    have hfl := fd_le L at_
    obtain ⟨q1, q2⟩ := of_ins_self hv (x := ⟨at_, to, ut⟩) hx hl he
    refine ⟨hk, ho, lv_ins hv (x := ⟨at_, to, ut⟩) hx hl he, q2, ?_, ?_⟩
    · rw [if_neg he, insL_len hfl]
    · intro x hxe hxo hxu
      have q1' : atL (insL L (fdL L at_) ⟨at_, to, ut⟩) at_ = fdL L at_ := q1
      rw [q1', ins_set hfl]
      obtain ⟨xe, xo, xu⟩ := x
      subst hxe hxo
      have hx2 : lzB ⟨xe, (ofL L xe).o, xu⟩ = true := by rw [ho]; exact (lzB_iff _).2 ⟨h1, hfr, hxu⟩
      simp only at ho
      subst ho
      refine ⟨lv_ins hv (x := ⟨xe, (ofL L xe).o, xu⟩) hx2 hl he, fun key => ?_⟩
      rcases of_ins hv (x := ⟨xe, (ofL L xe).o, xu⟩) hx2 hl he key with h5 | ⟨h5, h6⟩
      · rw [show fdL L xe = fdL L (⟨xe, (ofL L xe).o, xu⟩ : Ls).e from rfl, h5]
      · rw [show fdL L xe = fdL L (⟨xe, (ofL L xe).o, xu⟩ : Ls).e from rfl, h5]
        show (ofL L xe).o = (ofL L key).o
        unfold ofL; rw [h6]

/-- taking over -/
theorem take_ways (L : List Ls) (key to now ut : Int) :
    (takeOk L key to now ut = false ∧ takeR L key to now ut = ([], false)) ∨
    (takeOk L key to now ut = true ∧ now ≤ (ofL L key).u ∧ takeR L key to now ut = (L, false)) ∨
    (takeOk L key to now ut = true ∧ (ofL L key).u < now ∧ takeR L key to now ut = (L.set (atL L key) ⟨(ofL L key).e, to, ut⟩, true)) := by
  cases hk : takeOk L key to now ut
  · exact .inl ⟨rfl, take_no' hk⟩
  by_cases hu : now ≤ (ofL L key).u
  · exact .inr (.inl ⟨rfl, hu, take_keep hk hu⟩)
  · exact .inr (.inr ⟨rfl, by omega, take_set hk hu⟩)
theorem take_done {L M : List Ls} {key to now ut : Int} (h : takeR L key to now ut = (M, true)) :
    takeOk L key to now ut = true ∧ (ofL L key).u < now ∧ lvB M = true ∧ ofL M key = ⟨(ofL L key).e, to, ut⟩ ∧ M.length = L.length := by
  rcases take_ways L key to now ut with ⟨_, hr⟩ | ⟨_, _, hr⟩ | ⟨hk, hu, hr⟩
  · rw [hr] at h; simp at h
  · rw [hr] at h; simp at h
  · rw [hr] at h
    injection h with h
    subst h
    obtain ⟨hv, _, h2, _, h3⟩ := (takeOk_iff _ _ _ _ _).1 hk
    have hal := at_lt (L := L) (by have := lv_len hv; omega) key
    have hse : SameE L (L.set (atL L key) ⟨(ofL L key).e, to, ut⟩) := sameE_set rfl
    refine ⟨hk, hu, lv_set hv rfl h2 h3, ?_, by rw [List.length_set]⟩
    have e := hse.at_ key
    show gl _ (atL _ key) = _
    rw [← e, gl_set_eq _ hal]
theorem hand_self {L M : List Ls} {fr at_ to ut : Int} (h : handR L fr at_ to ut = (M, true)) : ∃ M2, handR L fr at_ fr ut = (M2, true) := by
  have hok2 : handOk L fr at_ to ut = true → handOk L fr at_ fr ut = true := by
    intro hk
    obtain ⟨hv, hfr, h1, h2, h3⟩ := (handOk_iff _ _ _ _ _).1 hk
    exact (handOk_iff _ _ _ _ _).2 ⟨hv, hfr, h1, hfr, h3⟩
  rcases hand_ways L fr at_ to ut with ⟨_, hr⟩ | ⟨_, _, hr⟩ | ⟨_, _, _, _, hr⟩ | ⟨hk, ho, he, hr⟩ | ⟨hk, ho, he, hl, hr⟩
  · rw [hr] at h; simp at h
  · rw [hr] at h; simp at h
  · rw [hr] at h; simp at h
  · exact ⟨_, hand_set (hok2 hk) ho he⟩
  · exact ⟨_, hand_ins (hok2 hk) ho he hl⟩
theorem set_self {L : List Ls} {k : Nat} (h : k < L.length) : L.set k (gl L k) = L := by
  apply gl_ext (by simp)
  intro i hi
  rw [List.length_set] at hi
  by_cases hk : k = i
  · subst hk; rw [gl_set_eq _ hi]
  · rw [gl_set_ne _ hk]
theorem keysI_congr {L M : List Ls} {ow : Int} (hv : lvB L = true) (hm : lvB M = true) (h : ∀ key : Int, (ofL L key).o = (ofL M key).o) : keysI L ow = keysI M ow := by
  unfold keysI; rw [hv, hm, keysN_congr h]
/-- handing back -/
theorem hand_back {L M : List Ls} {fr at_ to ut : Int} (h : handR L fr at_ to ut = (M, true)) :
    handR M to at_ fr (ofL L at_).u = (M.set (atL M at_) ⟨at_, fr, (ofL L at_).u⟩, true) ∧ keysI (M.set (atL M at_) ⟨at_, fr, (ofL L at_).u⟩) fr = keysI L fr := by
  obtain ⟨hk, ho, hvm, hof, _, hall⟩ := hand_done h
  obtain ⟨hv, hfr, h1, h2, h3⟩ := (handOk_iff _ _ _ _ _).1 hk
  have hal := at_lt (L := L) (by have := lv_len hv; omega) at_
  have hu := lv_u hv hal
  refine ⟨hand_set ((handOk_iff _ _ _ _ _).2 ⟨hvm, h2, h1, hfr, hu⟩) (by rw [hof]) (by rw [hof]), ?_⟩
  obtain ⟨q1, q2⟩ := hall ⟨at_, fr, (ofL L at_).u⟩ rfl rfl hu
  exact keysI_congr q1 hv q2
theorem hand_keep_keys {L M : List Ls} {fr at_ ut : Int} (h : handR L fr at_ fr ut = (M, true)) : keysI M fr = keysI L fr := by
  obtain ⟨hk, ho, hvm, hof, _, hall⟩ := hand_done h
  obtain ⟨hv, hfr, h1, h2, h3⟩ := (handOk_iff _ _ _ _ _).1 hk
  obtain ⟨q1, q2⟩ := hall ⟨at_, fr, ut⟩ rfl rfl h3
  have hal := at_lt (L := M) (by have := lv_len hvm; omega) at_
  have e : M.set (atL M at_) ⟨at_, fr, ut⟩ = M := by rw [← hof]; exact set_self hal
  rw [e] at q1 q2
  exact keysI_congr hvm hv q2
theorem take_once {L M : List Ls} {key to now ut t : Int} (h : takeR L key to now ut = (M, true)) (hu : now ≤ ut) (ht0 : 0 ≤ t) (ht1 : t < 64) : takeR M key t now ut = (M, false) := by
  obtain ⟨hk, _, hvm, hof, _⟩ := take_done h
  obtain ⟨_, h1, h2, h3, h4⟩ := (takeOk_iff _ _ _ _ _).1 hk
  exact take_keep ((takeOk_iff _ _ _ _ _).2 ⟨hvm, h1, ⟨ht0, ht1⟩, h3, h4⟩) (by rw [hof]; exact hu)
end Go.Proofs.YtoaamamconcieaaDoor
