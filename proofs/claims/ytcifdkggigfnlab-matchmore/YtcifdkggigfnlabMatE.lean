/- The walk of find's function literal. -/
import Derived.Test.YtcifdkggigfnlabMatD
import Derived.Deep.RegionHeld3
namespace Go.Proofs.Ytcifdkggigfnlab
open Go.RowKit Go.Maps Go.WideMaps
set_option linter.unusedSimpArgs false
set_option linter.unusedVariables false

theorem PSt.drew {w : World} {B G M : Nat} {E : List Edge} {R : Nat} {s : Nat → Int} {A : List Int} (h : PSt w B G M E R s A) : PSt w.drew B G M E R s A := ⟨h.edges, h.owner, h.asked, h.bg, h.bm, h.gm⟩
theorem Mut.drew (G M : Nat) (w : World) : Mut G M w w.drew := ⟨rfl, rfl, rfl, Nat.le_refl _, fun _ _ _ _ => rfl⟩

set_option maxHeartbeats 4000000 in
theorem yields_met (n R B G M : Nat) (E : List Edge) (s : Nat → Int) (hr : Right n R E s) (A : List Int) (x : Int) (ga gp gx k : Nat) (w : World) (hA : A.Nodup) (hAr : ∀ a ∈ A, 0 ≤ a ∧ a < (R : Int)) (hx0 : 0 ≤ x) (hxn : x < (n : Int)) (hk : k < R)
    (hst : PSt w B G M E R s A) (hfn : FnAt w ga gp gx n R B G M x) (hm : P.hasInt A k = true) :
    Calls Try.prog 54 #[.int .i64 k, .pointer (some ⟨ga, 0, none⟩), .pointer (some ⟨gp, 0, none⟩), .pointer (some ⟨gx, 0, none⟩)] w (YieldPost B G M E R s A x k w) := by
  have hn16 := hr.n16
  have hR16 := hr.r16
  have HAR : Aside (∀ a ∈ A, 0 ≤ a ∧ a < (R : Int)) := hAr
  have HA : Aside A.Nodup := hA
  have ka := hfn.a0
  clear hr hAr hA
  go_enter Try.func54, Try.ntmps54
  go_wp2_with fail
  refine (marksHas_any M A k _ hst.asked (by omega)).mono ?_
  rintro e w1 ⟨rfl, hb1⟩
  rw [hm]
  go_wp2
  go_ret
  exact ⟨false, A, s, rfl, hst.below hb1, .ofBelow hb1, fun _ => ⟨rfl, .refl HA.out HAR.out, fun _ => (hasInt_iff _ _).1 hm⟩, fun h => by cases h⟩

set_option maxHeartbeats 4000000 in
theorem yields_far (n R B G M : Nat) (E : List Edge) (s : Nat → Int) (hr : Right n R E s) (A : List Int) (x : Int) (ga gp gx k : Nat) (w : World) (hA : A.Nodup) (hAr : ∀ a ∈ A, 0 ≤ a ∧ a < (R : Int)) (hx0 : 0 ≤ x) (hxn : x < (n : Int)) (hk : k < R)
    (hst : PSt w B G M E R s A) (hfn : FnAt w ga gp gx n R B G M x) (hm : P.hasInt A k = false) (he : P.hasEdge E (x, (k : Int)) = false) :
    Calls Try.prog 54 #[.int .i64 k, .pointer (some ⟨ga, 0, none⟩), .pointer (some ⟨gp, 0, none⟩), .pointer (some ⟨gx, 0, none⟩)] w (YieldPost B G M E R s A x k w) := by
  have hn16 := hr.n16
  have hR16 := hr.r16
  have hwfE : ∀ z ∈ E, EdgeWf z := fun z hz => by have := hr.edge z hz; exact ⟨wf_small (by omega), wf_small (by omega)⟩
  have HAR : Aside (∀ a ∈ A, 0 ≤ a ∧ a < (R : Int)) := hAr
  have HA : Aside A.Nodup := hA
  have HW : Aside (∀ z ∈ E, EdgeWf z) := hwfE
  clear hr hAr hA hwfE
  have ka := hfn.a0
  have kx := hfn.x0
  have kp0 := hfn.p0
  have kp1 := hfn.p1
  have kp2 := hfn.p2
  have HNE : Aside (¬ (x, (k : Int)) ∈ E) := fun h => by rw [(hasEdge_iff _ _).2 h] at he; cases he
  go_enter Try.func54, Try.ntmps54
  go_wp2_with fail
  refine (marksHas_any M A k _ hst.asked (by omega)).mono ?_
  rintro e w1 ⟨rfl, hb1⟩
  rw [hm]
  have q0 := cellIn hb1 kp0
  have q1 := cellIn hb1 kp1
  have q2 := cellIn hb1 kp2
  have qx := cellIn hb1 kx
  go_wp2_with fail
  refine (graphHas_any B E n R x k _ (set_below hst.edges hb1) HW.out (by omega) (by omega)).mono ?_
  rintro e w2 ⟨rfl, hb2⟩
  rw [he]
  go_wp2
  go_ret
  exact ⟨false, A, s, rfl, hst.below (bvia hb1 hb2), .ofBelow (bvia hb1 hb2), fun _ => ⟨rfl, .refl HA.out HAR.out, fun h => absurd h HNE.out⟩, fun h => by cases h⟩

set_option maxHeartbeats 4000000 in
theorem yields_free (n R B G M : Nat) (E : List Edge) (s : Nat → Int) (hr : Right n R E s) (A : List Int) (x : Int) (ga gp gx k : Nat) (w : World) (hA : A.Nodup) (hAr : ∀ a ∈ A, 0 ≤ a ∧ a < (R : Int)) (hx0 : 0 ≤ x) (hxn : x < (n : Int)) (hk : k < R)
    (hst : PSt w B G M E R s A) (hfn : FnAt w ga gp gx n R B G M x) (hm : P.hasInt A k = false) (he : P.hasEdge E (x, (k : Int)) = true) (hs : s k = -1) :
    Calls Try.prog 54 #[.int .i64 k, .pointer (some ⟨ga, 0, none⟩), .pointer (some ⟨gp, 0, none⟩), .pointer (some ⟨gx, 0, none⟩)] w (YieldPost B G M E R s A x k w) := by
  have hn16 := hr.n16
  have hR16 := hr.r16
  have hso := hr.own k hk
  have hwfE : ∀ z ∈ E, EdgeWf z := fun z hz => by have := hr.edge z hz; exact ⟨wf_small (by omega), wf_small (by omega)⟩
  have HW : Aside (∀ z ∈ E, EdgeWf z) := hwfE
  have hnk : ¬ (k : Int) ∈ A := fun h => by rw [(hasInt_iff _ _).2 h] at hm; cases hm
  have hed : (x, (k : Int)) ∈ E := (hasEdge_iff _ _).1 he
  have hA1 : (A ++ [(k : Int)]).Nodup := nodup_snoc hA hnk
  have hA1r : ∀ a ∈ A ++ [(k : Int)], 0 ≤ a ∧ a < (R : Int) := by
    intro a ha
    rcases List.mem_append.1 ha with ha | ha
    · exact hAr a ha
    · simp at ha; subst ha; omega
  have hlen := pigeon R _ hA1 hA1r
  simp at hlen
  have hwf := wf_small (n := (k : Int)) (by omega)
  have HA1 : Aside ((A ++ [(k : Int)]).Nodup ∧ ∀ a ∈ A ++ [(k : Int)], 0 ≤ a ∧ a < (R : Int)) := ⟨hA1, hA1r⟩
  have HED : Aside ((x, (k : Int)) ∈ E) := hed
  have HNK : Aside (¬ (k : Int) ∈ A) := hnk
  clear hA1 hA1r hed hnk hwfE hr hA hAr
  have ka := hfn.a0
  have kx := hfn.x0
  have kp0 := hfn.p0
  have kp1 := hfn.p1
  have kp2 := hfn.p2
  go_enter Try.func54, Try.ntmps54
  go_wp2_with fail
  refine (marksHas_any M A k _ hst.asked (by omega)).mono ?_
  rintro e w1 ⟨rfl, hb1⟩
  rw [hm]
  have q0 := cellIn hb1 kp0
  have q1 := cellIn hb1 kp1
  have q2 := cellIn hb1 kp2
  have qx := cellIn hb1 kx
  go_wp2_with fail
  refine (graphHas_any B E n R x k _ (set_below hst.edges hb1) HW.out (by omega) (by omega)).mono ?_
  rintro e w2 ⟨rfl, hb2⟩
  rw [he]
  have hst2 := hst.below (bvia hb1 hb2)
  have hfn2 := hfn.mut (.ofBelow (bvia hb1 hb2))
  have hm2 : Mut G M w w2 := .ofBelow (bvia hb1 hb2)
  have t0 := hfn2.a0
  clear q0 q1 q2 qx ka kx kp0 kp1 kp2 hst hfn hb1 hb2 hm he
  go_wp2_with (at_mapUpdate; refine wpList_mapUpdate_own _ rfl _ _ _ 74 rfl 3 81 Try.lawI Try.underlying74 _ M A.length _ rfl hst2.asked (by simp only [maxLen]; omega) _ _ (P.litI k) rfl rfl (keyOf_int_mk Try.underlying3 hwf) _ [] unitElem_mk ?_; intro w3 hown3 hgrow3)
  have hm3 : Mut G M w2 w3 := .ofGrown hgrow3
  have hst3 : PSt w3 B G M E R s (A ++ [(k : Int)]) := by
    refine ⟨hm3.map hst2.edges hst2.bg hst2.bm, hst2.owner.of_block (hgrow3.block G hst2.owner.lt (by simpa using hst2.gm)), ?_, hst2.bg, hst2.bm, hst2.gm⟩
    show World.ownsMap _ _ _ _ _ _ _
    rw [List.map_append, List.map_cons, List.map_nil, setOf_snoc, List.length_append]
    exact hown3
  have hfn3 := hfn2.mut hm3
  have hm03 := hm2.trans hm3
  have k3a := hfn3.a0
  have k3p0 := hfn3.p0
  have k3p1 := hfn3.p1
  have k3p2 := hfn3.p2
  have k3p3 := hfn3.p3
  have k3o := hst3.owner.cell hk
  have i1 : (k : Int) < (R : Int) := by omega
  have i2 : (0 : Int) ≤ (k : Int) := by omega
  clear hown3 hgrow3 hst2 hfn2 hm2 t0 hm3
  obtain ⟨y, hy⟩ : ∃ y, s k = y := ⟨_, rfl⟩
  rw [hy] at k3o
  have hyn : (y == -1) = true := by rw [← hy, hs]; rfl
  have HS : Aside (s k = -1) := hs
  clear hso hlen hs hy k3a k3p0 k3p1 k3p2
  go_quiet (fail)
  go_wp2
  go_ret
  refine ⟨true, A ++ [(k : Int)], s, rfl, hst3.below (below_drewN (Below.refl _ _) _), hm03.trans (.ofBelow (below_drewN (Below.refl _ _) _)), (fun h => by cases h), fun _ => ⟨[], rfl, ⟨HED.out, .inl ⟨rfl, HS.out⟩⟩, by simp, fun r h => ?_⟩⟩
  simp at h
  subst h
  exact ⟨hk, HNK.out⟩

end Go.Proofs.Ytcifdkggigfnlab
