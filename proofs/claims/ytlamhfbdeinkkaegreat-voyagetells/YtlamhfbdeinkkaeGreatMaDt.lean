import Derived.Test.YtlamhfbdeinkkaeGreatMaCt
import Derived.Deep.RegionHeld3
set_option maxRecDepth 10000
/- The walk of find's function literal. -/
namespace Go.Proofs.YtlamhfbdeinkkaeGreat.Ma
open Go.RowKit Go.Maps Go.WideMaps
set_option linter.unusedSimpArgs false
set_option linter.unusedVariables false

theorem PSt.drew {w : World} {B G M : Nat} {E : List Edge} {R : Nat} {s : Nat → Int} {A : List Int} (h : PSt w B G M E R s A) : PSt w.drew B G M E R s A := ⟨h.edges, h.owner, h.asked, h.bg, h.bm, h.gm⟩
theorem Mut.drew (G M : Nat) (w : World) : Mut G M w w.drew := ⟨rfl, rfl, rfl, Nat.le_refl _, fun _ _ _ _ => rfl⟩

set_option maxHeartbeats 4000000 in
theorem yields_met (n R B G M : Nat) (E : List Edge) (s : Nat → Int) (hr : Right n R E s) (A : List Int) (x : Int) (ga gp gx k : Nat) (w : World) (hA : A.Nodup) (hAr : ∀ a ∈ A, 0 ≤ a ∧ a < (R : Int)) (hx0 : 0 ≤ x) (hxn : x < (n : Int)) (hk : k < R)
    (hst : PSt w B G M E R s A) (hfn : FnAt w ga gp gx n R B G M x) (hm : P.hasInt A k = true) :
    Calls Tryz.prog 221 #[.int .i64 k, .pointer (some ⟨ga, 0, none⟩), .pointer (some ⟨gp, 0, none⟩), .pointer (some ⟨gx, 0, none⟩)] w (YieldPost B G M E R s A x k w) := by
  have hn16 := hr.n16
  have hR16 := hr.r16
  have HAR : Aside (∀ a ∈ A, 0 ≤ a ∧ a < (R : Int)) := hAr
  have HA : Aside A.Nodup := hA
  have ka := hfn.a0
  clear hr hAr hA
  go_enter Tryz.func221, Tryz.ntmps221
  go_wp2_with fail
  refine (marksHas_any M A k _ hst.asked (by omega)).mono ?_
  rintro e w1 ⟨rfl, hb1⟩
  rw [hm]
  go_wp2
  go_ret
  exact ⟨false, A, s, rfl, hst.below hb1, .ofBelow hb1, fun _ => ⟨rfl, .refl HA.out HAR.out, fun _ => (hasInt_iff _ _).1 hm⟩, fun h => by cases h⟩

set_option maxHeartbeats 4000000 in
theorem yields_far (n R B G M : Nat) (E : List Edge) (s : Nat → Int) (hr : Right n R E s) (A : List Int) (x : Int) (ga gp gx k : Nat) (w : World) (hA : A.Nodup) (hAr : ∀ a ∈ A, 0 ≤ a ∧ a < (R : Int)) (hx0 : 0 ≤ x) (hxn : x < (n : Int)) (hk : k < R)
    (hst : PSt w B G M E R s A) (hfn : FnAt w ga gp gx n R B G M x) (hm : P.hasInt A k = false) (he : P.hasEdge E (x, (k : Int)) = false) :
    Calls Tryz.prog 221 #[.int .i64 k, .pointer (some ⟨ga, 0, none⟩), .pointer (some ⟨gp, 0, none⟩), .pointer (some ⟨gx, 0, none⟩)] w (YieldPost B G M E R s A x k w) := by
  have hn16 := hr.n16
  have hR16 := hr.r16
  have hwfE : ∀ z ∈ E, EdgeWf z := fun z hz => by have := hr.edge z hz; exact ⟨wf_small (by omega), wf_small (by omega)⟩
  have HAR : Aside (∀ a ∈ A, 0 ≤ a ∧ a < (R : Int)) := hAr
  have HA : Aside A.Nodup := hA
  have HW : Aside (∀ z ∈ E, EdgeWf z) := hwfE
  clear hr hAr hA hwfE
  have ka := hfn.a0
  have kx := hfn.x0
  have kp0 := hfn.p0
  have kp1 := hfn.p1
  have kp2 := hfn.p2
  have HNE : Aside (¬ (x, (k : Int)) ∈ E) := fun h => by rw [(hasEdge_iff _ _).2 h] at he; cases he
  go_enter Tryz.func221, Tryz.ntmps221
  go_wp2_with fail
  refine (marksHas_any M A k _ hst.asked (by omega)).mono ?_
  rintro e w1 ⟨rfl, hb1⟩
  rw [hm]
  have q0 := cellIn hb1 kp0
  have q1 := cellIn hb1 kp1
  have q2 := cellIn hb1 kp2
  have qx := cellIn hb1 kx
  go_wp2_with fail
  refine (graphHas_any B E n R x k _ (set_below hst.edges hb1) HW.out (by omega) (by omega)).mono ?_
  rintro e w2 ⟨rfl, hb2⟩
  rw [he]
  go_wp2
  go_ret
  exact ⟨false, A, s, rfl, hst.below (bvia hb1 hb2), .ofBelow (bvia hb1 hb2), fun _ => ⟨rfl, .refl HA.out HAR.out, fun h => absurd h HNE.out⟩, fun h => by cases h⟩

set_option maxHeartbeats 4000000 in
theorem yields_free (n R B G M : Nat) (E : List Edge) (s : Nat → Int) (hr : Right n R E s) (A : List Int) (x : Int) (ga gp gx k : Nat) (w : World) (hA : A.Nodup) (hAr : ∀ a ∈ A, 0 ≤ a ∧ a < (R : Int)) (hx0 : 0 ≤ x) (hxn : x < (n : Int)) (hk : k < R)
    (hst : PSt w B G M E R s A) (hfn : FnAt w ga gp gx n R B G M x) (hm : P.hasInt A k = false) (he : P.hasEdge E (x, (k : Int)) = true) (hs : s k = -1) :
    Calls Tryz.prog 221 #[.int .i64 k, .pointer (some ⟨ga, 0, none⟩), .pointer (some ⟨gp, 0, none⟩), .pointer (some ⟨gx, 0, none⟩)] w (YieldPost B G M E R s A x k w) := by
  have hn16 := hr.n16
  have hR16 := hr.r16
  have hso := hr.own k hk
  have hwfE : ∀ z ∈ E, EdgeWf z := fun z hz => by have := hr.edge z hz; exact ⟨wf_small (by omega), wf_small (by omega)⟩
  have HW : Aside (∀ z ∈ E, EdgeWf z) := hwfE
  have hnk : ¬ (k : Int) ∈ A := fun h => by rw [(hasInt_iff _ _).2 h] at hm; cases hm
  have hed : (x, (k : Int)) ∈ E := (hasEdge_iff _ _).1 he
  have hA1 : (A ++ [(k : Int)]).Nodup := nodup_snoc hA hnk
  have hA1r : ∀ a ∈ A ++ [(k : Int)], 0 ≤ a ∧ a < (R : Int) := by
    intro a ha
    rcases List.mem_append.1 ha with ha | ha
    · exact hAr a ha
    · simp at ha; subst ha; omega
  have hlen := pigeon R _ hA1 hA1r
  simp at hlen
  have hwf := wf_small (n := (k : Int)) (by omega)
  have HA1 : Aside ((A ++ [(k : Int)]).Nodup ∧ ∀ a ∈ A ++ [(k : Int)], 0 ≤ a ∧ a < (R : Int)) := ⟨hA1, hA1r⟩
  have HED : Aside ((x, (k : Int)) ∈ E) := hed
  have HNK : Aside (¬ (k : Int) ∈ A) := hnk
  clear hA1 hA1r hed hnk hwfE hr hA hAr
  have ka := hfn.a0
  have kx := hfn.x0
  have kp0 := hfn.p0
  have kp1 := hfn.p1
  have kp2 := hfn.p2
  go_enter Tryz.func221, Tryz.ntmps221
  go_wp2_with fail
  refine (marksHas_any M A k _ hst.asked (by omega)).mono ?_
  rintro e w1 ⟨rfl, hb1⟩
  rw [hm]
  have q0 := cellIn hb1 kp0
  have q1 := cellIn hb1 kp1
  have q2 := cellIn hb1 kp2
  have qx := cellIn hb1 kx
  go_wp2_with fail
  refine (graphHas_any B E n R x k _ (set_below hst.edges hb1) HW.out (by omega) (by omega)).mono ?_
  rintro e w2 ⟨rfl, hb2⟩
  rw [he]
  have hst2 := hst.below (bvia hb1 hb2)
  have hfn2 := hfn.mut (.ofBelow (bvia hb1 hb2))
  have hm2 : Mut G M w w2 := .ofBelow (bvia hb1 hb2)
  have t0 := hfn2.a0
  clear q0 q1 q2 qx ka kx kp0 kp1 kp2 hst hfn hb1 hb2 hm he
  go_wp2_with (at_mapUpdate; refine wpList_mapUpdate_own _ rfl _ _ _ 202 rfl 3 233 Tryz.lawI Tryz.underlying202 _ M A.length _ rfl hst2.asked (by simp only [maxLen]; omega) _ _ (P.litI k) rfl rfl (keyOf_int_mk Tryz.underlying3 hwf) _ [] unitElem_mk ?_; intro w3 hown3 hgrow3)
  have hm3 : Mut G M w2 w3 := .ofGrown hgrow3
  have hst3 : PSt w3 B G M E R s (A ++ [(k : Int)]) := by
    refine ⟨hm3.map hst2.edges hst2.bg hst2.bm, hst2.owner.of_block (hgrow3.block G hst2.owner.lt (by simpa using hst2.gm)), ?_, hst2.bg, hst2.bm, hst2.gm⟩
    show World.ownsMap _ _ _ _ _ _ _
    rw [List.map_append, List.map_cons, List.map_nil, setOf_snoc, List.length_append]
    exact hown3
  have hfn3 := hfn2.mut hm3
  have hm03 := hm2.trans hm3
  have k3a := hfn3.a0
  have k3p0 := hfn3.p0
  have k3p1 := hfn3.p1
  have k3p2 := hfn3.p2
  have k3p3 := hfn3.p3
  have k3o := hst3.owner.cell hk
  have i1 : (k : Int) < (R : Int) := by omega
  have i2 : (0 : Int) ≤ (k : Int) := by omega
  clear hown3 hgrow3 hst2 hfn2 hm2 t0 hm3
  obtain ⟨y, hy⟩ : ∃ y, s k = y := ⟨_, rfl⟩
  rw [hy] at k3o
  have hyn : (y == -1) = true := by rw [← hy, hs]; rfl
  have HS : Aside (s k = -1) := hs
  clear hso hlen hs hy k3a k3p0 k3p1 k3p2
  go_quiet (fail)
  go_wp2
  go_ret
  refine ⟨true, A ++ [(k : Int)], s, rfl, hst3.below (below_drewN (Below.refl _ _) _), hm03.trans (.ofBelow (below_drewN (Below.refl _ _) _)), (fun h => by cases h), fun _ => ⟨[], rfl, ⟨HED.out, .inl ⟨rfl, HS.out⟩⟩, by simp, fun r h => ?_⟩⟩
  simp at h
  subst h
  exact ⟨hk, HNK.out⟩

end Go.Proofs.YtlamhfbdeinkkaeGreat.Ma
/- The walk of find's function literal where the right one has an owner; the walk of find. -/
namespace Go.Proofs.YtlamhfbdeinkkaeGreat.Ma
open Go.RowKit Go.Maps Go.WideMaps
set_option linter.unusedSimpArgs false
set_option linter.unusedVariables false

theorem yield_no {E : List Edge} {R : Nat} {s : Nat → Int} {A A' : List Int} {k : Nat} (hs : s k ≠ -1) (hD : Dead E R s (A ++ [(k : Int)]) A') (hm : ∀ q : Int, (s k, q) ∈ E → q ∈ A') : Dead E R s A A' ∧ (k : Int) ∈ A' := by
  have hkk : (k : Int) ∈ A' := hD.sub _ (by simp)
  refine ⟨⟨fun a ha => hD.sub a (by simp [ha]), hD.nodup, hD.rng, fun r hr hn => ?_⟩, hkk⟩
  by_cases e : r = k
  · subst e
    exact ⟨hs, hm⟩
  · exact hD.own r hr (by simp; exact ⟨hn, by omega⟩)
theorem yield_yes {E : List Edge} {R : Nat} {s : Nat → Int} {A : List Int} {k : Nat} {x : Int} {p : List Nat} (hs : s k ≠ -1) (hk : k < R) (hn : ¬ (k : Int) ∈ A) (he : (x, (k : Int)) ∈ E) (hp : Path E R s (A ++ [(k : Int)]) (s k) p) : Path E R s A x (k :: p) ∧ k ∉ p := by
  have hkp : k ∉ p := fun h => (hp.fresh k h).2 (by simp)
  refine ⟨⟨⟨he, .inr ⟨hs, hp.alt⟩⟩, List.nodup_cons.2 ⟨hkp, hp.nodup⟩, fun r hr => ?_⟩, hkp⟩
  rcases List.mem_cons.1 hr with rfl | hr
  · exact ⟨hk, hn⟩
  · have := hp.fresh r hr
    exact ⟨this.1, fun h => this.2 (by simp [h])⟩

set_option maxHeartbeats 4000000 in
theorem yields_more (n R B G M : Nat) (E : List Edge) (s : Nat → Int) (hr : Right n R E s) (A : List Int) (x : Int) (ga gp gx k : Nat) (w : World) (hA : A.Nodup) (hAr : ∀ a ∈ A, 0 ≤ a ∧ a < (R : Int)) (hx0 : 0 ≤ x) (hxn : x < (n : Int)) (hk : k < R)
    (hst : PSt w B G M E R s A) (hfn : FnAt w ga gp gx n R B G M x) (f : Nat) (ih : Hid (FindOk n R B G M E s f)) (hf : R - A.length < f + 1) (hm : P.hasInt A k = false) (he : P.hasEdge E (x, (k : Int)) = true) (hs : s k ≠ -1) :
    Calls Tryz.prog 221 #[.int .i64 k, .pointer (some ⟨ga, 0, none⟩), .pointer (some ⟨gp, 0, none⟩), .pointer (some ⟨gx, 0, none⟩)] w (YieldPost B G M E R s A x k w) := by
  have hn16 := hr.n16
  have hR16 := hr.r16
  have hso := hr.own k hk
  have hwfE : ∀ z ∈ E, EdgeWf z := fun z hz => by have := hr.edge z hz; exact ⟨wf_small (by omega), wf_small (by omega)⟩
  have HW : Aside (∀ z ∈ E, EdgeWf z) := hwfE
  have hnk : ¬ (k : Int) ∈ A := fun h => by rw [(hasInt_iff _ _).2 h] at hm; cases hm
  have hed : (x, (k : Int)) ∈ E := (hasEdge_iff _ _).1 he
  have hA1 : (A ++ [(k : Int)]).Nodup := nodup_snoc hA hnk
  have hA1r : ∀ a ∈ A ++ [(k : Int)], 0 ≤ a ∧ a < (R : Int) := by
    intro a ha
    rcases List.mem_append.1 ha with ha | ha
    · exact hAr a ha
    · simp at ha; subst ha; omega
  have hlen := pigeon R _ hA1 hA1r
  simp at hlen
  have hwf := wf_small (n := (k : Int)) (by omega)
  have HA1 : Aside ((A ++ [(k : Int)]).Nodup ∧ ∀ a ∈ A ++ [(k : Int)], 0 ≤ a ∧ a < (R : Int)) := ⟨hA1, hA1r⟩
  have HED : Aside ((x, (k : Int)) ∈ E) := hed
  have HNK : Aside (¬ (k : Int) ∈ A) := hnk
  clear hA1 hA1r hed hnk hwfE hr hA hAr
  have ka := hfn.a0
  have kx := hfn.x0
  have kp0 := hfn.p0
  have kp1 := hfn.p1
  have kp2 := hfn.p2
  go_enter Tryz.func221, Tryz.ntmps221
  go_wp2_with fail
  refine (marksHas_any M A k _ hst.asked (by omega)).mono ?_
  rintro e w1 ⟨rfl, hb1⟩
  rw [hm]
  have q0 := cellIn hb1 kp0
  have q1 := cellIn hb1 kp1
  have q2 := cellIn hb1 kp2
  have qx := cellIn hb1 kx
  go_wp2_with fail
  refine (graphHas_any B E n R x k _ (set_below hst.edges hb1) HW.out (by omega) (by omega)).mono ?_
  rintro e w2 ⟨rfl, hb2⟩
  rw [he]
  have hst2 := hst.below (bvia hb1 hb2)
  have hfn2 := hfn.mut (.ofBelow (bvia hb1 hb2))
  have hm2 : Mut G M w w2 := .ofBelow (bvia hb1 hb2)
  have t0 := hfn2.a0
  clear q0 q1 q2 qx ka kx kp0 kp1 kp2 hst hfn hb1 hb2 hm he
  go_wp2_with (at_mapUpdate; refine wpList_mapUpdate_own _ rfl _ _ _ 202 rfl 3 233 Tryz.lawI Tryz.underlying202 _ M A.length _ rfl hst2.asked (by simp only [maxLen]; omega) _ _ (P.litI k) rfl rfl (keyOf_int_mk Tryz.underlying3 hwf) _ [] unitElem_mk ?_; intro w3 hown3 hgrow3)
  have hm3 : Mut G M w2 w3 := .ofGrown hgrow3
  have hst3 : PSt w3 B G M E R s (A ++ [(k : Int)]) := by
    refine ⟨hm3.map hst2.edges hst2.bg hst2.bm, hst2.owner.of_block (hgrow3.block G hst2.owner.lt (by simpa using hst2.gm)), ?_, hst2.bg, hst2.bm, hst2.gm⟩
    show World.ownsMap _ _ _ _ _ _ _
    rw [List.map_append, List.map_cons, List.map_nil, setOf_snoc, List.length_append]
    exact hown3
  have hfn3 := hfn2.mut hm3
  have hm03 := hm2.trans hm3
  have k3a := hfn3.a0
  have k3p0 := hfn3.p0
  have k3p1 := hfn3.p1
  have k3p2 := hfn3.p2
  have k3p3 := hfn3.p3
  have k3o := hst3.owner.cell hk
  have i1 : (k : Int) < (R : Int) := by omega
  have i2 : (0 : Int) ≤ (k : Int) := by omega
  clear hown3 hgrow3 hst2 hfn2 hm2 t0 hm3
  obtain ⟨y, hy⟩ : ∃ y, s k = y := ⟨_, rfl⟩
  rw [hy] at k3o hso
  have hy1 : 0 ≤ y ∧ y < (n : Int) := by omega
  have hyn : (y == -1) = false := by simp; omega
  have HY : Aside (s k = y) := hy
  have HS : Aside (s k ≠ -1) := hs
  have hfl : R - (A ++ [(k : Int)]).length < f := by simp; omega
  clear hy hs hso
  go_region_held3 (fun u => u.cell? ⟨gp, 0, none⟩ = some (.int .i64 n) ∧ u.cell? ⟨gp, 1, none⟩ = some (.int .i64 R) ∧ u.cell? ⟨gp, 2, none⟩ = some (.map (some B)) ∧ u.cell? ⟨gp, 3, none⟩ = some (.slice (some ⟨G, 0, none⟩) R R) ∧ u.cell? ⟨G, k, none⟩ = some (.int .i64 y) ∧ u.cell? ⟨ga, 0, none⟩ = some (.map (some M)))
    (first
      | exact ⟨j0, j1, j2, j3, jo, ja⟩
      | go_keep)
    (first
      | (go_at_call 177; refine (ih.out (A ++ [(k : Int)]) y _ hfl HA1.out.1 HA1.out.2 hy1.1 hy1.2 hst3.drew).mono ?_; rintro e w4 ⟨b, A', s', rfl, hst4, hm4, hno, hyes⟩; have hfn4 := hfn3.mut ((Mut.drew G M w3).trans hm4); have j0 := hfn4.p0; have j1 := hfn4.p1; have j2 := hfn4.p2; have j3 := hfn4.p3; have ja := hfn4.a0; have hs4 : s' k = y := (by cases b with | false => rw [(hno rfl).1]; exact HY.out | true => obtain ⟨p, e1, e2⟩ := hyes rfl; rw [e1, shift_off _ _ _ _ (fun h => (e2.fresh k h).2 (by simp))]; exact HY.out); have jo := hst4.owner.cell hk; rw [hs4] at jo))
  all_goals (
    have HNO : Aside (b = false → s' = s ∧ Dead E R s (A ++ [(k : Int)]) A' ∧ ∀ q : Int, (y, q) ∈ E → q ∈ A') := hno
    have HYES : Aside (b = true → ∃ p, s' = P.shift s y p ∧ Path E R s (A ++ [(k : Int)]) y p) := hyes
    clear hno hyes
    go_wp2
    go_ret
    refine ⟨b, A', s', rfl, hst4, hm03.trans ((Mut.drew G M w3).trans hm4), fun hb => ?_, fun hb => ?_⟩
    · obtain ⟨h1, h2, h3⟩ := HNO.out hb
      have := yield_no HS.out h2 (by rw [HY.out]; exact h3)
      exact ⟨h1, this.1, fun _ => this.2⟩
    · obtain ⟨p, h1, h2⟩ := HYES.out hb
      exact ⟨p, by rw [HY.out]; exact h1, (yield_yes HS.out hk HNK.out HED.out (by rw [HY.out]; exact h2)).1⟩)

set_option maxHeartbeats 4000000 in
theorem yields_any (n R B G M : Nat) (E : List Edge) (s : Nat → Int) (hr : Right n R E s) (A : List Int) (x : Int) (ga gp gx k : Nat) (w : World) (hA : A.Nodup) (hAr : ∀ a ∈ A, 0 ≤ a ∧ a < (R : Int)) (hx0 : 0 ≤ x) (hxn : x < (n : Int)) (hk : k < R)
    (hst : PSt w B G M E R s A) (hfn : FnAt w ga gp gx n R B G M x) (f : Nat) (ih : Hid (FindOk n R B G M E s f)) (hf : R - A.length < f + 1) :
    Calls Tryz.prog 221 #[.int .i64 k, .pointer (some ⟨ga, 0, none⟩), .pointer (some ⟨gp, 0, none⟩), .pointer (some ⟨gx, 0, none⟩)] w (YieldPost B G M E R s A x k w) := by
  cases hm : P.hasInt A k
  · cases he : P.hasEdge E (x, (k : Int))
    · exact yields_far n R B G M E s hr A x ga gp gx k w hA hAr hx0 hxn hk hst hfn hm he
    · by_cases hs : s k = -1
      · exact yields_free n R B G M E s hr A x ga gp gx k w hA hAr hx0 hxn hk hst hfn hm he hs
      · exact yields_more n R B G M E s hr A x ga gp gx k w hA hAr hx0 hxn hk hst hfn f ih hf hm he hs
  · exact yields_met n R B G M E s hr A x ga gp gx k w hA hAr hx0 hxn hk hst hfn hm

end Go.Proofs.YtlamhfbdeinkkaeGreat.Ma
/- The walk of find. -/
namespace Go.Proofs.YtlamhfbdeinkkaeGreat.Ma
open Go.RowKit Go.Maps Go.WideMaps
set_option linter.unusedSimpArgs false
set_option linter.unusedVariables false

theorem sub_len : ∀ (A A' : List Int), A.Nodup → (∀ a ∈ A, a ∈ A') → A.length ≤ A'.length := by
  intro A
  induction A with
  | nil => intro A' _ _; simp
  | cons a A ih =>
    intro A' hn hs
    obtain ⟨h1, h2⟩ := List.nodup_cons.1 hn
    have ha : a ∈ A' := hs a (by simp)
    have := ih (A'.erase a) h2 (fun b hb => by
      have hne : b ≠ a := fun e => h1 (e ▸ hb)
      exact (List.mem_erase_of_ne hne).2 (hs b (by simp [hb])))
    rw [List.length_erase_of_mem ha] at this
    have : 0 < A'.length := List.length_pos_of_mem ha
    simp only [List.length_cons]
    omega

/-- Ahead of the k-th call of the literal: what was asked is dead, and all that the left one may have of those ahead was asked. -/
def FindInv (B G M : Nat) (E : List Edge) (n R : Nat) (s : Nat → Int) (A : List Int) (x : Int) (ga gp gx : Nat) (w : World) (k : Nat) (wx : World) : Prop :=
  ∃ A', PSt wx B G M E R s A' ∧ Mut G M w wx ∧ FnAt wx ga gp gx n R B G M x ∧ Dead E R s A A' ∧ ∀ q : Nat, q < k → (x, (q : Int)) ∈ E → (q : Int) ∈ A'
def FindYes (B G M : Nat) (E : List Edge) (n R : Nat) (s : Nat → Int) (A : List Int) (x : Int) (ga gp gx : Nat) (w : World) (k : Nat) (wx : World) : Prop :=
  ∃ A' p, PSt wx B G M E R (P.shift s (s k) p) A' ∧ Mut G M w wx ∧ FnAt wx ga gp gx n R B G M x ∧ Path E R s A x (k :: p)

set_option maxHeartbeats 4000000 in
theorem find_step (n R B G M : Nat) (E : List Edge) (s : Nat → Int) (hr : Right n R E s) (f : Nat) (ih : Hid (FindOk n R B G M E s f)) : FindOk n R B G M E s (f + 1) := by
  intro A x w hf hA hAr hx0 hxn hst
  have hR16 := hr.r16
  have HR : Aside (Right n R E s) := hr
  have HAr : Aside (A.Nodup ∧ ∀ a ∈ A, 0 ≤ a ∧ a < (R : Int)) := ⟨hA, hAr⟩
  clear hA hAr hr
  have hGl := hst.owner.lt
  have hMl := hst.asked.lt
  go_enter Tryz.func177, Tryz.ntmps177
  go_wp2_with fail
  have hfn0 : FnAt (((w.alloc (.cells #[.int .i64 n, .int .i64 R, .map (some B), .slice (some ⟨G, 0, none⟩) R R] 199)).alloc (.cells #[.int .i64 x] 3)).alloc (.cells #[.map (some M)] 202)) (w.heap.size + 1 + 1) w.heap.size (w.heap.size + 1) n R B G M x :=
    ⟨by go_simp, by go_simp, by go_simp, by go_simp, by go_simp, by go_simp, by omega, by omega, by omega, by omega, by omega, by omega⟩
  have h0 : Hid (FindInv B G M E n R s A x (w.heap.size + 1 + 1) w.heap.size (w.heap.size + 1) w 0 (((w.alloc (.cells #[.int .i64 n, .int .i64 R, .map (some B), .slice (some ⟨G, 0, none⟩) R R] 199)).alloc (.cells #[.int .i64 x] 3)).alloc (.cells #[.map (some M)] 202))) :=
    ⟨A, hst.below (by go_grown), .ofBelow (by go_grown), hfn0, .refl HAr.out.1 HAr.out.2, fun q h => by omega⟩
  refine (first_inv R 221 #[.pointer (some ⟨w.heap.size + 1 + 1, 0, none⟩), .pointer (some ⟨w.heap.size, 0, none⟩), .pointer (some ⟨w.heap.size + 1, 0, none⟩)] (FindInv B G M E n R s A x (w.heap.size + 1 + 1) w.heap.size (w.heap.size + 1) w) (FindYes B G M E n R s A x (w.heap.size + 1 + 1) w.heap.size (w.heap.size + 1) w) _ (by omega) h0 (fun args wx => by go_simp) ?_).mono ?_
  · intro k wx hk ⟨A', hst', hm', hfn', hD, hq⟩
    rw [arr4]
    have hln := sub_len A A' HAr.out.1 hD.sub
    refine (yields_any n R B G M E s HR.out A' x _ _ _ k wx hD.nodup hD.rng hx0 hxn hk hst' hfn' f ih (by omega)).mono ?_
    rintro e w2 ⟨b, A2, s2, rfl, hst2, hm2, hno, hyes⟩
    cases b with
    | false =>
      obtain ⟨rfl, hD2, hk2⟩ := hno rfl
      refine .inl ⟨rfl, A2, hst2, hm'.trans hm2, hfn'.mut hm2, hD.trans hD2, fun q hqk he => ?_⟩
      by_cases e : q < k
      · exact hD2.sub _ (hq q e he)
      · obtain rfl : q = k := by omega
        exact hk2 he
    | true =>
      obtain ⟨p, rfl, hp⟩ := hyes rfl
      exact .inr ⟨rfl, A2, p, hst2, hm'.trans hm2, hfn'.mut hm2, hp.alt, hp.nodup, fun r hr => ⟨(hp.fresh r hr).1, fun h => (hp.fresh r hr).2 (hD.sub _ h)⟩⟩
  · clear h0 hfn0
    rintro e w4 (⟨rfl, A', hst', hm', hfn', hD, hq⟩ | ⟨k, hk, rfl, A', p, hst', hm', hfn', hp⟩)
    · have HQ : Aside (Dead E R s A A' ∧ ∀ q : Nat, q < R → (x, (q : Int)) ∈ E → (q : Int) ∈ A') := ⟨hD, hq⟩
      clear hD hq
      have c1 := hfn'.p1
      go_wp2
      go_ret
      refine ⟨false, A', s, rfl, hst', hm', fun _ => ⟨rfl, HQ.out.1, fun q hq => ?_⟩, fun h => by cases h⟩
      have h1 := HR.out.edge _ hq
      simp only at h1
      obtain ⟨Q, rfl⟩ : ∃ Q : Nat, q = Q := ⟨q.toNat, by omega⟩
      exact HQ.out.2 Q (by omega) hq
    · have HP : Aside (Path E R s A x (k :: p)) := hp
      clear hp
      have c1 := hfn'.p1
      have c3 := hfn'.p3
      have cx := hfn'.x0
      have hce := hst'.owner.cell hk
      have hfr := hst'.owner.frozen k
      have hne : ((k : Int) == (R : Int)) = false := by rw [beq_eq_false_iff_ne]; omega
      have i1 : (k : Int) < (R : Int) := by omega
      have i2 : (0 : Int) ≤ (k : Int) := by omega
      go_wp2
      go_ret
      refine ⟨true, A', P.shift s x (k :: p), rfl, ?_, hm'.trans .ofSet, (fun h => by cases h), fun _ => ⟨k :: p, rfl, HP.out⟩⟩
      refine ⟨(Mut.ofSet (G := G) (M := M)).map hst'.edges hst'.bg hst'.bm, (hst'.owner.set k _).congr (fun r hr => ?_), ?_, hst'.bg, hst'.bm, hst'.gm⟩
      · show (if r = k then _ else _) = Value.int .i64 (if r = k then x else P.shift s (s k) p r)
        split <;> rfl
      · obtain ⟨es, clock, h1, h2, h3, h4⟩ := hst'.asked
        exact ⟨es, clock, (Go.Deep.blk_setCell_other _ _ _ _ (fun e => hst'.gm e.symm)).trans h1, h2, h3, h4⟩

theorem find_ok (n R B G M : Nat) (E : List Edge) (s : Nat → Int) (hr : Right n R E s) : ∀ f, FindOk n R B G M E s f := by
  intro f
  induction f with
  | zero => intro A x w hf; omega
  | succ f ih => exact find_step n R B G M E s hr f ih

theorem find_any (n R B G M : Nat) (E : List Edge) (s : Nat → Int) (hr : Right n R E s) (x : Int) (w : World) (hx0 : 0 ≤ x) (hxn : x < (n : Int)) (hst : PSt w B G M E R s []) :
    Calls Tryz.prog 177 #[.agg #[.int .i64 n, .int .i64 R, .map (some B), .slice (some ⟨G, 0, none⟩) R R], .int .i64 x, .map (some M)] w (FindPost B G M E R s [] x w) :=
  find_ok n R B G M E s hr (R + 1) [] x w (by simp) (by simp) (by simp) hx0 hxn hst

end Go.Proofs.YtlamhfbdeinkkaeGreat.Ma
