/- The walk of find's function literal where the right one has an owner; the walk of find. -/
import Derived.Test.YtcifdkggigfnlabMatE
namespace Go.Proofs.Ytcifdkggigfnlab
open Go.RowKit Go.Maps Go.WideMaps
set_option linter.unusedSimpArgs false
set_option linter.unusedVariables false

theorem yield_no {E : List Edge} {R : Nat} {s : Nat → Int} {A A' : List Int} {k : Nat} (hs : s k ≠ -1) (hD : Dead E R s (A ++ [(k : Int)]) A') (hm : ∀ q : Int, (s k, q) ∈ E → q ∈ A') : Dead E R s A A' ∧ (k : Int) ∈ A' := by
  have hkk : (k : Int) ∈ A' := hD.sub _ (by simp)
  refine ⟨⟨fun a ha => hD.sub a (by simp [ha]), hD.nodup, hD.rng, fun r hr hn => ?_⟩, hkk⟩
  by_cases e : r = k
  · subst e
    exact ⟨hs, hm⟩
  · exact hD.own r hr (by simp; exact ⟨hn, by omega⟩)
theorem yield_yes {E : List Edge} {R : Nat} {s : Nat → Int} {A : List Int} {k : Nat} {x : Int} {p : List Nat} (hs : s k ≠ -1) (hk : k < R) (hn : ¬ (k : Int) ∈ A) (he : (x, (k : Int)) ∈ E) (hp : Path E R s (A ++ [(k : Int)]) (s k) p) : Path E R s A x (k :: p) ∧ k ∉ p := by
  have hkp : k ∉ p := fun h => (hp.fresh k h).2 (by simp)
  refine ⟨⟨⟨he, .inr ⟨hs, hp.alt⟩⟩, List.nodup_cons.2 ⟨hkp, hp.nodup⟩, fun r hr => ?_⟩, hkp⟩
  rcases List.mem_cons.1 hr with rfl | hr
  · exact ⟨hk, hn⟩
  · have := hp.fresh r hr
    exact ⟨this.1, fun h => this.2 (by simp [h])⟩

set_option maxHeartbeats 4000000 in
theorem yields_more (n R B G M : Nat) (E : List Edge) (s : Nat → Int) (hr : Right n R E s) (A : List Int) (x : Int) (ga gp gx k : Nat) (w : World) (hA : A.Nodup) (hAr : ∀ a ∈ A, 0 ≤ a ∧ a < (R : Int)) (hx0 : 0 ≤ x) (hxn : x < (n : Int)) (hk : k < R)
    (hst : PSt w B G M E R s A) (hfn : FnAt w ga gp gx n R B G M x) (f : Nat) (ih : Hid (FindOk n R B G M E s f)) (hf : R - A.length < f + 1) (hm : P.hasInt A k = false) (he : P.hasEdge E (x, (k : Int)) = true) (hs : s k ≠ -1) :
    Calls Try.prog 54 #[.int .i64 k, .pointer (some ⟨ga, 0, none⟩), .pointer (some ⟨gp, 0, none⟩), .pointer (some ⟨gx, 0, none⟩)] w (YieldPost B G M E R s A x k w) := by
  have hn16 := hr.n16
  have hR16 := hr.r16
  have hso := hr.own k hk
  have hwfE : ∀ z ∈ E, EdgeWf z := fun z hz => by have := hr.edge z hz; exact ⟨wf_small (by omega), wf_small (by omega)⟩
  have HW : Aside (∀ z ∈ E, EdgeWf z) := hwfE
  have hnk : ¬ (k : Int) ∈ A := fun h => by rw [(hasInt_iff _ _).2 h] at hm; cases hm
  have hed : (x, (k : Int)) ∈ E := (hasEdge_iff _ _).1 he
  have hA1 : (A ++ [(k : Int)]).Nodup := nodup_snoc hA hnk
  have hA1r : ∀ a ∈ A ++ [(k : Int)], 0 ≤ a ∧ a < (R : Int) := by
    intro a ha
    rcases List.mem_append.1 ha with ha | ha
    · exact hAr a ha
    · simp at ha; subst ha; omega
  have hlen := pigeon R _ hA1 hA1r
  simp at hlen
  have hwf := wf_small (n := (k : Int)) (by omega)
  have HA1 : Aside ((A ++ [(k : Int)]).Nodup ∧ ∀ a ∈ A ++ [(k : Int)], 0 ≤ a ∧ a < (R : Int)) := ⟨hA1, hA1r⟩
  have HED : Aside ((x, (k : Int)) ∈ E) := hed
  have HNK : Aside (¬ (k : Int) ∈ A) := hnk
  clear hA1 hA1r hed hnk hwfE hr hA hAr
  have ka := hfn.a0
  have kx := hfn.x0
  have kp0 := hfn.p0
  have kp1 := hfn.p1
  have kp2 := hfn.p2
  go_enter Try.func54, Try.ntmps54
  go_wp2_with fail
  refine (marksHas_any M A k _ hst.asked (by omega)).mono ?_
  rintro e w1 ⟨rfl, hb1⟩
  rw [hm]
  have q0 := cellIn hb1 kp0
  have q1 := cellIn hb1 kp1
  have q2 := cellIn hb1 kp2
  have qx := cellIn hb1 kx
  go_wp2_with fail
  refine (graphHas_any B E n R x k _ (set_below hst.edges hb1) HW.out (by omega) (by omega)).mono ?_
  rintro e w2 ⟨rfl, hb2⟩
  rw [he]
  have hst2 := hst.below (bvia hb1 hb2)
  have hfn2 := hfn.mut (.ofBelow (bvia hb1 hb2))
  have hm2 : Mut G M w w2 := .ofBelow (bvia hb1 hb2)
  have t0 := hfn2.a0
  clear q0 q1 q2 qx ka kx kp0 kp1 kp2 hst hfn hb1 hb2 hm he
  go_wp2_with (at_mapUpdate; refine wpList_mapUpdate_own _ rfl _ _ _ 74 rfl 3 81 Try.lawI Try.underlying74 _ M A.length _ rfl hst2.asked (by simp only [maxLen]; omega) _ _ (P.litI k) rfl rfl (keyOf_int_mk Try.underlying3 hwf) _ [] unitElem_mk ?_; intro w3 hown3 hgrow3)
  have hm3 : Mut G M w2 w3 := .ofGrown hgrow3
  have hst3 : PSt w3 B G M E R s (A ++ [(k : Int)]) := by
    refine ⟨hm3.map hst2.edges hst2.bg hst2.bm, hst2.owner.of_block (hgrow3.block G hst2.owner.lt (by simpa using hst2.gm)), ?_, hst2.bg, hst2.bm, hst2.gm⟩
    show World.ownsMap _ _ _ _ _ _ _
    rw [List.map_append, List.map_cons, List.map_nil, setOf_snoc, List.length_append]
    exact hown3
  have hfn3 := hfn2.mut hm3
  have hm03 := hm2.trans hm3
  have k3a := hfn3.a0
  have k3p0 := hfn3.p0
  have k3p1 := hfn3.p1
  have k3p2 := hfn3.p2
  have k3p3 := hfn3.p3
  have k3o := hst3.owner.cell hk
  have i1 : (k : Int) < (R : Int) := by omega
  have i2 : (0 : Int) ≤ (k : Int) := by omega
  clear hown3 hgrow3 hst2 hfn2 hm2 t0 hm3
  obtain ⟨y, hy⟩ : ∃ y, s k = y := ⟨_, rfl⟩
  rw [hy] at k3o hso
  have hy1 : 0 ≤ y ∧ y < (n : Int) := by omega
  have hyn : (y == -1) = false := by simp; omega
  have HY : Aside (s k = y) := hy
  have HS : Aside (s k ≠ -1) := hs
  have hfl : R - (A ++ [(k : Int)]).length < f := by simp; omega
  clear hy hs hso
  go_region_held3 (fun u => u.cell? ⟨gp, 0, none⟩ = some (.int .i64 n) ∧ u.cell? ⟨gp, 1, none⟩ = some (.int .i64 R) ∧ u.cell? ⟨gp, 2, none⟩ = some (.map (some B)) ∧ u.cell? ⟨gp, 3, none⟩ = some (.slice (some ⟨G, 0, none⟩) R R) ∧ u.cell? ⟨G, k, none⟩ = some (.int .i64 y) ∧ u.cell? ⟨ga, 0, none⟩ = some (.map (some M)))
    (first
      | exact ⟨j0, j1, j2, j3, jo, ja⟩
      | go_keep)
    (first
      | (go_at_call 46; refine (ih.out (A ++ [(k : Int)]) y _ hfl HA1.out.1 HA1.out.2 hy1.1 hy1.2 hst3.drew).mono ?_; rintro e w4 ⟨b, A', s', rfl, hst4, hm4, hno, hyes⟩; have hfn4 := hfn3.mut ((Mut.drew G M w3).trans hm4); have j0 := hfn4.p0; have j1 := hfn4.p1; have j2 := hfn4.p2; have j3 := hfn4.p3; have ja := hfn4.a0; have hs4 : s' k = y := (by cases b with | false => rw [(hno rfl).1]; exact HY.out | true => obtain ⟨p, e1, e2⟩ := hyes rfl; rw [e1, shift_off _ _ _ _ (fun h => (e2.fresh k h).2 (by simp))]; exact HY.out); have jo := hst4.owner.cell hk; rw [hs4] at jo))
  all_goals (
    have HNO : Aside (b = false → s' = s ∧ Dead E R s (A ++ [(k : Int)]) A' ∧ ∀ q : Int, (y, q) ∈ E → q ∈ A') := hno
    have HYES : Aside (b = true → ∃ p, s' = P.shift s y p ∧ Path E R s (A ++ [(k : Int)]) y p) := hyes
    clear hno hyes
    go_wp2
    go_ret
    refine ⟨b, A', s', rfl, hst4, hm03.trans ((Mut.drew G M w3).trans hm4), fun hb => ?_, fun hb => ?_⟩
    · obtain ⟨h1, h2, h3⟩ := HNO.out hb
      have := yield_no HS.out h2 (by rw [HY.out]; exact h3)
      exact ⟨h1, this.1, fun _ => this.2⟩
    · obtain ⟨p, h1, h2⟩ := HYES.out hb
      exact ⟨p, by rw [HY.out]; exact h1, (yield_yes HS.out hk HNK.out HED.out (by rw [HY.out]; exact h2)).1⟩)

set_option maxHeartbeats 4000000 in
theorem yields_any (n R B G M : Nat) (E : List Edge) (s : Nat → Int) (hr : Right n R E s) (A : List Int) (x : Int) (ga gp gx k : Nat) (w : World) (hA : A.Nodup) (hAr : ∀ a ∈ A, 0 ≤ a ∧ a < (R : Int)) (hx0 : 0 ≤ x) (hxn : x < (n : Int)) (hk : k < R)
    (hst : PSt w B G M E R s A) (hfn : FnAt w ga gp gx n R B G M x) (f : Nat) (ih : Hid (FindOk n R B G M E s f)) (hf : R - A.length < f + 1) :
    Calls Try.prog 54 #[.int .i64 k, .pointer (some ⟨ga, 0, none⟩), .pointer (some ⟨gp, 0, none⟩), .pointer (some ⟨gx, 0, none⟩)] w (YieldPost B G M E R s A x k w) := by
  cases hm : P.hasInt A k
  · cases he : P.hasEdge E (x, (k : Int))
    · exact yields_far n R B G M E s hr A x ga gp gx k w hA hAr hx0 hxn hk hst hfn hm he
    · by_cases hs : s k = -1
      · exact yields_free n R B G M E s hr A x ga gp gx k w hA hAr hx0 hxn hk hst hfn hm he hs
      · exact yields_more n R B G M E s hr A x ga gp gx k w hA hAr hx0 hxn hk hst hfn f ih hf hm he hs
  · exact yields_met n R B G M E s hr A x ga gp gx k w hA hAr hx0 hxn hk hst hfn hm

end Go.Proofs.Ytcifdkggigfnlab
