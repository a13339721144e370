/- The walk of the law ShipMore. -/
import Derived.Test.YtnadhpemmehedaaShipL
import Derived.Test.YtnadhpemmehedaaShipI
namespace Go.Proofs.Ytnadhpemmehedaa
open Go.RowKit Go.Maps Go.WideMaps
set_option linter.unusedSimpArgs false
set_option linter.unusedVariables false
set_option linter.unnecessarySimpa false

theorem Try.infoCat : (Try.prog.info? 49).map (fun i => (i.zero, i.size, i.bytes)) = some (some (.agg #[.string ByteArray.empty, .slice none 0 0]), 2, 40) := by kernel_rfl

theorem heap_new2 (w : World) (a b : Obj) : ((w.alloc a).alloc b).heap[w.heap.size + 1]? = some b := by
  have := heap_alloc_new (w.alloc a) b
  simpa using this
theorem heap_old2 (w : World) (a b : Obj) : ((w.alloc a).alloc b).heap[w.heap.size]? = some a := (Below.heap_alloc _ _ _ (by simp)).trans (heap_alloc_new w a)

theorem box2 {w2 u' : World} {v0 v1 v2 v3 : Value} {t : TypeId} {o2 : Obj} (h : Below (w2.heap.size + 2) ((w2.alloc (.cells #[v0, v1, v2, v3] t)).alloc o2) u') :
    u'.heap[w2.heap.size]? = some (.cells #[v0, v1, v2, v3] t (0, 0)) ∧ u'.cell? ⟨w2.heap.size, 2, none⟩ = some v2 ∧ u'.frozen? ⟨w2.heap.size, 2, none⟩ = false := by
  have h1 : u'.heap[w2.heap.size]? = some (.cells #[v0, v1, v2, v3] t (0, 0)) := by
    rw [h.block _ (by omega), Below.heap_alloc _ _ _ (by simp)]
    exact heap_alloc_new w2 _
  exact ⟨h1, by rw [cell_of_row u' _ _ _ _ _ h1]; rfl, frozen_of_row u' _ _ _ _ h1⟩

theorem more_end {w w4 u2 : World} {B1 H cap g2 cap2 : Nat} {cao bao hao : Option Addr} {hcap cc bc : Nat} {cs : List Cat} {bs : List Cab} {c : Nat} {other legs souls : Int} {q : Nat → List Value} {nm : ByteArray} {hl : List Int} (hs : ShipAt w cao bao cc bc cs bs) (hc : c < cs.length) (hcs : cs[c] = (nm, hl))
    (hq : ∀ i (hi : i < cs.length), RCat w cs[i] (q i) ∧ (q i).length = 2) (hqg : ∀ i j, i < cs.length → j < 2 → ((List.range cs.length).map q).flatten[i * 2 + j]? = (q i)[j]?) (hcl : cs.length ≤ cap) (hcm : cap ≤ maxLen) (hB4 : Below w.heap.size w w4) (hwH : w.heap.size ≤ H) (hH : H < w4.heap.size) (hBH : B1 ≠ H)
    (hR : ∀ j x, ((List.range cs.length).map q).flatten[j]? = some x → w4.cell? ((⟨H, 0, none⟩ : Addr).add j) = some x) (bW2 : Below w4.heap.size w4 u2) (hg2 : w4.heap.size ≤ g2) (own2 : OwnI u2 w4.heap.size (.slice (some ⟨g2, 0, none⟩) (hl ++ [other]).length cap2) (hl ++ [other])) (z0 : w4.cell? ⟨H, c * 2 + 1, none⟩ = some (.slice hao hl.length hcap))
    (m0 : w4.cell? ⟨B1, 0, none⟩ = some (.int .i64 legs)) (m1 : w4.cell? ⟨B1, 1, none⟩ = some (.int .i64 souls)) (m2 : w4.cell? ⟨B1, 2, none⟩ = some (.slice (some ⟨H, 0, none⟩) cs.length cap)) (m3 : w4.cell? ⟨B1, 3, none⟩ = some (.slice bao bs.length bc)) :
    Below w.heap.size w (u2.setCell ⟨H, c * 2 + 1, none⟩ (.slice (some ⟨g2, 0, none⟩) (hl.length + 1) cap2)) ∧ ShipAt (u2.setCell ⟨H, c * 2 + 1, none⟩ (.slice (some ⟨g2, 0, none⟩) (hl.length + 1) cap2)) (some ⟨H, 0, none⟩) bao cap bc (P.more cs c other) bs ∧
    (u2.setCell ⟨H, c * 2 + 1, none⟩ (.slice (some ⟨g2, 0, none⟩) (hl.length + 1) cap2)).cell? ⟨B1, 0, none⟩ = some (.int .i64 legs) ∧ (u2.setCell ⟨H, c * 2 + 1, none⟩ (.slice (some ⟨g2, 0, none⟩) (hl.length + 1) cap2)).cell? ⟨B1, 1, none⟩ = some (.int .i64 souls) ∧
    (u2.setCell ⟨H, c * 2 + 1, none⟩ (.slice (some ⟨g2, 0, none⟩) (hl.length + 1) cap2)).cell? ⟨B1, 2, none⟩ = some (.slice (some ⟨H, 0, none⟩) (P.more cs c other).length cap) ∧ (u2.setCell ⟨H, c * 2 + 1, none⟩ (.slice (some ⟨g2, 0, none⟩) (hl.length + 1) cap2)).cell? ⟨B1, 3, none⟩ = some (.slice bao bs.length bc) := by
  have hbF : Below w.heap.size w (u2.setCell ⟨H, c * 2 + 1, none⟩ (.slice (some ⟨g2, 0, none⟩) (hl.length + 1) cap2)) := (bvia hB4 bW2).setCell (by show w.heap.size ≤ H; omega) _
  have far : ∀ k v, w4.cell? ⟨B1, k, none⟩ = some v → (u2.setCell ⟨H, c * 2 + 1, none⟩ (.slice (some ⟨g2, 0, none⟩) (hl.length + 1) cap2)).cell? ⟨B1, k, none⟩ = some v := fun k v hv => by
    rw [World.cell?_setCell_far u2 ⟨H, c * 2 + 1, none⟩ ⟨B1, k, none⟩ _ (Ne.symm hBH)]
    exact cellIn bW2 hv
  have z1 := cellIn bW2 z0
  refine ⟨hbF, more_at (w := w) (ao2 := some ⟨g2, 0, none⟩) (cap2 := cap2) (hl := hl) hbF hs hc hcs hq hcl hcm ?_ ?_ ?_ ?_, far _ _ m0, far _ _ m1, by rw [more_len]; exact far _ _ m2, far _ _ m3⟩
  · rw [World.size_setCell]; have := bW2.size; omega
  · intro i j x hi hij hx
    have hj : j < 2 := by have := (List.getElem?_eq_some_iff.1 hx).1; rw [(hq i hi).2] at this; exact this
    have h1 := hR (i * 2 + j) x (by rw [hqg i j hi hj]; exact hx)
    rw [Go.WideShapes.add_plain] at h1
    simp only [Nat.zero_add] at h1
    have hne : (⟨H, c * 2 + 1, none⟩ : Addr) ≠ ⟨H, i * 2 + j, none⟩ := fun e => by
      have : c * 2 + 1 = i * 2 + j := congrArg Addr.off e
      omega
    rw [World.cell?_setCell_other (h := hne)]
    exact cellIn bW2 h1
  · rw [World.cell?_setCell_same (h := z1)]; simp
  · obtain ⟨ao, cp, e, h1⟩ := OwnI.at (w := u2.setCell ⟨H, c * 2 + 1, none⟩ (.slice (some ⟨g2, 0, none⟩) (hl.length + 1) cap2)) (ownsRow_setCell_other own2 (by simp [Value.ownBlock]; omega) _)
    simp only [Value.slice.injEq] at e
    obtain ⟨rfl, _, rfl⟩ := e
    exact h1

set_option maxRecDepth 100000 in
set_option maxHeartbeats 4000000 in
theorem shipMore_in (legs souls : Int) (cao bao : Option Addr) (cc bc : Nat) (cs : List Cat) (bs : List Cab) (a b : Int) (c : Nat) (other : Int) (w : World) (hs : ShipAt w cao bao cc bc cs bs) (hE : P.servesE legs souls cs bs a b = 0) (hc : c < cs.length) :
    Calls Try.prog 6 #[.agg #[.int .i64 legs, .int .i64 souls, .slice cao cs.length cc, .slice bao bs.length bc], .int .i64 a, .int .i64 b, .int .i64 c, .int .i64 other] w fun e w' => e = .returned (.bool true) ∧ Below w.heap.size w w' := by
  have H0 : Aside (P.servesE legs souls cs bs a b = 0) := hE
  have hn5 : cs.length ≤ 5 := by
    unfold P.servesE at hE
    split at hE
    · rename_i h; exact (ship_ok h).2.1
    · exact absurd hE (by assumption)
  have HG : Aside (∀ c ∈ cs, c.2.length ≤ cs.length) := by
    unfold P.servesE at hE
    split at hE
    · rename_i h; exact fun c hc => high_len ((ship_ok h).2.2.1 c hc)
    · exact absurd hE (by assumption)
  clear hE
  go_enter Try.func6, Try.ntmps6
  go_wp2_with fail
  refine (shipBegun_any _).mono ?_
  rintro e w1 ⟨rfl, hb1⟩
  have c0 : w1.cell? ⟨w.heap.size, 0, none⟩ = some (.int .i64 legs) := cellIn hb1 (by simp)
  have c1 : w1.cell? ⟨w.heap.size, 1, none⟩ = some (.int .i64 souls) := cellIn hb1 (by simp)
  have c2 : w1.cell? ⟨w.heap.size, 2, none⟩ = some (.slice cao cs.length cc) := cellIn hb1 (by simp)
  have c3 : w1.cell? ⟨w.heap.size, 3, none⟩ = some (.slice bao bs.length bc) := cellIn hb1 (by simp)
  have hw1 : Below w.heap.size w w1 := bvia (by go_grown) hb1
  clear hb1
  go_wp2_with fail
  refine (serves_any legs souls _ _ _ _ cs bs a b _ (hs.below hw1)).mono ?_
  rintro e w2 ⟨rfl, hb2⟩
  rw [H0.out]
  have d0 := cellIn hb2 c0
  have d1 := cellIn hb2 c1
  have d2 := cellIn hb2 c2
  have d3 := cellIn hb2 c3
  have hl2 : w.heap.size < w2.heap.size := World.block_lt_of_cell? w2 _ d0
  have hw2 := bvia hw1 hb2
  clear c0 c1 c2 c3 hw1 hb2
  have j1 : (c : Int) < cs.length := by omega
  have j2 : (0 : Int) ≤ c := by omega
  have f1 : decide ((c : Int) < 0) = false := decide_eq_false (by omega)
  have f2 : decide ((cs.length : Int) ≤ c) = false := decide_eq_false (by omega)
  have f3 : decide (cs.length ≤ c) = false := decide_eq_false (by omega)
  obtain ⟨cb, co, q, rfl, hcb, hq, hql, hqg, hqn⟩ := SlAt.flat hs.cats (by omega) (by omega)
  obtain ⟨⟨nm, hl⟩, hcs⟩ : ∃ x, x = cs[c] := ⟨_, rfl⟩
  obtain ⟨hao, hcap, hqc, hint, _⟩ := (hq c hc).1
  rw [← hcs] at hqc hint
  simp only at hqc hint
  have hl5 : hl.length ≤ 1000 := by
    have := HG.out cs[c] (List.getElem_mem hc)
    rw [← hcs] at this
    exact Nat.le_trans this (by omega)
  have mc : w.cell? ⟨cb, co + c * 2 + 1, none⟩ = some (.slice hao hl.length hcap) := by
    have := hqn (c * 2 + 1) (.slice hao hl.length hcap) (by rw [hqg c 1 hc (by omega), hqc]; rfl)
    rw [Go.WideShapes.add_plain] at this
    simpa [Nat.add_assoc] using this
  obtain ⟨i0, hi, hi0, hi1, hi2⟩ := info_parts Try.infoCat
  have HN : Aside (∀ (o1 o2 : Obj) j x, ((List.range cs.length).map q).flatten[j]? = some x → ((w2.alloc o1).alloc o2).cell? ((⟨cb, co, none⟩ : Addr).add j) = some x) := by
    intro o1 o2 j x hx
    have := hqn j x hx
    rw [Go.WideShapes.add_plain] at *
    exact cellIn (bvia hw2 (by go_grown)) this
  have HI : Aside (_ ∧ _ ∧ _ ∧ _) := ⟨hi, hi0, hi1, hi2⟩
  have HQ : Aside (_ ∧ _ ∧ _ ∧ _) := ⟨hql, cats_one hq, hq, hqg⟩
  have HC : Aside (cs[c] = (nm, hl) ∧ q c = _) := ⟨hcs.symm, hqc⟩
  clear hqn hi hi0 hi1 hi2 hql hq hqg hqc hcs HG
  go_wp2_with (at_builtin; refine wpList_append_fresh (by rfl) _ _ _ (by rfl) Try.underlying42 HI.out.1 HI.out.2.1 HI.out.2.2.1 HI.out.2.2.2 rfl (by decide) _ ⟨cb, co, none⟩ cs.length cc _ (by rfl) (by rfl) HQ.out.1 (HN.out _ _) HQ.out.2.1 (by omega) (by omega) (by omega) (w2.heap.size + 2) (by simp) ?_; intro cap u' hown hbu; obtain ⟨hbx, hce, hfr⟩ := box2 hbu)
  obtain ⟨w4, hw4⟩ : ∃ x, x = u'.setCell ⟨w2.heap.size, 2, none⟩ (.slice (some ⟨w2.heap.size + 2, 0, none⟩) cs.length cap) := ⟨_, rfl⟩
  rw [← hw4]
  have own4 : w4.ownsRow (w2.heap.size + 2) 49 2 (.slice (some ⟨w2.heap.size + 2, 0, none⟩) cs.length cap) cs.length ((List.range cs.length).map q).flatten := by rw [hw4]; exact ownsRow_setCell_other hown (by simp [Value.ownBlock]) _
  have hbx4 : w4.heap[w2.heap.size]? = some (.cells #[.int .i64 legs, .int .i64 souls, .slice (some ⟨w2.heap.size + 2, 0, none⟩) cs.length cap, .slice bao bs.length bc] 45 (0, 0)) := by rw [hw4]; exact heap_setCell_same u' w2.heap.size 2 _ _ _ hbx
  have hb4 : Below w2.heap.size w2 w4 := by
    rw [hw4]
    exact Below.setCell ((show Below w2.heap.size w2 ((w2.alloc _).alloc _) from by go_grown).trans ⟨hbu.os, hbu.tape, hbu.output, hbu.size, fun k hk => hbu.block k (by omega)⟩) (Nat.le_refl _) _
  have hw4s : w2.heap.size + 2 < w4.heap.size := by
    have := (own4.lt _ rfl).2
    exact this
  have hB4 : Below w.heap.size w w4 := bvia hw2 hb4
  clear hw4 hce hfr hbx hown hbu HN HI
  have m1 : w4.cell? ⟨w.heap.size, 2, none⟩ = some (.slice (some ⟨cb, co, none⟩) cs.length cc) := cellIn hb4 d2
  have m2 : w4.cell? ⟨w2.heap.size, 2, none⟩ = some (.slice (some ⟨w2.heap.size + 2, 0, none⟩) cs.length cap) := by rw [cell_of_row w4 _ _ _ _ _ hbx4]; simp
  have m0 : w4.cell? ⟨w2.heap.size, 0, none⟩ = some (.int .i64 legs) := by rw [cell_of_row w4 _ _ _ _ _ hbx4]; simp
  have m4 : w4.cell? ⟨w2.heap.size, 1, none⟩ = some (.int .i64 souls) := by rw [cell_of_row w4 _ _ _ _ _ hbx4]; simp
  have m5 : w4.cell? ⟨w2.heap.size, 3, none⟩ = some (.slice bao bs.length bc) := by rw [cell_of_row w4 _ _ _ _ _ hbx4]; simp
  have m3 := cellIn hB4 mc
  have mi := SlAt.below RInt.mono hint hB4
  have hgr := own4.cells (g := w2.heap.size + 2) rfl
  have z0 : w4.cell? ⟨w2.heap.size + 2, c * 2 + 1, none⟩ = some (.slice hao hl.length hcap) := by
    have := hgr (c * 2 + 1) (.slice hao hl.length hcap) (by rw [HQ.out.2.2.2 c 1 hc (by omega), HC.out.2]; rfl)
    rw [Go.WideShapes.add_plain] at this
    simpa using this
  have hcurr : cs.length ≤ cap ∧ cap ≤ maxLen ∧ w4.frozen? ⟨w2.heap.size + 2, c * 2 + 1, none⟩ = false := by
    rcases own4.2 with ⟨h1, _⟩ | ⟨g, cap', cur, h1, _, h3, h4, h5, _⟩
    · cases h1
    · simp only [Value.slice.injEq, Option.some.injEq, Addr.mk.injEq] at h1
      obtain ⟨⟨rfl, _⟩, _, rfl⟩ := h1
      exact ⟨h4, h5, frozen_of_row w4 _ _ _ _ h3⟩
  obtain ⟨hcl, hcm, zf⟩ := hcurr
  have HW : Aside (w4.heap.size = w4.heap.size) := rfl
  have n1 : ¬ (w2.heap.size + 2 = w.heap.size) := by omega
  have n2 : ¬ (w2.heap.size + 2 = cb) := by omega
  have HR : Aside (∀ j x, ((List.range cs.length).map q).flatten[j]? = some x → w4.cell? ((⟨w2.heap.size + 2, 0, none⟩ : Addr).add j) = some x) := hgr
  clear hgr own4 hbx4 d0 d1 d2 d3 hint mc
  go_region_held3 (fun x => x.cell? ⟨w2.heap.size, 2, none⟩ = some (.slice (some ⟨w2.heap.size + 2, 0, none⟩) cs.length cap) ∧ x.cell? ⟨w.heap.size, 2, none⟩ = some (.slice (some ⟨cb, co, none⟩) cs.length cc) ∧ x.cell? ⟨cb, co + c * 2 + 1, none⟩ = some (.slice hao hl.length hcap))
    (first
      | go_keep
      | exact ⟨cellIn bW2 m2, cellIn bW2 m1, cellIn bW2 m3⟩
      | exact ⟨cellIn bW m2, cellIn bW m1, cellIn bW m3⟩)
    (first
      | (refine step_of (by rfl) (wp_app1 (W0 := w4) _ _ (by rfl) _ hao hcap hl (by rfl) (by first | exact Nat.le_refl _ | exact Nat.le_add_right _ _) (by first | exact heap_alloc_new _ _ | exact heap_old2 _ _ _ | exact heap_new2 _ _ _) (by rfl) (SlAt.below RInt.mono mi (by go_grown)) hl5 (by go_grown) ?_); intro ao1 cap1 u1 own1 bu1 bW)
      | (refine step_of (by rfl) (wp_app2 (W0 := w4) _ _ (by rfl) _ _ hl other (by rfl) (by first | exact own1 | exact OwnI.below own1 (by go_grown)) (by rfl) (by first | simp | exact cellIn bu1 (by simp)) hl5 (by first | exact bW | exact bvia bW (by go_grown)) ?_); intro g2 cap2 u2 hg2 own2 bW2; have z1 := cellIn bW2 z0; have z2 := (bW2.frozen (p := ⟨w2.heap.size + 2, c * 2 + 1, none⟩) hw4s).trans zf))
  all_goals (
    obtain ⟨bF, sF, r0, r1, r2, r3⟩ := more_end (legs := legs) (souls := souls) (B1 := w2.heap.size) hs hc HC.out.1 HQ.out.2.2.1 HQ.out.2.2.2 hcl hcm hB4 (by omega) hw4s (by omega) HR.out bW2 hg2 own2 z0 m0 m4 m2 m5
    generalize u2.setCell ⟨w2.heap.size + 2, c * 2 + 1, none⟩ (.slice (some ⟨g2, 0, none⟩) (hl.length + 1) cap2) = F at bF sF r0 r1 r2 r3 ⊢
    clear own1 bu1 bW own2 bW2 z1 z2 m0 m1 m2 m3 m4 m5 mi z0 zf HR hs HC HQ hb4 hB4
    go_wp2_with fail
    refine (serves_any legs souls _ _ _ _ (P.more cs c other) bs a b F sF).mono ?_
    rintro e w5 ⟨rfl, hb5⟩
    have bE := bvia bF hb5
    cases hx : (P.servesE legs souls (P.more cs c other) bs a b != 0)
    · have hx' : P.servesE legs souls (P.more cs c other) bs a b = 0 := by simpa using hx
      have HB : Aside (P.servesB legs souls cs bs a b = true → P.servesB legs souls (P.more cs c other) bs a b = true) := fun h => serves_more h hx'
      rw [hx']
      clear hx hx'
      generalize P.servesB legs souls (P.more cs c other) bs a b = B2 at HB ⊢
      generalize P.servesB legs souls cs bs a b = B1 at HB ⊢
      cases B1
      · go_wp2
        go_ret
        exact ⟨rfl, bE⟩
      · obtain rfl : B2 = true := HB.out rfl
        go_wp2
        go_ret
        exact ⟨rfl, bE⟩
    · go_wp2
      go_ret
      exact ⟨rfl, bE⟩)

set_option maxRecDepth 100000 in
set_option maxHeartbeats 4000000 in
theorem shipMore_walk (legs souls : Int) (cao bao : Option Addr) (cc bc : Nat) (cs : List Cat) (bs : List Cab) (a b category other : Int) (w : World) (hs : ShipAt w cao bao cc bc cs bs) :
    Calls Try.prog 6 #[.agg #[.int .i64 legs, .int .i64 souls, .slice cao cs.length cc, .slice bao bs.length bc], .int .i64 a, .int .i64 b, .int .i64 category, .int .i64 other] w fun e w' => e = .returned (.bool true) ∧ Below w.heap.size w w' := by
  cases hE : (P.servesE legs souls cs bs a b != 0)
  · have hE' : P.servesE legs souls cs bs a b = 0 := by simpa using hE
    by_cases hcat : 0 ≤ category ∧ category < cs.length
    · obtain ⟨c, rfl⟩ : ∃ c : Nat, category = c := ⟨category.toNat, by omega⟩
      exact shipMore_in legs souls cao bao cc bc cs bs a b c other w hs hE' (by omega)
    · have H0 : Aside (P.servesE legs souls cs bs a b = 0) := hE'
      have HX : Aside (¬ (0 ≤ category ∧ category < cs.length)) := hcat
      clear hE hE' hcat
      go_enter Try.func6, Try.ntmps6
      go_wp2_with fail
      refine (shipBegun_any _).mono ?_
      rintro e w1 ⟨rfl, hb1⟩
      have c0 : w1.cell? ⟨w.heap.size, 0, none⟩ = some (.int .i64 legs) := cellIn hb1 (by simp)
      have c1 : w1.cell? ⟨w.heap.size, 1, none⟩ = some (.int .i64 souls) := cellIn hb1 (by simp)
      have c2 : w1.cell? ⟨w.heap.size, 2, none⟩ = some (.slice cao cs.length cc) := cellIn hb1 (by simp)
      have c3 : w1.cell? ⟨w.heap.size, 3, none⟩ = some (.slice bao bs.length bc) := cellIn hb1 (by simp)
      have hw1 : Below w.heap.size w w1 := bvia (by go_grown) hb1
      clear hb1
      go_wp2_with fail
      refine (serves_any legs souls _ _ _ _ cs bs a b _ (hs.below hw1)).mono ?_
      rintro e w2 ⟨rfl, hb2⟩
      rw [H0.out]
      have d0 := cellIn hb2 c0
      have d1 := cellIn hb2 c1
      have d2 := cellIn hb2 c2
      have d3 := cellIn hb2 c3
      have hw2 := bvia hw1 hb2
      clear c0 c1 c2 c3 hw1 hb2
      by_cases h0 : category < 0
      · have f0 : decide (category < 0) = true := decide_eq_true h0
        go_wp2
        go_ret
        exact ⟨rfl, hw2⟩
      · have f0 : decide (category < 0) = false := decide_eq_false h0
        have f1 : (cs.length : Int) ≤ category := by have := HX.out; omega
        go_wp2
        go_ret
        exact ⟨rfl, hw2⟩
  · have HB : Aside (P.servesB legs souls cs bs a b = false) := by
      show _ = _
      rw [P.servesB]
      simp at hE
      simp [hE]
    go_enter Try.func6, Try.ntmps6
    go_wp2_with fail
    refine (shipBegun_any _).mono ?_
    rintro e w1 ⟨rfl, hb1⟩
    have c0 : w1.cell? ⟨w.heap.size, 0, none⟩ = some (.int .i64 legs) := cellIn hb1 (by simp)
    have c1 : w1.cell? ⟨w.heap.size, 1, none⟩ = some (.int .i64 souls) := cellIn hb1 (by simp)
    have c2 : w1.cell? ⟨w.heap.size, 2, none⟩ = some (.slice cao cs.length cc) := cellIn hb1 (by simp)
    have c3 : w1.cell? ⟨w.heap.size, 3, none⟩ = some (.slice bao bs.length bc) := cellIn hb1 (by simp)
    have hw1 : Below w.heap.size w w1 := bvia (by go_grown) hb1
    clear hb1
    go_wp2_with fail
    refine (serves_any legs souls _ _ _ _ cs bs a b _ (hs.below hw1)).mono ?_
    rintro e w2 ⟨rfl, hb2⟩
    rw [HB.out]
    have hw2 := bvia hw1 hb2
    go_wp2
    go_ret
    exact ⟨rfl, hw2⟩

end Go.Proofs.Ytnadhpemmehedaa
