/- What the program's Move answers is what the document's does: the room of what comes, told alike. -/
import Derived.Test.YtlamhfbdeinkkaeGreatChLo
import Derived.Test.YtlamhfbdeinkkaeGreatChHo
import Derived.Test.YtlamhfbdeinkkaeGreatChEo
import Derived.Test.YtlamhfbdeinkkaeGreatTwAo
import Derived.Test.YtlamhfbdeinkkaeGreatCiAo
namespace Go.Proofs.YtlamhfbdeinkkaeGreat.St
open Go.RowKit Bk
set_option linter.unusedSimpArgs false
set_option linter.unusedVariables false
set_option maxRecDepth 10000

theorem cab_low {s : Vsl} {b : Bkg} (h : P.bkE s b = 0) : b.cabin = -1 ∨ 0 ≤ b.cabin := by
  obtain ⟨_, _, _, _, _, hk, hkd, _⟩ := bk_ok h
  rcases hkd with h1 | h2
  · have := kind_named hk h1
    simp [P.cabB, P.btw] at this
    omega
  · rcases (kind_prom hk h2).2.2.2.2 with e | ⟨e, _⟩
    · exact .inl e
    · simp [P.cabB, P.btw] at e
      omega
theorem mv_mov {x : Sail} {b : Bkg} {c : Int} (h0 : P.shp x.s = 0) (hb : P.bkE x.s b = 0) : P.mvE x c b = P.movE x b c := by
  rw [P.mvE, P.movE, P.checkE, if_pos h0]
  rcases cab_low hb with e | e
  · rw [if_pos e, if_pos (by omega)]
  · rw [if_neg (show ¬ b.cabin = -1 by omega), if_neg (show ¬ b.cabin < 0 by omega)]
theorem mov_zero {x : Sail} {b : Bkg} {c : Int} (h : P.movE x b c = 0) : 0 ≤ b.cabin ∧ 0 ≤ c ∧ c < x.s.bs.length ∧ ¬ c = b.cabin ∧ P.bkE x.s (P.setC b c) = 0 := by
  unfold P.movE at h
  split at h
  · exact absurd h (by decide)
  · next h1 =>
    split at h
    · exact absurd h (by decide)
    · next h2 =>
      split at h
      · exact absurd h (by decide)
      · next h3 => exact ⟨by omega, by omega, by omega, h3, h⟩

theorem soul_setC (j : Int) (l : List Bkg) (c : Int) : ∀ (k : Nat) (b : Bkg), l[k]? = some b → P.soul j (l.set k (P.setC b c)) = P.soul j l := by
  induction l with
  | nil => intro k b h; simp at h
  | cons y t ih =>
    intro k b h
    cases k with
    | zero =>
      simp at h
      subst h
      rfl
    | succ k =>
      rw [List.set_cons_succ, P.soul, P.soul, ih k b (by simpa using h)]
theorem many_setC {x : Sail} {k : Nat} {b : Bkg} {c : Int} (h : x.bks[k]? = some b) : P.many (P.setB x (x.bks.set k (P.setC b c))) = P.many x := by
  have e : P.soulsL x.s.legs.toNat (x.bks.set k (P.setC b c)) = P.soulsL x.s.legs.toNat x.bks := List.map_congr_left (fun j _ => soul_setC _ _ _ _ _ h)
  show decide (x.s.souls < P.mst 0 (P.soulsL x.s.legs.toNat (x.bks.set k (P.setC b c)))) = decide (x.s.souls < P.mst 0 (P.soulsL x.s.legs.toNat x.bks))
  rw [e]
theorem clB_setC {x : Sail} {b : Bkg} {c : Int} (h1 : 0 ≤ b.cabin) (h2 : 0 ≤ c) : P.clB x (P.setC b c) = P.clB x b := by
  have e1 : decide (c < 0) = decide (b.cabin < 0) := by rw [Bool.eq_iff_iff, decide_eq_true_iff, decide_eq_true_iff]; omega
  have e2 : decide (0 ≤ c) = decide (0 ≤ b.cabin) := by rw [Bool.eq_iff_iff, decide_eq_true_iff, decide_eq_true_iff]; omega
  show (decide (b.kind = 2) && P.live b && (if x.cl = true then decide (c < 0) else decide (0 ≤ c))) = _
  rw [e1, e2]
  rfl
theorem ids_setC (l : List Bkg) (c : Int) : ∀ (k : Nat) (b : Bkg), l[k]? = some b → (l.set k (P.setC b c)).map (fun b => b.id) = l.map (fun b => b.id) := by
  induction l with
  | nil => intro k b h; simp at h
  | cons y t ih =>
    intro k b h
    cases k with
    | zero =>
      simp at h
      subst h
      rfl
    | succ k =>
      rw [List.set_cons_succ, List.map_cons, List.map_cons, ih k b (by simpa using h)]
/-- Ahead of the room all is right. -/
theorem pre_setC {x : Sail} {k : Nat} {b : Bkg} {c : Int} (hE : P.SailE x 0) (hk : x.bks[k]? = some b) (h : P.movE x b c = 0) : P.pre (P.setB x (x.bks.set k (P.setC b c))) = 0 ∧ P.many (P.setB x (x.bks.set k (P.setC b c))) = false := by
  obtain ⟨hp, hf, h0, hbk, h16, ht, hm, _⟩ := sail_ok hE
  obtain ⟨m1, m2, m3, m4, m5⟩ := mov_zero h
  obtain ⟨_, hI, hcl⟩ := pre_zero hp
  obtain ⟨hr1, hr2⟩ := bksI_rise hI
  have hall : ∀ z ∈ x.bks.set k (P.setC b c), P.bkE x.s z = 0 := fun z hz => by
    rcases List.mem_or_eq_of_mem_set hz with h | rfl
    · exact hbk z h
    · exact m5
  have hf' : P.frame (P.setB x (x.bks.set k (P.setC b c))) = 0 := by
    obtain ⟨g1, g2, g3, g4, g5⟩ := frame_zero hf
    refine frame_ok g1 g2 (by rw [Bool.and_eq_true]; exact ⟨g3, g4⟩) ?_
    show ¬ 16 < (x.bks.set k (P.setC b c)).length
    rw [List.length_set]
    omega
  have hrise : (x.bks.set k (P.setC b c)).Pairwise (fun a b => a.id < b.id) := by
    have h1 : (x.bks.map (fun b => b.id)).Pairwise (· < ·) := List.pairwise_map.2 hr2
    rw [← ids_setC x.bks c k b hk] at h1
    exact List.pairwise_map.1 h1
  have hI' : P.bksI x.s 0 (x.bks.set k (P.setC b c)) = 0 := bksI_of hall (fun z hz => by
    have := (bk_ok (hall z hz)).2.2.2.1
    omega) hrise
  refine ⟨pre_ok hf' hI' ?_, by rw [many_setC hk]; exact hm⟩
  show (x.bks.set k (P.setC b c)).any (P.clB x) = false
  rw [List.any_eq_false] at hcl ⊢
  intro z hz
  rcases List.mem_or_eq_of_mem_set hz with h | rfl
  · exact hcl z h
  · rw [clB_setC m1 m2]
    exact hcl b (List.mem_of_getElem? hk)

theorem chg_moves {x : Sail} {id c r : Int} {y : Sail} (h : P.Chg x id (P.mvT x c) r y) : (∃ q, P.SailE x q ∧ ¬ q = 0 ∧ r = q ∧ y = P.zeroS) ∨ (P.SailE x 0 ∧ P.Moves x id c r y) := by
  rcases h with h | ⟨hE, h | ⟨k, b, h1, h2, h3⟩⟩
  · exact .inl h
  · exact .inr ⟨hE, .inl h⟩
  · refine .inr ⟨hE, .inr ⟨k, b, h1, h2, ?_⟩⟩
    obtain ⟨hp, hf, h0, hbk, h16, ht, hm, _⟩ := sail_ok hE
    have hmv : P.mvE x c b = P.movE x b c := mv_mov h0 (hbk b (List.mem_of_getElem? h2))
    rcases h3 with ⟨⟨b', e1, _⟩, e2, e3⟩ | ⟨_, z, q, ⟨b', ⟨e1, e2⟩, e3⟩, hz, h4⟩
    · left
      rw [hmv] at e1
      exact ⟨by rw [← e1]; exact e2, e1, e3⟩
    · right
      have h5 : P.movE x b c = 0 := by rw [← hmv]; exact e1.symm
      obtain ⟨hpre, hmany⟩ := pre_setC hE h2 h5
      have e4 : z = P.setB x (x.bks.set k (P.setC b c)) := by rw [e3, e2 rfl]
      rw [e4] at hz
      have hroom := sail_room hpre hz
      have hq : ¬ q = 2 := by
        rintro rfl
        rw [if_pos rfl] at hroom
        rcases hroom with ⟨_, hr⟩ | ⟨_, hr, _⟩ | ⟨_, _, cc, _, hr⟩
        · exact absurd hr (by decide)
        · rw [hmany] at hr; exact absurd hr (by decide)
        · split at hr <;> exact absurd hr (by decide)
      rw [if_neg hq] at hroom
      refine ⟨h5, ?_⟩
      rcases h4 with ⟨q0, r0, y0⟩ | ⟨q0, r0, y0⟩
      · subst q0
        subst r0
        exact ⟨hroom, .inl ⟨rfl, by rw [y0, e4]⟩⟩
      · rw [r0]
        exact ⟨hroom, .inr ⟨q0, y0⟩⟩

end Go.Proofs.YtlamhfbdeinkkaeGreat.St
namespace Go.Proofs.YtlamhfbdeinkkaeGreat.St
open Go.RowKit Bk
set_option linter.unusedSimpArgs false
set_option linter.unusedVariables false
set_option maxRecDepth 10000

theorem good_ch {R A : Prop} {x : Sail} {r : Int} {y : Sail} (f : R → (∃ q, P.SailE x q ∧ ¬ q = 0 ∧ r = q ∧ y = P.zeroS) ∨ (P.SailE x 0 ∧ A)) (hE : P.SailE x 0) (h : R) : A := by
  rcases f h with ⟨q, h1, h2, _, _⟩ | ⟨_, h1⟩
  · exact absurd (SailE.one h1 hE) h2
  · exact h1
theorem chg_wrong {x : Sail} {id v r : Int} {T : Bkg → Int → Bkg → Prop} {y : Sail} (hv : P.SailE x v) (hn : ¬ v = 0) (h : P.Chg x id T r y) : r = v ∧ y = P.zeroS := by
  rcases h with ⟨q, h1, h2, h3, h4⟩ | ⟨h1, _⟩
  · exact ⟨h3.trans (SailE.one h1 hv), h4⟩
  · exact absurd (SailE.one hv h1) hn
theorem ch_zero {x : Sail} {id r : Int} {T : Bkg → Int → Bkg → Prop} {y : Sail} (h : P.Ch x id T r y) : ¬ r = 0 → y = P.zeroS := by
  intro hn
  rcases h with ⟨_, _, h⟩ | ⟨k, b, _, _, e, b', _, ⟨_, _, h⟩ | ⟨_, h, _⟩⟩
  · exact h
  · exact h
  · exact absurd h hn
theorem moves_zero {x : Sail} {id c r : Int} {y : Sail} (h : P.Moves x id c r y) : ¬ r = 0 → y = P.zeroS := by
  intro hn
  rcases h with ⟨_, _, h⟩ | ⟨k, b, _, _, ⟨_, _, h⟩ | ⟨_, _, ⟨h, _⟩ | ⟨_, h⟩⟩⟩
  · exact h
  · exact h
  · exact absurd h hn
  · exact h

set_option maxHeartbeats 32000000 in
theorem changeTells_bad (x : Sail) (a : SailA) (id m c : Int) (w : World) (hs : SailAt w x a) (v : Int) (HE : Aside (P.SailE x v)) (hn : ¬ v = 0) :
    Calls Tryz.prog 5 #[V.sail x a, .int .i64 id, .int .i64 m, .int .i64 c] w fun e w' => e = .returned (.bool true) ∧ Below w.heap.size w w' := by
  have HS : Aside (SailAt w x a) := hs
  have HW : Aside (Below w.heap.size w (W.sail w x a)) := sail_below w x a
  have HX : Aside (SRow (W.sail w x a) w.heap.size x a) := RowIs.new w _ _
  clear hs
  obtain ⟨d0, d1, d2, d3, d4, d5, d6, d7, d8, d9, d10, d11, d12⟩ := SRow.box HX.out
  go_enter Tryz.func5, Tryz.ntmps5
  clear d0 d1 d2 d3 d4 d5 d6 d7 d8 d9 d10 d11 d12
  obtain ⟨d0, d1, d2, d3, d4, d5, d6, d7, d8, d9, d10, d11, d12⟩ := SRow.box HX.out
  go_wp2_with fail
  refine (sure_any x a id _ (HS.out.below HW.out)).mono ?_
  rintro e w1 ⟨r1, y1, a1, rfl, hS1, hU1, hb1⟩
  replace HW := rW HW hb1
  replace HX := rA HX hb1
  clear d0 d1 d2 d3 d4 d5 d6 d7 d8 d9 d10 d11 d12
  have HS1 : Aside (P.Chg x id P.sureT r1 y1) := hS1
  have hs1' := sail_below w1 y1 a1
  have HA1 : Aside (SailAt (W.sail w1 y1 a1) y1 a1) := hU1.at.below hs1'
  have HR1 : Aside (SRow (W.sail w1 y1 a1) w1.heap.size y1 a1) := RowIs.new w1 _ _
  replace HW := rW HW hs1'
  replace HX := rA HX hs1'
  clear hS1 hU1 hb1 hs1'
  obtain ⟨d0, d1, d2, d3, d4, d5, d6, d7, d8, d9, d10, d11, d12⟩ := SRow.box HX.out
  go_wp2_with fail
  refine (pay_any x a id m _ (HS.out.below HW.out)).mono ?_
  rintro e w2 ⟨r2, y2, a2, rfl, hS2, hU2, hb2⟩
  replace HW := rW HW hb2
  replace HX := rA HX hb2
  replace HA1 := rS HA1 hb2
  replace HR1 := rA HR1 hb2
  clear d0 d1 d2 d3 d4 d5 d6 d7 d8 d9 d10 d11 d12
  have HS2 : Aside (P.Chg x id (P.payT x.day m) r2 y2) := hS2
  have hs2' := sail_below w2 y2 a2
  have HA2 : Aside (SailAt (W.sail w2 y2 a2) y2 a2) := hU2.at.below hs2'
  have HR2 : Aside (SRow (W.sail w2 y2 a2) w2.heap.size y2 a2) := RowIs.new w2 _ _
  replace HW := rW HW hs2'
  replace HX := rA HX hs2'
  replace HA1 := rS HA1 hs2'
  replace HR1 := rA HR1 hs2'
  clear hS2 hU2 hb2 hs2'
  obtain ⟨d0, d1, d2, d3, d4, d5, d6, d7, d8, d9, d10, d11, d12⟩ := SRow.box HX.out
  go_wp2_with fail
  refine (cancel_any x a id _ (HS.out.below HW.out)).mono ?_
  rintro e w3 ⟨r3, y3, a3, rfl, hS3, hU3, hb3⟩
  replace HW := rW HW hb3
  replace HX := rA HX hb3
  replace HA1 := rS HA1 hb3
  replace HR1 := rA HR1 hb3
  replace HA2 := rS HA2 hb3
  replace HR2 := rA HR2 hb3
  clear d0 d1 d2 d3 d4 d5 d6 d7 d8 d9 d10 d11 d12
  have HS3 : Aside (P.Chg x id (P.cnT x) r3 y3) := hS3
  have hs3' := sail_below w3 y3 a3
  have HA3 : Aside (SailAt (W.sail w3 y3 a3) y3 a3) := hU3.at.below hs3'
  have HR3 : Aside (SRow (W.sail w3 y3 a3) w3.heap.size y3 a3) := RowIs.new w3 _ _
  replace HW := rW HW hs3'
  replace HX := rA HX hs3'
  replace HA1 := rS HA1 hs3'
  replace HR1 := rA HR1 hs3'
  replace HA2 := rS HA2 hs3'
  replace HR2 := rA HR2 hs3'
  clear hS3 hU3 hb3 hs3'
  obtain ⟨d0, d1, d2, d3, d4, d5, d6, d7, d8, d9, d10, d11, d12⟩ := SRow.box HX.out
  go_wp2_with fail
  refine (move_any x a id c _ (HS.out.below HW.out)).mono ?_
  rintro e w4 ⟨r4, y4, a4, rfl, hS4, hU4, hb4⟩
  replace HW := rW HW hb4
  replace HX := rA HX hb4
  replace HA1 := rS HA1 hb4
  replace HR1 := rA HR1 hb4
  replace HA2 := rS HA2 hb4
  replace HR2 := rA HR2 hb4
  replace HA3 := rS HA3 hb4
  replace HR3 := rA HR3 hb4
  clear d0 d1 d2 d3 d4 d5 d6 d7 d8 d9 d10 d11 d12
  have HS4 : Aside (P.Chg x id (P.mvT x c) r4 y4) := hS4
  have hs4' := sail_below w4 y4 a4
  have HA4 : Aside (SailAt (W.sail w4 y4 a4) y4 a4) := hU4.at.below hs4'
  have HR4 : Aside (SRow (W.sail w4 y4 a4) w4.heap.size y4 a4) := RowIs.new w4 _ _
  replace HW := rW HW hs4'
  replace HX := rA HX hs4'
  replace HA1 := rS HA1 hs4'
  replace HR1 := rA HR1 hs4'
  replace HA2 := rS HA2 hs4'
  replace HR2 := rA HR2 hs4'
  replace HA3 := rS HA3 hs4'
  replace HR3 := rA HR3 hs4'
  clear hS4 hU4 hb4 hs4'
  obtain ⟨d0, d1, d2, d3, d4, d5, d6, d7, d8, d9, d10, d11, d12⟩ := SRow.box HX.out
  go_wp2_with fail
  refine (refSail_any x a _ (HS.out.below HW.out)).mono ?_
  rintro e w5 ⟨v4, rfl, hv, hb5⟩
  replace HW := rW HW hb5
  replace HX := rA HX hb5
  replace HA1 := rS HA1 hb5
  replace HR1 := rA HR1 hb5
  replace HA2 := rS HA2 hb5
  replace HR2 := rA HR2 hb5
  replace HA3 := rS HA3 hb5
  replace HR3 := rA HR3 hb5
  replace HA4 := rS HA4 hb5
  replace HR4 := rA HR4 hb5
  clear d0 d1 d2 d3 d4 d5 d6 d7 d8 d9 d10 d11 d12
  obtain rfl := SailE.one HE.out hv
  clear hv hb5
  have hzb : Below w5.heap.size w5 ((((w5.alloc O.zs).alloc O.zs).alloc O.zs).alloc O.zs) := bvia (al _ _) (bvia (al _ _) (bvia (al _ _) (al _ _)))
  have HV : Aside (Below w5.heap.size w5 ((((w5.alloc O.zs).alloc O.zs).alloc O.zs).alloc O.zs)) := hzb
  have hw5 : w.heap.size < w5.heap.size := HX.out.lt
  have hr1 : w1.heap.size < w5.heap.size := HR1.out.lt
  have hr2 : w2.heap.size < w5.heap.size := HR2.out.lt
  have hr3 : w3.heap.size < w5.heap.size := HR3.out.lt
  have hr4 : w4.heap.size < w5.heap.size := HR4.out.lt
  have HZ1 : Aside (RowIs ((((w5.alloc O.zs).alloc O.zs).alloc O.zs).alloc O.zs) (w5.heap.size) C.zs) := by
    have := RowIs.new w5 C.zs 32
    try simp only [World.size_alloc] at this
    exact this.below (bvia (al _ _) (bvia (al _ _) (al _ _)))
  have HZ2 : Aside (RowIs ((((w5.alloc O.zs).alloc O.zs).alloc O.zs).alloc O.zs) (w5.heap.size + 1) C.zs) := by
    have := RowIs.new (w5.alloc O.zs) C.zs 32
    try simp only [World.size_alloc] at this
    exact this.below (bvia (al _ _) (al _ _))
  have HZ3 : Aside (RowIs ((((w5.alloc O.zs).alloc O.zs).alloc O.zs).alloc O.zs) (w5.heap.size + 1 + 1) C.zs) := by
    have := RowIs.new ((w5.alloc O.zs).alloc O.zs) C.zs 32
    try simp only [World.size_alloc] at this
    exact this.below (al _ _)
  have HZ4 : Aside (RowIs ((((w5.alloc O.zs).alloc O.zs).alloc O.zs).alloc O.zs) (w5.heap.size + 1 + 1 + 1) C.zs) := by
    have := RowIs.new (((w5.alloc O.zs).alloc O.zs).alloc O.zs) C.zs 32
    try simp only [World.size_alloc] at this
    exact this
  replace HW := rW HW hzb
  replace HX := rA HX hzb
  replace HR1 := rA HR1 hzb
  replace HR2 := rA HR2 hzb
  replace HR3 := rA HR3 hzb
  replace HR4 := rA HR4 hzb
  clear hzb
  have HZV : Aside (w5.heap.size + 1 + 1 + 1 + 1 ≤ ((((w5.alloc O.zs).alloc O.zs).alloc O.zs).alloc O.zs).heap.size) := by show _ ≤ _; simp only [World.size_alloc]; omega
  obtain ⟨e1, rfl⟩ := chg_wrong HE.out hn HS1.out
  obtain ⟨e2, rfl⟩ := chg_wrong HE.out hn HS2.out
  obtain ⟨e3, rfl⟩ := chg_wrong HE.out hn HS3.out
  obtain ⟨e4, rfl⟩ := chg_wrong HE.out hn HS4.out
  rw [e1, e2, e3, e4]
  have hv0 : (v == 0) = false := by simpa using hn
  have HNV : Aside (¬ v = 0) := hn
  clear e1 e2 e3 e4 hn HS1 HS2 HS3 HS4
  obtain ⟨d0, d1, d2, d3, d4, d5, d6, d7, d8, d9, d10, d11, d12⟩ := SRow.box HX.out
  go_wp2_with fail
  refine (changeBegun_any _).mono ?_
  rintro e wb ⟨rfl, hbb⟩
  replace HW := rW HW hbb
  replace HX := rA HX hbb
  replace HR1 := rA HR1 hbb
  replace HR2 := rA HR2 hbb
  replace HR3 := rA HR3 hbb
  replace HR4 := rA HR4 hbb
  replace HV := rW HV hbb
  replace HZ1 := rA HZ1 hbb
  replace HZ2 := rA HZ2 hbb
  replace HZ3 := rA HZ3 hbb
  replace HZ4 := rA HZ4 hbb
  clear d0 d1 d2 d3 d4 d5 d6 d7 d8 d9 d10 d11 d12
  clear hbb
  obtain ⟨d0, d1, d2, d3, d4, d5, d6, d7, d8, d9, d10, d11, d12⟩ := SRow.box HR1.out
  obtain ⟨e0, e1, e2, e3, e4, e5, e6, e7, e8, e9, e10, e11, e12⟩ := zs_cells HZ1.out
  go_wp2_with fail
  refine (sailingIs_any v P.zeroS P.zeroS a1 A.zeroS _ (HA1.out.below HV.out) (fun h => absurd h HNV.out) (fun _ => rfl)).mono ?_
  rintro e wi1 ⟨rfl, hbi1⟩
  replace HW := rW HW hbi1
  replace HX := rA HX hbi1
  replace HR1 := rA HR1 hbi1
  replace HR2 := rA HR2 hbi1
  replace HR3 := rA HR3 hbi1
  replace HR4 := rA HR4 hbi1
  replace HV := rW HV hbi1
  replace HZ1 := rA HZ1 hbi1
  replace HZ2 := rA HZ2 hbi1
  replace HZ3 := rA HZ3 hbi1
  replace HZ4 := rA HZ4 hbi1
  clear d0 d1 d2 d3 d4 d5 d6 d7 d8 d9 d10 d11 d12 e0 e1 e2 e3 e4 e5 e6 e7 e8 e9 e10 e11 e12 hbi1
  obtain ⟨d0, d1, d2, d3, d4, d5, d6, d7, d8, d9, d10, d11, d12⟩ := SRow.box HR2.out
  obtain ⟨e0, e1, e2, e3, e4, e5, e6, e7, e8, e9, e10, e11, e12⟩ := zs_cells HZ2.out
  go_wp2_with fail
  refine (sailingIs_any v P.zeroS P.zeroS a2 A.zeroS _ (HA2.out.below HV.out) (fun h => absurd h HNV.out) (fun _ => rfl)).mono ?_
  rintro e wi2 ⟨rfl, hbi2⟩
  replace HW := rW HW hbi2
  replace HX := rA HX hbi2
  replace HR1 := rA HR1 hbi2
  replace HR2 := rA HR2 hbi2
  replace HR3 := rA HR3 hbi2
  replace HR4 := rA HR4 hbi2
  replace HV := rW HV hbi2
  replace HZ1 := rA HZ1 hbi2
  replace HZ2 := rA HZ2 hbi2
  replace HZ3 := rA HZ3 hbi2
  replace HZ4 := rA HZ4 hbi2
  clear d0 d1 d2 d3 d4 d5 d6 d7 d8 d9 d10 d11 d12 e0 e1 e2 e3 e4 e5 e6 e7 e8 e9 e10 e11 e12 hbi2
  obtain ⟨d0, d1, d2, d3, d4, d5, d6, d7, d8, d9, d10, d11, d12⟩ := SRow.box HR3.out
  obtain ⟨e0, e1, e2, e3, e4, e5, e6, e7, e8, e9, e10, e11, e12⟩ := zs_cells HZ3.out
  go_wp2_with fail
  refine (sailingIs_any v P.zeroS P.zeroS a3 A.zeroS _ (HA3.out.below HV.out) (fun h => absurd h HNV.out) (fun _ => rfl)).mono ?_
  rintro e wi3 ⟨rfl, hbi3⟩
  replace HW := rW HW hbi3
  replace HX := rA HX hbi3
  replace HR1 := rA HR1 hbi3
  replace HR2 := rA HR2 hbi3
  replace HR3 := rA HR3 hbi3
  replace HR4 := rA HR4 hbi3
  replace HV := rW HV hbi3
  replace HZ1 := rA HZ1 hbi3
  replace HZ2 := rA HZ2 hbi3
  replace HZ3 := rA HZ3 hbi3
  replace HZ4 := rA HZ4 hbi3
  clear d0 d1 d2 d3 d4 d5 d6 d7 d8 d9 d10 d11 d12 e0 e1 e2 e3 e4 e5 e6 e7 e8 e9 e10 e11 e12 hbi3
  obtain ⟨d0, d1, d2, d3, d4, d5, d6, d7, d8, d9, d10, d11, d12⟩ := SRow.box HR4.out
  obtain ⟨e0, e1, e2, e3, e4, e5, e6, e7, e8, e9, e10, e11, e12⟩ := zs_cells HZ4.out
  go_wp2_with fail
  refine (sailingIs_any v P.zeroS P.zeroS a4 A.zeroS _ (HA4.out.below HV.out) (fun h => absurd h HNV.out) (fun _ => rfl)).mono ?_
  rintro e wi4 ⟨rfl, hbi4⟩
  replace HW := rW HW hbi4
  clear d0 d1 d2 d3 d4 d5 d6 d7 d8 d9 d10 d11 d12 e0 e1 e2 e3 e4 e5 e6 e7 e8 e9 e10 e11 e12 hbi4
  go_wp2
  go_ret
  exact ⟨rfl, HW.out⟩

end Go.Proofs.YtlamhfbdeinkkaeGreat.St
