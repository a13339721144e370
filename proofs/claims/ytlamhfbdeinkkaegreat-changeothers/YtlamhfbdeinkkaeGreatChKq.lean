/- Package change: the literal of Pay. -/
import Derived.Test.YtlamhfbdeinkkaeGreatChJq
import Derived.Test.YtlamhfbdeinkkaeGreatChGq
import Derived.Test.YtlamhfbdeinkkaeGreatLtAq
namespace Go.Proofs.YtlamhfbdeinkkaeGreat.St
open Go.RowKit Bk
set_option linter.unusedSimpArgs false
set_option linter.unusedVariables false
set_option maxRecDepth 10000

set_option maxHeartbeats 40000000 in
theorem pay1_lit (w : World) (b : Bkg) (pa pc : Nat) (x : Sail) (a : SailA) (m : Int) (ha : w.cell? ⟨pa, 0, none⟩ = some (.int .i64 m)) (hc : SRow w pc x a) :
    LitOk w 65 #[.pointer (some ⟨pa, 0, none⟩), .pointer (some ⟨pc, 0, none⟩)] b (P.payT x.day m b) := by
  intro U base G n k lv fo fc hB _ hO hn hk hE
  show Calls Tryz.prog 65 #[.pointer (some ⟨G, k * 11, none⟩), .pointer (some ⟨pa, 0, none⟩), .pointer (some ⟨pc, 0, none⟩)] U _
  have hkl : k < lv.length := (List.getElem?_eq_some_iff.1 hk).1
  have c10 : U.cell? ⟨G, k * 11 + 10, none⟩ = some (.slice fo b.fol.length fc) := (own_cell hO hn hk 10 (by decide)).1
  have am : U.cell? ⟨pa, 0, none⟩ = some (.int .i64 m) := cellIn hB ha
  have d9 : U.cell? ⟨pc, 9, none⟩ = some (.int .i64 x.day) := (hc.below hB).cell 9
  have HO : Aside (OwnB U base (.slice (some ⟨G, 0, none⟩) n n) lv) := hO
  have HK : Aside (lv[k]? = some (b, fo, fc)) := hk
  have HN : Aside (lv.length = n) := hn
  have HE : Aside (Fo.OwnN U (G + 1) (.slice fo b.fol.length fc) b.fol) := hE
  have HKL : Aside (k < lv.length) := hkl
  obtain ⟨cur, r1, r2, r3, hGm⟩ := own_row hO hn (by omega)
  have HGU : Aside (G < U.heap.size) := (Array.getElem?_eq_some_iff.1 r1).1
  have HGM : Aside (base ≤ G) := hGm
  clear hO hk hn hE hB r1 r2 r3 hkl ha hc hGm
  by_cases h1 : m < 1
  · have HP : Aside (P.payE x.day m b = 3) := by show _ = _; rw [P.payE, if_pos (.inl h1)]
    go_enter Tryz.func65, Tryz.ntmps65
    go_wp2
    go_ret
    exact ⟨3, b, rfl, ⟨HP.out.symm, fun h => absurd h (by decide)⟩, fun i _ _ => rfl, Below.refl _ _, fun h => absurd h (by decide)⟩
  by_cases h2 : 100000000 < m
  · have HP : Aside (P.payE x.day m b = 3) := by show _ = _; rw [P.payE, if_pos (.inr h2)]
    go_enter Tryz.func65, Tryz.ntmps65
    go_wp2
    go_ret
    exact ⟨3, rfl, b, ⟨HP.out.symm, fun h => absurd h (by decide)⟩, fun i _ _ => rfl, Below.refl _ _, fun h => absurd h (by decide)⟩
  have HP0 : Aside (P.payE x.day m b = if Fo.P.folE b.fol = 0 then (if Fo.P.owed b.fol < m then 4 else Fo.P.addE b.fol (x.day, 2, -m)) else Fo.P.folE b.fol) := by
    show _ = _
    rw [P.payE, if_neg (by omega)]
  go_enter Tryz.func65, Tryz.ntmps65
  go_wp2_with fail
  refine (Fo.owed_any fo fc b.fol U (ents_own HE.out)).mono ?_
  rintro e w1 ⟨rfl, hb1⟩
  have HB1 : Aside (Below U.heap.size U w1) := hb1
  have HBL : Aside (∀ i, i < U.heap.size → i ≠ G → w1.heap[i]? = U.heap[i]?) := fun i hi _ => hb1.block i hi
  have HE1 : Aside (Fo.OwnN w1 (G + 1) (.slice fo b.fol.length fc) b.fol) := OwnC.below HE.out hb1
  have HO1 : Aside (OwnB w1 base (.slice (some ⟨G, 0, none⟩) n n) lv) := OwnC.below HO.out hb1
  have HM1 : Aside (Below base U w1) := hb1.mono (by have := HGM.out; have := HGU.out; omega)
  have c10' := cellIn hb1 c10
  have am' := cellIn hb1 am
  have d9' := cellIn hb1 d9
  clear hb1 c10 am d9
  cases hz : (Fo.P.folE b.fol != 0)
  rotate_left
  · have HZ : Aside (¬ Fo.P.folE b.fol = 0) := by show ¬ _; simpa using hz
    go_wp2
    go_ret
    exact ⟨_, b, rfl, ⟨by rw [HP0.out, if_neg HZ.out], fun h => absurd h HZ.out⟩, HBL.out, HM1.out, fun h => absurd h HZ.out⟩
  have HZ : Aside (Fo.P.folE b.fol = 0) := by show _ = _; simpa using hz
  by_cases h3 : Fo.P.owed b.fol < m
  · have HQ : Aside (P.payE x.day m b = 4) := by show _ = _; rw [HP0.out, if_pos HZ.out, if_pos h3]
    go_wp2
    go_ret
    exact ⟨4, b, rfl, ⟨HQ.out.symm, fun h => absurd h (by decide)⟩, HBL.out, HM1.out, fun h => absurd h (by decide)⟩
  have HQ : Aside (P.payE x.day m b = Fo.P.addE b.fol (x.day, 2, -m)) := by show _ = _; rw [HP0.out, if_pos HZ.out, if_neg h3]
  have HW2 : Aside (Below U.heap.size U w1.drew) := bvia HB1.out (dr _)
  go_wp2
  have hwr : IntKind.i64.wrap (-m) = -m := by rw [IntKind.wrap_i64]; omega
  refine wp_region_before (L := 17) (S := fun w : World => w.cell? ⟨pa, 0, none⟩ = some (.int .i64 m) ∧ w.cell? ⟨pc, 9, none⟩ = some (.int .i64 x.day) ∧ w.cell? ⟨G, k * 11 + 10, none⟩ = some (.slice fo b.fol.length fc)) (by kernel_rfl) (fun hset => ?_)
  have hS : (fun w : World => w.cell? ⟨pa, 0, none⟩ = some (.int .i64 m) ∧ w.cell? ⟨pc, 9, none⟩ = some (.int .i64 x.day) ∧ w.cell? ⟨G, k * 11 + 10, none⟩ = some (.slice fo b.fol.length fc)) { w1 with drawn := w1.drawn + 1 } := ⟨am', d9', c10'⟩
  refine wpAnyB_put0 (i := 0) (d := (some 28)) (v := ?_) hset rfl rfl (by kernel_rfl) (by kernel_rfl) (by kernel_rfl) (by decide) (fun _ _ _ h => h) (Or.inl ⟨by rfl, ?_⟩) (fun _ => hS) (fun hset => ?_)
  rotate_left
  · (intro w; go_simp; try with_reducible rfl)
  simp only [Act.put, List.setIfInBounds_toArray, List.set_cons_zero, List.set_cons_succ]
  refine wpAnyB_put0 (i := 1) (d := (some 29)) (v := ?_) hset rfl rfl (by kernel_rfl) (by kernel_rfl) (by kernel_rfl) (by decide) (fun _ _ _ h => h) (Or.inl ⟨by rfl, ?_⟩) (fun _ => hS) (fun hset => ?_)
  rotate_left
  · (intro w; go_simp; try with_reducible rfl)
  simp only [Act.put, List.setIfInBounds_toArray, List.set_cons_zero, List.set_cons_succ]
  refine wpAnyB_put0 (i := 2) (d := (some 30)) (v := ?_) hset rfl rfl (by kernel_rfl) (by kernel_rfl) (by kernel_rfl) (by decide) (fun _ _ _ h => h) (Or.inl ⟨by rfl, ?_⟩) (fun _ => hS) (fun hset => ?_)
  rotate_left
  · (intro w; go_simp; try with_reducible rfl)
  simp only [Act.put, List.setIfInBounds_toArray, List.set_cons_zero, List.set_cons_succ]
  refine wpAnyB_put0 (i := 3) (d := (some 31)) (v := ?_) hset rfl rfl (by kernel_rfl) (by kernel_rfl) (by kernel_rfl) (by decide) (fun _ _ _ h => h) (Or.inl ⟨by rfl, ?_⟩) (fun _ => hS) (fun hset => ?_)
  rotate_left
  · (intro w; go_simp; try with_reducible rfl)
  simp only [Act.put, List.setIfInBounds_toArray, List.set_cons_zero, List.set_cons_succ]
  refine wpAnyB_put (i := 4) (n := 40) (d := (some 32)) (v := ?_) hset rfl rfl (by kernel_rfl) (by kernel_rfl) (by kernel_rfl) (by kernel_rfl) (by decide) (fun _ _ _ h => h) (Or.inl ⟨by rfl, ?_⟩) hS (fun hset => ?_)
  rotate_left
  · (intro w hSw; (try dsimp only at hSw); go_simp; try with_reducible rfl)
  simp only [Act.put, List.setIfInBounds_toArray, List.set_cons_zero, List.set_cons_succ]
  refine wpAnyB_put0 (i := 5) (d := (some 33)) (v := ?_) hset rfl rfl (by kernel_rfl) (by kernel_rfl) (by kernel_rfl) (by decide) (fun _ _ _ h => h) (Or.inl ⟨by rfl, ?_⟩) (fun _ => hS) (fun hset => ?_)
  rotate_left
  · (intro w; go_simp; try with_reducible rfl)
  simp only [Act.put, List.setIfInBounds_toArray, List.set_cons_zero, List.set_cons_succ]
  refine wpAnyB_put0 (i := 6) (d := (some 34)) (v := ?_) hset rfl rfl (by kernel_rfl) (by kernel_rfl) (by kernel_rfl) (by decide) (fun _ _ _ h => h) (Or.inl ⟨by rfl, ?_⟩) (fun _ => hS) (fun hset => ?_)
  rotate_left
  · (intro w; go_simp; try with_reducible rfl)
  simp only [Act.put, List.setIfInBounds_toArray, List.set_cons_zero, List.set_cons_succ]
  refine wpAnyB_put (i := 7) (n := 40) (d := (some 35)) (v := ?_) hset rfl rfl (by kernel_rfl) (by kernel_rfl) (by kernel_rfl) (by kernel_rfl) (by decide) (fun _ _ _ h => h) (Or.inl ⟨by rfl, ?_⟩) hS (fun hset => ?_)
  rotate_left
  · (intro w hSw; (try dsimp only at hSw); go_simp; try with_reducible rfl)
  simp only [Act.put, List.setIfInBounds_toArray, List.set_cons_zero, List.set_cons_succ]
  refine wpAnyB_put (i := 8) (n := 40) (d := (some 36)) (v := ?_) hset rfl rfl (by kernel_rfl) (by kernel_rfl) (by kernel_rfl) (by kernel_rfl) (by decide) (fun _ _ _ h => h) (Or.inl ⟨by rfl, ?_⟩) hS (fun hset => ?_)
  rotate_left
  · (intro w hSw; (try dsimp only at hSw); go_simp; try with_reducible rfl)
  simp only [Act.put, List.setIfInBounds_toArray, List.set_cons_zero, List.set_cons_succ]
  refine wpAnyB_put0 (i := 9) (d := (some 37)) (v := ?_) hset rfl rfl (by kernel_rfl) (by kernel_rfl) (by kernel_rfl) (by decide) (fun _ _ _ h => h) (Or.inl ⟨by rfl, ?_⟩) (fun _ => hS) (fun hset => ?_)
  rotate_left
  · (intro w; go_simp; try with_reducible rfl)
  simp only [Act.put, List.setIfInBounds_toArray, List.set_cons_zero, List.set_cons_succ]
  refine wpAnyB_put0 (i := 10) (d := (some 38)) (v := ?_) hset rfl rfl (by kernel_rfl) (by kernel_rfl) (by kernel_rfl) (by decide) (fun _ _ _ h => h) (Or.inl ⟨by rfl, ?_⟩) (fun _ => hS) (fun hset => ?_)
  rotate_left
  · (intro w; go_simp; try with_reducible rfl)
  simp only [Act.put, List.setIfInBounds_toArray, List.set_cons_zero, List.set_cons_succ]
  refine wpAnyB_steps (rs := [11]) (by kernel_rfl) (by simp) ?_
  refine StepsB.ahead rfl hset (by kernel_rfl) (fun hset K hK => ?_) StepsB.nil
  simp only [List.getElem_toArray, List.getElem_cons_succ, List.getElem_cons_zero]
  go_simp
  refine (Fo.add_any fo fc b.fol x.day 2 (-m) _ (ents_own (OwnC.below HE1.out (dr _)))).mono ?_
  rintro e w5 ⟨v, rfl, hv, hb5⟩
  obtain ⟨ao5, cap5, rfl⟩ := OwnC.form hv
  have hb15 : Below w1.heap.size w1 w5 := bvia (dr _) hb5
  have hO5 : OwnB w5 base (.slice (some ⟨G, 0, none⟩) n n) lv := OwnC.below HO1.out hb15
  have q10 : w5.cell? ⟨G, k * 11 + 10, none⟩ = some (.slice fo b.fol.length fc) := (own_cell hO5 HN.out HK.out 10 (by decide)).1
  have f10 := (own_cell hO5 HN.out HK.out 10 (by decide)).2
  refine hK.out _ _ ?_ (fun hS => ?_)
  · exact ⟨cellIn hb15 am', cellIn hb15 d9', q10⟩
  clear hK K
  try simp only [Act.put, List.setIfInBounds_toArray, List.set_cons_zero, List.set_cons_succ]
  refine wpAnyB_put0 (i := 12) (d := (some 27)) (v := ?_) hset rfl rfl (by kernel_rfl) (by kernel_rfl) (by kernel_rfl) (by decide) (fun _ _ _ h => h) (Or.inl ⟨by rfl, ?_⟩) (fun _ => hS) (fun hset => ?_)
  rotate_left
  · (intro w; go_simp; try with_reducible rfl)
  simp only [Act.put, List.setIfInBounds_toArray, List.set_cons_zero, List.set_cons_succ]
  refine wpAnyB_put0 (i := 13) (d := (some 40)) (v := ?_) hset rfl rfl (by kernel_rfl) (by kernel_rfl) (by kernel_rfl) (by decide) (fun _ _ _ h => h) (Or.inl ⟨by rfl, ?_⟩) (fun _ => hS) (fun hset => ?_)
  rotate_left
  · (intro w; go_simp; try with_reducible rfl)
  simp only [Act.put, List.setIfInBounds_toArray, List.set_cons_zero, List.set_cons_succ]
  refine wpAnyB_put0 (i := 14) (d := (some 41)) (v := ?_) hset rfl rfl (by kernel_rfl) (by kernel_rfl) (by kernel_rfl) (by decide) (fun _ _ _ h => h) (Or.inl ⟨by rfl, ?_⟩) (fun _ => hS) (fun hset => ?_)
  rotate_left
  · (intro w; go_simp; try with_reducible rfl)
  simp only [Act.put, List.setIfInBounds_toArray, List.set_cons_zero, List.set_cons_succ]
  refine wpAnyB_put0 (i := 15) (d := (some 42)) (v := ?_) hset rfl rfl (by kernel_rfl) (by kernel_rfl) (by kernel_rfl) (by decide) (fun _ _ _ h => h) (Or.inl ⟨by rfl, ?_⟩) (fun _ => hS) (fun hset => ?_)
  rotate_left
  · (intro w; go_simp; try with_reducible rfl)
  simp only [Act.put, List.setIfInBounds_toArray, List.set_cons_zero, List.set_cons_succ]
  refine wpAnyB_put0 (i := 16) (d := (some 43)) (v := ?_) hset rfl rfl (by kernel_rfl) (by kernel_rfl) (by kernel_rfl) (by decide) (fun _ _ _ h => h) (Or.inl ⟨by rfl, ?_⟩) (fun _ => hS) (fun hset => ?_)
  rotate_left
  · (intro w; go_simp; try with_reducible rfl)
  simp only [Act.put, List.setIfInBounds_toArray, List.set_cons_zero, List.set_cons_succ]
  refine wpAnyB_steps (rs := [17]) (by kernel_rfl) (by simp) ?_
  refine StepsB.behind rfl hset (by kernel_rfl) (by kernel_rfl) (fun hset K hK => ?_) StepsB.nil
  simp only [List.getElem_toArray, List.getElem_cons_succ, List.getElem_cons_zero]
  go_simp
  refine hK.out _ _ ?_
  clear hK K
  try simp only [Act.put, List.setIfInBounds_toArray, List.set_cons_zero, List.set_cons_succ]
  refine wpAnyB_put0 (i := 18) (d := (some 6)) (v := ?_) hset rfl rfl (by kernel_rfl) (by kernel_rfl) (by kernel_rfl) (by decide) (fun _ _ _ h => h) (Or.inl ⟨by rfl, ?_⟩) (fun h => absurd h (by decide)) (fun hset => ?_)
  rotate_left
  · (intro w; go_simp; try with_reducible rfl)
  simp only [Act.put, List.setIfInBounds_toArray, List.set_cons_zero, List.set_cons_succ]
  refine wpAnyB_done (by kernel_rfl) ?_ _
  all_goals
    have hGU := HGU.out
    have hGM := HGM.out
    have hs1 := HB1.out.size
    obtain ⟨p1, p2⟩ := own_put1 (z := (P.payB x.day m b, ao5, cap5)) (v := .slice ao5 (Fo.P.add b.fol (x.day, 2, -m)).length cap5) hO5 HN.out HK.out (j := 10) (by decide) rfl
    have hv1 : Fo.OwnN w5 (G + 1) (.slice ao5 (Fo.P.add b.fol (x.day, 2, -m)).length cap5) (Fo.P.add b.fol (x.day, 2, -m)) := OwnC.ahead hv (by simp; omega)
    have HE2 : Aside (Fo.OwnN (w5.setCell ⟨G, k * 11 + 10, none⟩ (.slice ao5 (Fo.P.add b.fol (x.day, 2, -m)).length cap5)) (G + 1) (.slice ao5 (Fo.P.add b.fol (x.day, 2, -m)).length cap5) (Fo.P.add b.fol (x.day, 2, -m))) :=
      OwnC.apart hv1 p2 (fun r e hv => by cases e; have := (hv1.lt _ hv).1; omega)
    have HP1 : Aside (OwnB (w5.setCell ⟨G, k * 11 + 10, none⟩ (.slice ao5 (Fo.P.add b.fol (x.day, 2, -m)).length cap5)) base (.slice (some ⟨G, 0, none⟩) n n) (lv.set k (P.payB x.day m b, ao5, cap5))) := p1
    have HS2 : Aside (∀ i, i < U.heap.size → i ≠ G → (w5.setCell ⟨G, k * 11 + 10, none⟩ (.slice ao5 (Fo.P.add b.fol (x.day, 2, -m)).length cap5)).heap[i]? = U.heap[i]?) := fun i hi hne => by
      rw [p2.block i (by have := hb15.size; omega) (by simp; omega), hb15.block i (by omega)]
      exact HBL.out i hi hne
    have HB2 : Aside (Below base U (w5.setCell ⟨G, k * 11 + 10, none⟩ (.slice ao5 (Fo.P.add b.fol (x.day, 2, -m)).length cap5))) :=
      below_gr (HM1.out.trans (hb15.mono (by omega))) (by have := hb15.size; omega) p2 hGM
    have HR : Aside (Fo.P.addE b.fol (x.day, 2, -m) = P.payE x.day m b) := HQ.out.symm
    clear p1 p2 hv hv1 hb15 hO5 hb5 am' d9' c10' hz
    go_wp2
    go_ret
    exact ⟨_, rfl, P.payB x.day m b, ⟨HR.out, fun _ => rfl⟩, HS2.out, HB2.out, fun _ => ⟨ao5, cap5, HP1.out, HE2.out⟩⟩

theorem pay1_calls : ∀ (args : Array Value) (wx : World), (callFunc 65 args).run Tryz.prog wx = .ok (.enter 65 args) wx := enters_of Tryz.func65 (by kernel_rfl) rfl

end Go.Proofs.YtlamhfbdeinkkaeGreat.St
