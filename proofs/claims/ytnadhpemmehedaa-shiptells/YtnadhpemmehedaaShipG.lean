/- Order: its function literals. -/
import Derived.Test.YtnadhpemmehedaaShipF
namespace Go.Proofs.Ytnadhpemmehedaa
open Go.RowKit Go.Maps Go.WideMaps
set_option linter.unusedSimpArgs false
set_option linter.unusedVariables false

theorem ISet.below {w w' : World} {B : Nat} {l : List Int} (h : ISet w B l) (hb : Below w.heap.size w w') : ISet w' B l :=
  World.ownsMap.kept h (row := none) ⟨hb.os, hb.tape, hb.output, hb.size, fun k hk _ => hb.block k hk⟩ (by simp)

/-- What Order's function literals read: the set of those that stand, how many there are, who serves whom. -/
structure OrdAt (w : World) (gm M gw gn gT : Nat) (n : Nat) (T : Tab) (l : List Int) : Prop where
  map : w.cell? ⟨gm, 0, none⟩ = some (.map (some M))
  set : ISet w M l
  wait : w.cell? ⟨gw, 0, none⟩ = some (.func (.func 44) #[] #[.pointer (some ⟨gm, 0, none⟩)])
  num : w.cell? ⟨gn, 0, none⟩ = some (.int .i64 n)
  tab : TabAt w gT T
theorem OrdAt.below {w w' : World} {gm M gw gn gT : Nat} {n : Nat} {T : Tab} {l : List Int} (h : OrdAt w gm M gw gn gT n T l) (hb : Below w.heap.size w w') : OrdAt w' gm M gw gn gT n T l :=
  ⟨cellIn hb h.map, h.set.below hb, cellIn hb h.wait, cellIn hb h.num, h.tab.below hb⟩

set_option maxHeartbeats 400000 in
theorem waits_any (gm M c : Nat) (l : List Int) (w : World) (hm : w.cell? ⟨gm, 0, none⟩ = some (.map (some M))) (hset : ISet w M l) (hc : c < 1000) :
    Calls Try.prog 44 #[.int .i64 c, .pointer (some ⟨gm, 0, none⟩)] w fun e w' => e = .returned (.bool (!P.hasInt l c)) ∧ Below w.heap.size w w' := by
  have hwf : (Lit.int .i64 (c : Int)).wf = true := WalkArith.wf_i64 (by omega)
  have HH : Aside (Maps.has (setOf (H := Unit) (.agg []) (l.map P.litI)) (P.litI c) = P.hasInt l c) := has_ints l c
  go_enter Try.func44, Try.ntmps44
  go_wp2_with (at_lookup; refine wpList_lookup_own_unit _ rfl _ _ 69 rfl 3 70 Try.lawI Try.underlying69 (Try.zeroUnit _) M l.length _ rfl hset _ (P.litI c) rfl (keyOf_int_mk Try.underlying3 hwf) ?_; rw [HH.out])
  go_ret
  exact ⟨rfl, by go_grown⟩

def P.bars (T : Tab) (l : List Int) (c o : Nat) : Bool := decide (o ≠ c) && (!P.hasInt l o && T o c)
def P.may (T : Tab) (n : Nat) (l : List Int) (c : Nat) : Bool := !P.hasInt l c && !P.some (P.bars T l c) n

set_option maxHeartbeats 1000000 in
theorem bars_any (gm M gw gn gT gc : Nat) (n c o : Nat) (T : Tab) (l : List Int) (w : World) (h : OrdAt w gm M gw gn gT n T l) (hc : c < 5) (ho : o < 5) (hgc : w.cell? ⟨gc, 0, none⟩ = some (.int .i64 c)) :
    Calls Try.prog 47 #[.int .i64 o, .pointer (some ⟨gc, 0, none⟩), .pointer (some ⟨gw, 0, none⟩), .pointer (some ⟨gT, 0, none⟩)] w fun e w' => e = .returned (.bool (P.bars T l c o)) ∧ Below w.heap.size w w' := by
  have hcf : ∀ (args : Array Value) (wx : World), (callFunc 44 args).run Try.prog wx = .ok (.enter 44 args) wx := fun args wx => by go_simp
  have r1 := cell_regrown hgc
  have r2 := cell_regrown h.wait
  have r3 := cell_regrown (h.tab.get (a := o) (b := c) ho hc)
  have i1 : (o : Int) < 5 := by omega
  have i2 : (0 : Int) ≤ o := by omega
  have i3 : (c : Int) < 5 := by omega
  have i4 : (0 : Int) ≤ c := by omega
  by_cases e : o = c
  · subst e
    have HB : Aside (P.bars T l o o = false) := by show _ = _; simp [P.bars]
    go_enter Try.func47, Try.ntmps47
    go_wp2
    refine wp_region_quiet_below (by kernel_rfl) (by kernel_rfl) ?_
    repeat (quiet_step (fail))
    refine wpQuiet_nil ?_
    intro w2 hw2
    obtain ⟨⟨dq, osq⟩, hw2⟩ := hw2
    have hb2 := below_regrown w dq osq
    rw [← hw2] at hb2
    clear hw2
    go_wp2
    go_ret
    exact ⟨ret_bool HB.out.symm, hb2⟩
  · have e1 : ((o : Int) != (c : Int)) = true := by rw [bne_iff_ne]; omega
    have HB0 : Aside (P.bars T l c o = (!P.hasInt l o && T o c)) := by show _ = _; simp [P.bars, e]
    cases hw : P.hasInt l o
    · have HB : Aside (P.bars T l c o = T o c) := by have := HB0.out; rw [hw] at this; show _ = _; simpa using this
      clear HB0
      go_enter Try.func47, Try.ntmps47
      go_wp2
      refine wp_region_quiet_below (by kernel_rfl) (by kernel_rfl) ?_
      repeat (quiet_step ((go_at_call 44; exact Calls.regrown_of ((waits_any gm M o l _ (cell_regrown h.map _ _) (h.set.below (below_regrown _ _ _)) (by omega)).mono (fun e w' hh => by rw [hw] at hh; exact hh)))))
      refine wpQuiet_nil ?_
      intro w2 hw2
      obtain ⟨⟨dq, osq⟩, hw2⟩ := hw2
      have hb2 := below_regrown w dq osq
      rw [← hw2] at hb2
      clear hw2
      go_wp2
      go_ret
      exact ⟨ret_bool (by rw [HB.out] <;> simp), hb2⟩
    · have HB : Aside (P.bars T l c o = false) := by have := HB0.out; rw [hw] at this; show _ = _; simpa using this
      clear HB0
      go_enter Try.func47, Try.ntmps47
      go_wp2
      refine wp_region_quiet_below (by kernel_rfl) (by kernel_rfl) ?_
      repeat (quiet_step ((go_at_call 44; exact Calls.regrown_of ((waits_any gm M o l _ (cell_regrown h.map _ _) (h.set.below (below_regrown _ _ _)) (by omega)).mono (fun e w' hh => by rw [hw] at hh; exact hh)))))
      refine wpQuiet_nil ?_
      intro w2 hw2
      obtain ⟨⟨dq, osq⟩, hw2⟩ := hw2
      have hb2 := below_regrown w dq osq
      rw [← hw2] at hb2
      clear hw2
      go_wp2
      go_ret
      exact ⟨ret_bool (by rw [HB.out] <;> simp), hb2⟩

theorem hasBars_any (gm M gw gn gT gc : Nat) (n c : Nat) (T : Tab) (l : List Int) (w : World) (h : OrdAt w gm M gw gn gT n T l) (hc : c < 5) (hn : n ≤ 5) (hgc : w.cell? ⟨gc, 0, none⟩ = some (.int .i64 c)) :
    Calls Try.prog 46 #[.int .i64 n, .func (.func 47) #[] #[.pointer (some ⟨gc, 0, none⟩), .pointer (some ⟨gw, 0, none⟩), .pointer (some ⟨gT, 0, none⟩)]] w fun e w' => e = .returned (.bool (P.some (P.bars T l c) n)) ∧ Below w.heap.size w w' := by
  refine has_any n 47 _ (P.bars T l c) w (by omega) (fun args wx => by go_simp) ?_
  intro k wx hk hbx
  rw [arr4]
  exact bars_any gm M gw gn gT gc n c k T l wx (h.below hbx) hc (by omega) (cellIn hbx hgc)

set_option maxHeartbeats 1000000 in
theorem may_any (gm M gw gn gT : Nat) (n c : Nat) (T : Tab) (l : List Int) (w : World) (h : OrdAt w gm M gw gn gT n T l) (hc : c < 5) (hn : n ≤ 5) :
    Calls Try.prog 45 #[.int .i64 c, .pointer (some ⟨gw, 0, none⟩), .pointer (some ⟨gn, 0, none⟩), .pointer (some ⟨gT, 0, none⟩)] w fun e w' => e = .returned (.bool (P.may T n l c)) ∧ Below w.heap.size w w' := by
  have hcf : ∀ (args : Array Value) (wx : World), (callFunc 44 args).run Try.prog wx = .ok (.enter 44 args) wx := fun args wx => by go_simp
  have hwt := h.wait
  have hwl := World.block_lt_of_cell? w _ hwt
  have hnm := h.num
  have hnl := World.block_lt_of_cell? w _ hnm
  cases hw : P.hasInt l c
  · have HB : Aside (P.may T n l c = !P.some (P.bars T l c) n) := by show _ = _; simp [P.may, hw]
    go_enter Try.func45, Try.ntmps45
    go_wp2_with (first
      | (go_at_call 44; refine (waits_any gm M c l _ (cellIn (by go_grown) h.map) (h.set.below (by go_grown)) (by omega)).mono ?_; rintro e w1 ⟨rfl, hb1⟩; rw [hw]; obtain ⟨hcc1, _⟩ := bcell hb1; have hw1 : Below w.heap.size w w1 := bvia (by go_grown) hb1; have hgc : w1.cell? ⟨w.heap.size, 0, none⟩ = some (.int .i64 c) := cellIn hb1 (by simp))
      | (go_at_call 46; refine (hasBars_any gm M gw gn gT w.heap.size n c T l w1 (h.below hw1) hc hn hgc).mono ?_; rintro e w2 ⟨rfl, hb2⟩))
    go_ret
    exact ⟨ret_bool (by rw [HB.out] <;> simp), bvia hw1 hb2⟩
  · have HB : Aside (P.may T n l c = false) := by show _ = _; simp [P.may, hw]
    go_enter Try.func45, Try.ntmps45
    go_wp2_with (go_at_call 44; refine (waits_any gm M c l _ (cellIn (by go_grown) h.map) (h.set.below (by go_grown)) (by omega)).mono ?_; rintro e w1 ⟨rfl, hb1⟩; rw [hw])
    go_ret
    exact ⟨ret_bool (by rw [HB.out] <;> simp), bvia (by go_grown) hb1⟩

theorem firstMay_any (gm M gw gn gT : Nat) (n : Nat) (T : Tab) (l : List Int) (w : World) (h : OrdAt w gm M gw gn gT n T l) (hn : n ≤ 5) :
    Calls Try.prog 48 #[.int .i64 n, .func (.func 45) #[] #[.pointer (some ⟨gw, 0, none⟩), .pointer (some ⟨gn, 0, none⟩), .pointer (some ⟨gT, 0, none⟩)]] w fun e w' => e = .returned (.int .i64 (P.least (P.may T n l) n)) ∧ Below w.heap.size w w' := by
  refine shipFirst_any n 45 _ (P.may T n l) w (by omega) (fun args wx => by go_simp) ?_
  intro k wx hk hbx
  rw [arr4]
  exact may_any gm M gw gn gT n k T l wx (h.below hbx) (by omega) hn

end Go.Proofs.Ytnadhpemmehedaa
