/- The reference: PlanOf. -/
import Derived.Test.YtlamhfbdeinkkaeGreatVyHt
import Derived.Test.YtlamhfbdeinkkaeGreatLtAt
import Derived.Test.YtlamhfbdeinkkaeGreatBaCt
import Derived.Test.YtlamhfbdeinkkaeGreatChDt
import Derived.Deep.CutRange
import Derived.Test.YtlamhfbdeinkkaeGreatVyFt
import Derived.Test.YtlamhfbdeinkkaeGreatStSt
import Derived.Test.YtlamhfbdeinkkaeGreatSeLt
import Derived.Test.YtlamhfbdeinkkaeGreatTwAt
import Derived.Test.YtlamhfbdeinkkaeGreatVyJt
import Derived.Test.YtlamhfbdeinkkaeGreatVyKt
namespace Go.Proofs.YtlamhfbdeinkkaeGreat.St
open Go.RowKit Bk
set_option linter.unusedSimpArgs false
set_option linter.unusedVariables false
set_option maxRecDepth 10000

theorem wpG_app3 {o : Oper} {a : Act} {K : Act → World → Prop} {Q : Exit → Act → World → Prop} {u : World} {base : Nat} (s x : Operand) (ho : o.op = .call { callee := .builtin .append, args := #[s, x], argTypes := #[65, 65] }) (v : Value) (B : Nat) (l L : List (Int × Int)) (p q : Int) (hL : l ++ [(p, q)] = L)
    (hv : a.eval s = v) (hown : OwnG u base v l) (hx : a.eval x = .slice (some ⟨B, 0, none⟩) 1 1) (h0 : u.cell? ⟨B, 0, none⟩ = some (.int .i64 p)) (h1 : u.cell? ⟨B, 1, none⟩ = some (.int .i64 q)) (hl : l.length ≤ 1000) (hbase : base ≤ u.heap.size)
    (h : ∀ g cap u', OwnG u' base (.slice (some ⟨g, 0, none⟩) L.length cap) L → u.grownBy u' v.ownBlock → K (a.put o.dst (.slice (some ⟨g, 0, none⟩) L.length cap)) u') : o.wp Tryz.prog a u K Q :=
  wpC_app3 Tryz.infoG Tryz.underlying65 rfl (by decide) cellsG_len cellsG_one (by decide) s x ho v B l L (p, q) hL hv hown hx (fun j c hj => by
    match j, hj with
    | 0, hj => simp [cellsG] at hj; subst hj; exact h0
    | 1, hj => simp [cellsG] at hj; subst hj; exact h1) hl hbase h

set_option maxHeartbeats 8000000 in
theorem planOf_any (x : Sail) (a : SailA) (w : World) (hs : SailAt w x a) (hbk : ∀ b ∈ x.bks, P.bkE x.s b = 0) (h16 : x.bks.length ≤ 16) :
    Calls Tryz.prog 37 #[V.sail x a] w fun e w' => ∃ v, e = .returned v ∧ OwnG w' w.heap.size v (P.planL x.bks) ∧ Below w.heap.size w w' := by
  have HS : Aside (SailAt w x a) := hs
  have HBK : Aside (∀ b ∈ x.bks, P.bkE x.s b = 0) := hbk
  have HB : Aside (Below w.heap.size w (W.sail w x a)) := sail_below w x a
  have HX : Aside (SRow (W.sail w x a) w.heap.size x a) := RowIs.new w _ _
  have HO : Aside (OwnG (W.sail w x a) (w.heap.size + 1) (.slice none 0 0) (P.planL (x.bks.take 0))) := OwnC.nil _ _
  clear hs hbk
  go_enter Tryz.func37, Tryz.ntmps37
  go_wp2
  go_loopg [3, 4] x.bks.length (fun q lv iv wr => ∃ (k : Nat) (v : Value), k ≤ x.bks.length ∧ q = x.bks.length - k ∧ lv = v ∧ iv = .int .i64 k ∧ Aside (OwnG wr (w.heap.size + 1) v (P.planL (x.bks.take k))) ∧ Aside (Below w.heap.size w wr) ∧ Aside (SRow wr w.heap.size x a))
  case atStart => exact ⟨0, _, Nat.zero_le _, rfl, rfl, rfl, HO, HB, HX⟩
  case round =>
    clear HO HB HX
    obtain ⟨k, v, hk, rfl, rfl, rfl, HO, HB, HX⟩ := hrel
    have d11 : wr.cell? ⟨w.heap.size, 11, none⟩ = some (.slice a.ao x.bks.length a.cap) := HX.out.cell 11
    by_cases hlt : k < x.bks.length
    rotate_left
    · obtain rfl : k = x.bks.length := by omega
      have HO2 := plan_all HO
      go_wp2
      go_ret
      exact ⟨_, rfl, OwnC.ahead HO2.out (Nat.le_succ _), HB.out⟩
    have hlt2 : (k : Int) < x.bks.length := by omega
    obtain ⟨b2, off, b, fo, fc, hao, hbw, hd, ⟨q0, q1, q2, q3, q4, q5, q6, q7, q8, q9, q10⟩, hfe⟩ := BksAt.get HS.out.bks HB.out k hlt
    have HT : Aside (x.bks.take (k + 1) = x.bks.take k ++ [b]) := take_snoc' hlt hd
    have hlow := cab_low (HBK.out b (List.mem_of_getElem? (drop_at hd)))
    rw [hao] at d11
    have hwl : w.heap.size < wr.heap.size := HX.out.lt
    have hb2l : b2 < wr.heap.size := World.block_lt_of_cell? _ _ q0
    clear hd hfe hao
    cases hp : P.plP b
    · have HO2 := plan_skip HO HT hp
      by_cases hst : b.state = 3
      · have hst' : (b.state != 3) = false := by simp [hst]
        clear hst hp
        go_wp2
        go_roundg (x.bks.length - (k + 1))
        case measure => omega
        case rel => exact ⟨k + 1, _, by omega, rfl, rfl, by go_num, HO2, HB, HX⟩
      · have hst' : (b.state != 3) = true := by simp [hst]
        have hcb : b.cabin = -1 := by simpa [P.plP, hst] using hp
        have hcb' : ¬ (0 ≤ b.cabin) := by omega
        have hcb2 : b.cabin < 0 := by omega
        clear hst hp hcb
        go_wp2
        go_roundg (x.bks.length - (k + 1))
        case measure => omega
        case rel => exact ⟨k + 1, _, by omega, rfl, rfl, by go_num, HO2, HB, HX⟩
    · have hpp : b.state ≠ 3 ∧ b.cabin ≠ -1 := by simpa [P.plP] using hp
      have hst' : (b.state != 3) = true := by simpa using hpp.1
      have hcb : 0 ≤ b.cabin := by omega
      have HP : Aside (P.plP b = true) := hp
      have hn : (P.planL (x.bks.take k)).length ≤ 1000 := by
        have h1 := planL_len (x.bks.take k)
        have h2 := List.length_take_le k x.bks
        omega
      have hwb : w.heap.size ≤ wr.heap.size := HB.out.size
      have HLL : Aside (P.planL (x.bks.take k) ++ [(b.id, b.cabin)] = P.planL (x.bks.take (k + 1))) := by
        show _ = _
        rw [HT.out, planL_snoc, HP.out]
        rfl
      clear hpp hp hlow
      go_upto_region 6 with (fail)
      clear hst' hcb
      refine wp_region_before (L := 15) (S := fun u : World => u.cell? ⟨w.heap.size, 11, none⟩ = some (.slice (some ⟨b2, off, none⟩) x.bks.length a.cap) ∧ u.cell? ⟨b2, off + k * 11, none⟩ = some (.int .i64 b.id) ∧ u.cell? ⟨b2, off + k * 11 + 5, none⟩ = some (.int .i64 b.cabin)) (by kernel_rfl) (fun hset => ?_)
      have hS : (fun u : World => u.cell? ⟨w.heap.size, 11, none⟩ = some (.slice (some ⟨b2, off, none⟩) x.bks.length a.cap) ∧ u.cell? ⟨b2, off + k * 11, none⟩ = some (.int .i64 b.id) ∧ u.cell? ⟨b2, off + k * 11 + 5, none⟩ = some (.int .i64 b.cabin)) { wr with drawn := wr.drawn + 1 } := ⟨cellIn (dr _) d11, cellIn (dr _) q0, cellIn (dr _) q5⟩
      refine wpAnyB_put0 (i := 0) (d := (some 28)) (v := ?_) hset rfl rfl (by kernel_rfl) (by kernel_rfl) (by kernel_rfl) (by decide) (fun _ _ _ h => h) (Or.inl ⟨by rfl, ?_⟩) (fun _ => hS) (fun hset => ?_)
      rotate_left
      · (intro w; go_simp; try with_reducible rfl)
      simp only [Act.put, List.setIfInBounds_toArray, List.set_cons_zero, List.set_cons_succ, List.getElem_toArray, List.getElem_cons_succ, List.getElem_cons_zero]
      refine wpAnyB_put0 (i := 1) (d := (some 29)) (v := ?_) hset rfl rfl (by kernel_rfl) (by kernel_rfl) (by kernel_rfl) (by decide) (fun _ _ _ h => h) (Or.inl ⟨by rfl, ?_⟩) (fun _ => hS) (fun hset => ?_)
      rotate_left
      · (intro w; go_simp; try with_reducible rfl)
      simp only [Act.put, List.setIfInBounds_toArray, List.set_cons_zero, List.set_cons_succ, List.getElem_toArray, List.getElem_cons_succ, List.getElem_cons_zero]
      refine wpAnyB_put (i := 2) (n := 40) (d := (some 30)) (v := ?_) hset rfl rfl (by kernel_rfl) (by kernel_rfl) (by kernel_rfl) (by kernel_rfl) (by decide) (fun _ _ _ h => h) (Or.inl ⟨by rfl, ?_⟩) hS (fun hset => ?_)
      rotate_left
      · (intro w hSw; (try dsimp only at hSw); go_simp; try with_reducible rfl)
      simp only [Act.put, List.setIfInBounds_toArray, List.set_cons_zero, List.set_cons_succ, List.getElem_toArray, List.getElem_cons_succ, List.getElem_cons_zero]
      refine wpAnyB_put0 (i := 3) (d := (some 31)) (v := ?_) hset rfl rfl (by kernel_rfl) (by kernel_rfl) (by kernel_rfl) (by decide) (fun _ _ _ h => h) (Or.inl ⟨by rfl, ?_⟩) (fun _ => hS) (fun hset => ?_)
      rotate_left
      · (intro w; go_simp; try with_reducible rfl)
      simp only [Act.put, List.setIfInBounds_toArray, List.set_cons_zero, List.set_cons_succ, List.getElem_toArray, List.getElem_cons_succ, List.getElem_cons_zero]
      refine wpAnyB_put0 (i := 4) (d := (some 32)) (v := ?_) hset rfl rfl (by kernel_rfl) (by kernel_rfl) (by kernel_rfl) (by decide) (fun _ _ _ h => h) (Or.inl ⟨by rfl, ?_⟩) (fun _ => hS) (fun hset => ?_)
      rotate_left
      · (intro w; go_simp; try with_reducible rfl)
      simp only [Act.put, List.setIfInBounds_toArray, List.set_cons_zero, List.set_cons_succ, List.getElem_toArray, List.getElem_cons_succ, List.getElem_cons_zero]
      refine wpAnyB_put0 (i := 5) (d := (some 33)) (v := ?_) hset rfl rfl (by kernel_rfl) (by kernel_rfl) (by kernel_rfl) (by decide) (fun _ _ _ h => h) (Or.inl ⟨by rfl, ?_⟩) (fun _ => hS) (fun hset => ?_)
      rotate_left
      · (intro w; go_simp; try with_reducible rfl)
      simp only [Act.put, List.setIfInBounds_toArray, List.set_cons_zero, List.set_cons_succ, List.getElem_toArray, List.getElem_cons_succ, List.getElem_cons_zero]
      refine wpAnyB_put (i := 6) (n := 40) (d := (some 34)) (v := ?_) hset rfl rfl (by kernel_rfl) (by kernel_rfl) (by kernel_rfl) (by kernel_rfl) (by decide) (fun _ _ _ h => h) (Or.inl ⟨by rfl, ?_⟩) hS (fun hset => ?_)
      rotate_left
      · (intro w hSw; (try dsimp only at hSw); go_simp; try with_reducible rfl)
      simp only [Act.put, List.setIfInBounds_toArray, List.set_cons_zero, List.set_cons_succ, List.getElem_toArray, List.getElem_cons_succ, List.getElem_cons_zero]
      refine wpAnyB_put0 (i := 7) (d := (some 35)) (v := ?_) hset rfl rfl (by kernel_rfl) (by kernel_rfl) (by kernel_rfl) (by decide) (fun _ _ _ h => h) (Or.inl ⟨by rfl, ?_⟩) (fun _ => hS) (fun hset => ?_)
      rotate_left
      · (intro w; go_simp; try with_reducible rfl)
      simp only [Act.put, List.setIfInBounds_toArray, List.set_cons_zero, List.set_cons_succ, List.getElem_toArray, List.getElem_cons_succ, List.getElem_cons_zero]
      refine wpAnyB_put (i := 8) (n := 40) (d := (some 36)) (v := ?_) hset rfl rfl (by kernel_rfl) (by kernel_rfl) (by kernel_rfl) (by kernel_rfl) (by decide) (fun _ _ _ h => h) (Or.inl ⟨by rfl, ?_⟩) hS (fun hset => ?_)
      rotate_left
      · (intro w hSw; (try dsimp only at hSw); go_simp; try with_reducible rfl)
      simp only [Act.put, List.setIfInBounds_toArray, List.set_cons_zero, List.set_cons_succ, List.getElem_toArray, List.getElem_cons_succ, List.getElem_cons_zero]
      refine wpAnyB_put0 (i := 9) (d := (some 37)) (v := ?_) hset rfl rfl (by kernel_rfl) (by kernel_rfl) (by kernel_rfl) (by decide) (fun _ _ _ h => h) (Or.inl ⟨by rfl, ?_⟩) (fun _ => hS) (fun hset => ?_)
      rotate_left
      · (intro w; go_simp; try with_reducible rfl)
      simp only [Act.put, List.setIfInBounds_toArray, List.set_cons_zero, List.set_cons_succ, List.getElem_toArray, List.getElem_cons_succ, List.getElem_cons_zero]
      refine wpAnyB_put0 (i := 10) (d := (some 38)) (v := ?_) hset rfl rfl (by kernel_rfl) (by kernel_rfl) (by kernel_rfl) (by decide) (fun _ _ _ h => h) (Or.inl ⟨by rfl, ?_⟩) (fun _ => hS) (fun hset => ?_)
      rotate_left
      · (intro w; go_simp; try with_reducible rfl)
      simp only [Act.put, List.setIfInBounds_toArray, List.set_cons_zero, List.set_cons_succ, List.getElem_toArray, List.getElem_cons_succ, List.getElem_cons_zero]
      refine wpAnyB_put0 (i := 11) (d := (some 39)) (v := ?_) hset rfl rfl (by kernel_rfl) (by kernel_rfl) (by kernel_rfl) (by decide) (fun _ _ _ h => h) (Or.inl ⟨by rfl, ?_⟩) (fun _ => hS) (fun hset => ?_)
      rotate_left
      · (intro w; go_simp; try with_reducible rfl)
      simp only [Act.put, List.setIfInBounds_toArray, List.set_cons_zero, List.set_cons_succ, List.getElem_toArray, List.getElem_cons_succ, List.getElem_cons_zero]
      refine wpAnyB_put (i := 12) (n := 40) (d := (some 40)) (v := ?_) hset rfl rfl (by kernel_rfl) (by kernel_rfl) (by kernel_rfl) (by kernel_rfl) (by decide) (fun _ _ _ h => h) (Or.inl ⟨by rfl, ?_⟩) hS (fun hset => ?_)
      rotate_left
      · (intro w hSw; (try dsimp only at hSw); go_simp; try with_reducible rfl)
      simp only [Act.put, List.setIfInBounds_toArray, List.set_cons_zero, List.set_cons_succ, List.getElem_toArray, List.getElem_cons_succ, List.getElem_cons_zero]
      refine wpAnyB_put0 (i := 13) (d := (some 41)) (v := ?_) hset rfl rfl (by kernel_rfl) (by kernel_rfl) (by kernel_rfl) (by decide) (fun _ _ _ h => h) (Or.inl ⟨by rfl, ?_⟩) (fun _ => hS) (fun hset => ?_)
      rotate_left
      · (intro w; go_simp; try with_reducible rfl)
      simp only [Act.put, List.setIfInBounds_toArray, List.set_cons_zero, List.set_cons_succ, List.getElem_toArray, List.getElem_cons_succ, List.getElem_cons_zero]
      refine wpAnyB_steps (rs := [14]) (by kernel_rfl) (by simp) ?_
      refine StepsB.ahead rfl hset (by kernel_rfl) (fun hset K hK => ?_) StepsB.nil
      simp only [List.getElem_toArray, List.getElem_cons_succ, List.getElem_cons_zero]
      go_simp
      refine hK.out _ _ ?_ (fun hS => ?_)
      · exact ⟨cellIn (bvia (dr _) (al _ _)) d11, cellIn (bvia (dr _) (al _ _)) q0, cellIn (bvia (dr _) (al _ _)) q5⟩
      clear hK K
      try simp only [Act.put, List.setIfInBounds_toArray, List.set_cons_zero, List.set_cons_succ, List.getElem_toArray, List.getElem_cons_succ, List.getElem_cons_zero]
      refine wpAnyB_steps (rs := [15]) (by kernel_rfl) (by simp) ?_
      refine StepsB.behind rfl hset (by kernel_rfl) (by kernel_rfl) (fun hset K hK => ?_) StepsB.nil
      have hO7 := plan_below HO (bvia (dr wr) (al _ (.cells #[.int .i64 b.id, .int .i64 b.cabin] 85)))
      refine step_of' (by rfl) (wpG_app3 (base := w.heap.size + 1) _ _ (by rfl) _ wr.heap.size (P.planL (x.bks.take k)) (P.planL (x.bks.take (k + 1))) b.id b.cabin HLL.out (by rfl) hO7.out (by rfl) (by simp) (by simp) hn (by simp; omega) ?_)
      intro g7 cap7 u7 own7 gr7
      have hB7 : Below w.heap.size w u7 := OwnC.grown (bvia HB.out (bvia (dr wr) (al _ (.cells #[.int .i64 b.id, .int .i64 b.cabin] 85)))) hO7.out (Nat.le_succ _) gr7
      have hX7 : SRow u7 w.heap.size x a := (HX.out.below (bvia (dr wr) (al _ _))).gr gr7 (OwnC.far hO7.out (Nat.lt_succ_self _))
      refine hK.out _ _ ?_
      clear hK K
      try simp only [Act.put, List.setIfInBounds_toArray, List.set_cons_zero, List.set_cons_succ, List.getElem_toArray, List.getElem_cons_succ, List.getElem_cons_zero]
      refine wpAnyB_put0 (i := 16) (d := (some 3)) (v := ?_) hset rfl rfl (by kernel_rfl) (by kernel_rfl) (by kernel_rfl) (by decide) (fun _ _ _ h => h) (Or.inl ⟨by rfl, ?_⟩) (fun h => absurd h (by decide)) (fun hset => ?_)
      rotate_left
      · (intro w; go_simp; try with_reducible rfl)
      simp only [Act.put, List.setIfInBounds_toArray, List.set_cons_zero, List.set_cons_succ, List.getElem_toArray, List.getElem_cons_succ, List.getElem_cons_zero]
      all_goals refine wpAnyB_done (by kernel_rfl) ?_ _
      have HB7 : Aside (Below w.heap.size w u7) := hB7
      have HX7 : Aside (SRow u7 w.heap.size x a) := hX7
      have HO7 : Aside (OwnG u7 (w.heap.size + 1) (.slice (some ⟨g7, 0, none⟩) (P.planL (x.bks.take (k + 1))).length cap7) (P.planL (x.bks.take (k + 1)))) := own7
      clear hO7 own7 gr7 hB7 hX7 hset hS d11 q0 q1 q2 q3 q4 q5 q6 q7 q8 q9 q10
      go_wp2
      go_roundg (x.bks.length - (k + 1))
      case measure => omega
      case rel => exact ⟨k + 1, _, by omega, rfl, rfl, by go_num, HO7, HB7, HX7⟩

end Go.Proofs.YtlamhfbdeinkkaeGreat.St
namespace Go.Proofs.YtlamhfbdeinkkaeGreat.St
open Go.RowKit Bk
set_option linter.unusedSimpArgs false
set_option linter.unusedVariables false
set_option maxRecDepth 10000

def T.V1 : Sail := P.turnS (P.onDay T.C 5)
def T.V2 : Sail := P.clS T.C [T.N1, P.setC T.Q1 0]
theorem t_late : P.lateI 5 T.C.bks = [9] := by decide +kernel
theorem t_cnt : P.cnt T.C.bks = 1 := by decide +kernel
theorem t_plan : P.planL T.V2.bks = [(7, 1), (9, 0)] := by decide +kernel
theorem t_first {f : Nat → Int} (h : P.Lex 1 [(0, 0), (0, 2)] f 1) : f 0 = 0 := by
  obtain ⟨h1, _, h3⟩ := h 0 (by decide)
  simp at h1
  rcases h1 with h1 | h1
  · exact h1
  · exfalso
    refine h3 0 (by simp) (by omega) ⟨fun _ => 0, ⟨fun i hi => ?_, fun i j hi hj _ => by omega⟩, fun i hi => ?_⟩
    · obtain rfl : i = 0 := by omega
      simp
    · obtain rfl : i = 0 := by omega
      simp [P.up]
theorem t_clS {f : Nat → Int} (h0 : f 0 = 0) : P.clS T.C (P.gv 1 f T.C.bks) = T.V2 := by
  show P.clS T.C (P.giv (P.upto 1 f) 0 [T.N1, T.Q1]) = T.V2
  have e1 : P.opn T.N1 = false := by decide +kernel
  have e2 : P.opn T.Q1 = true := by decide +kernel
  have e3 : P.upto 1 f 0 = 0 := by rw [P.upto, if_pos (by decide), h0]
  rw [P.giv, e1, if_neg (by decide), P.giv, e2, if_pos rfl, e3]
  rfl
theorem t_close {f : Nat → Int} (h : P.Lex (P.cnt T.C.bks) (P.pedg T.C.s T.C.bks 0 T.C.bks) f (P.cnt T.C.bks)) : P.clS T.C (P.gv (P.cnt T.C.bks) f T.C.bks) = T.V2 := by
  rw [t_cnt, t_ids.2] at h
  have h0 := t_first h
  rw [t_cnt]
  exact t_clS h0
theorem t_v2 : ∃ f, P.ext (P.cnt T.C.bks) (P.pedg T.C.s T.C.bks 0 T.C.bks) (P.cnt T.C.bks) f ∧ P.clS T.C (P.gv (P.cnt T.C.bks) f T.C.bks) = T.V2 := by
  refine ⟨fun _ => 0, ?_, ?_⟩
  · rw [t_cnt, t_ids.2]
    refine ⟨fun _ => 0, ⟨fun i hi => ?_, fun i j hi hj _ => by omega⟩, fun _ _ => rfl⟩
    obtain rfl : i = 0 := by omega
    simp
  · rw [t_cnt]
    exact t_clS rfl
theorem t_v2r : P.SailE T.V2 0 := by
  obtain ⟨f, h1, h2⟩ := t_v2
  rw [← h2]
  exact closed_right t_sail h1

theorem turn_C (a : SailA) (w : World) (s : SailAt w T.C a) :
    Calls Tryz.prog 32 #[V.sail T.C a, .int .i64 5] w fun e w' => ∃ a' v, e = .returned (.tuple #[V.sail T.V1 a', v, .int .i64 0]) ∧ SailUp w.heap.size w' T.V1 a' ∧ OwnJ w' w.heap.size v [9] ∧ Below w.heap.size w w' := by
  refine (voyTurn_any T.C a 5 w s).mono ?_
  rintro e w' ⟨r, y, a', v, l, rfl, h, u, o, hb⟩
  have hy : r = 0 ∧ y = T.V1 ∧ l = [9] := by
    rcases h with ⟨q, h1, h2, _⟩ | ⟨_, ⟨h1, _⟩ | ⟨_, h1, _⟩ | ⟨_, _, h1, h2, h3⟩⟩
    · exact absurd (SailE.one h1 t_sail) h2
    · exact absurd (show (0 : Int) ≤ 5 ∧ (5 : Int) ≤ 9999 by decide) h1
    · exact absurd h1 (by decide +kernel)
    · exact ⟨h1, h2, h3.trans t_late⟩
  obtain ⟨rfl, rfl, rfl⟩ := hy
  exact ⟨a', v, rfl, u, o, hb⟩
theorem close_C (a : SailA) (w : World) (s : SailAt w T.C a) :
    Calls Tryz.prog 33 #[V.sail T.C a] w fun e w' => ∃ a', e = .returned (.tuple #[V.sail T.V2 a', .int .i64 0]) ∧ SailUp w.heap.size w' T.V2 a' ∧ Below w.heap.size w w' := by
  refine (voyClose_any T.C a w s).mono ?_
  rintro e w' ⟨r, y, a', rfl, h, u, hb⟩
  have hy : r = 0 ∧ y = T.V2 := by
    rcases h with ⟨q, h1, h2, _⟩ | ⟨_, ⟨h1, _⟩ | ⟨_, h1, f, h2, _, h3⟩⟩
    · exact absurd (SailE.one h1 t_sail) h2
    · exact absurd h1 (by decide)
    · exact ⟨h1, h3.trans (t_close h2)⟩
  obtain ⟨rfl, rfl⟩ := hy
  exact ⟨a', rfl, u, hb⟩
theorem plan_C (a : SailA) (w : World) (s : SailAt w T.V2 a) :
    Calls Tryz.prog 34 #[V.sail T.V2 a] w fun e w' => ∃ v, e = .returned (.tuple #[v, .int .i64 0]) ∧ OwnG w' w.heap.size v [(7, 1), (9, 0)] ∧ Below w.heap.size w w' := by
  refine (voyPlan_any T.V2 a w s).mono ?_
  rintro e w' ⟨r, v, rfl, hr, h1, h3⟩
  obtain rfl := SailE.one hr t_v2r
  rw [P.ok, if_pos rfl, t_plan] at h1
  exact ⟨v, rfl, h1, h3⟩

set_option maxHeartbeats 16000000 in
theorem voyageBegun_any (w : World) : Calls Tryz.prog 38 #[] w fun e w' => e = .returned (.bool true) ∧ Below w.heap.size w w' := by
  go_enter Tryz.func38, Tryz.ntmps38
  go_wp2_with fail
  refine (cruise_any _).mono ?_
  rintro e w1 ⟨a1, rfl, s1, hb1⟩
  go_wp2_with fail
  refine (turn_C a1 _ s1).mono ?_
  rintro e w2 ⟨a2, v2, rfl, u2, o2, hb2⟩
  obtain ⟨ao2, c2, rfl, l2⟩ := OwnJ.at o2
  have R2 : Aside (RowIs (W.sail w2 T.V1 a2) w2.heap.size (C.sail T.V1 a2)) := RowIs.new w2 _ _
  have L2 : Aside (IntsAt (W.sail w2 T.V1 a2) ao2 c2 [9]) := SlAt.below RInt.mono l2 (sail_below w2 T.V1 a2)
  have B2 : Aside (Below w.heap.size w (W.sail w2 T.V1 a2)) := bvia hb1 (bvia hb2 (sail_below w2 T.V1 a2))
  clear hb1 hb2 u2 s1 l2 o2
  go_wp2_with fail
  change Calls Tryz.prog 42 #[] (W.sail w2 T.V1 a2) _
  generalize W.sail w2 T.V1 a2 = v2 at R2 L2 B2 ⊢
  refine (cruise_any _).mono ?_
  rintro e w3 ⟨a3, rfl, s3, hb3⟩
  go_wp2_with fail
  refine (close_C a3 _ s3).mono ?_
  rintro e w4 ⟨a4, rfl, u4, hb4⟩
  have K4 : Aside (Below v2.heap.size v2 (W.sail w4 T.V2 a4)) := bvia hb3 (bvia hb4 (sail_below w4 T.V2 a4))
  have R4 : Aside (RowIs (W.sail w4 T.V2 a4) w4.heap.size (C.sail T.V2 a4)) := RowIs.new w4 _ _
  have S4 : Aside (SailAt (W.sail w4 T.V2 a4) T.V2 a4) := u4.at.below (sail_below w4 T.V2 a4)
  clear hb3 hb4 u4 s3
  obtain ⟨d0, d1, d2, d3, d4, d5, d6, d7, d8, d9, d10, d11, d12⟩ := SRow.box R4.out
  go_wp2_with fail
  refine (plan_C a4 _ S4.out).mono ?_
  rintro e w5 ⟨v5, rfl, o5, hb5⟩
  obtain ⟨ao5, c5, rfl, l5⟩ := OwnC.at cellsG_len o5
  have hB5 := bvia K4.out hb5
  have L5 : Aside (GAt w5 ao5 c5 [(7, 1), (9, 0)]) := l5
  have L2' : Aside (IntsAt w5 ao2 c2 [9]) := SlAt.below RInt.mono L2.out hB5
  have m9 : w5.cell? ⟨w2.heap.size, 9, none⟩ = some (.int .i64 5) := (R2.out.below hB5).cell 9
  have n12 : w5.cell? ⟨w4.heap.size, 12, none⟩ = some (.bool true) := (R4.out.below hb5).cell 12
  have B5 : Aside (Below w.heap.size w w5) := bvia B2.out hB5
  clear d0 d1 d2 d3 d4 d5 d6 d7 d8 d9 d10 d11 d12 o5 l5 hb5 hB5 R2 L2 B2 K4 R4 S4
  have hk1 : w4.heap.size < w5.heap.size := World.block_lt_of_cell? w5 _ n12
  go_wp2_with fail
  refine (sameInts_eq ao2 (some ⟨w5.heap.size, 0, none⟩) c2 1 [9] _ (SlAt.below RInt.mono L2'.out (al _ _)) (int1_at w5 9)).mono ?_
  rintro e w6 ⟨rfl, hb6⟩
  have hB6 : Below w5.heap.size w5 w6 := bvia (al _ _) hb6
  have L6 : Aside (GAt w6 ao5 c5 [(7, 1), (9, 0)]) := SlAt.below (RC.mono _) L5.out hB6
  have B6 : Aside (Below w.heap.size w w6) := bvia B5.out hB6
  have n12' : w6.cell? ⟨w4.heap.size, 12, none⟩ = some (.bool true) := cellIn hB6 n12
  clear hb6 hB6 m9 n12 L5 B5 L2'
  go_wp2_with fail
  refine (sameEdges_any ao5 (some ⟨w6.heap.size, 0, none⟩) c5 2 [(7, 1), (9, 0)] [(7, 1), (9, 0)] _ (SlAt.below (RC.mono _) L6.out (al _ _)) (edges2_at w6 7 1 9 0)).mono ?_
  rintro e w7 ⟨rfl, hb7⟩
  have B7 : Aside (Below w.heap.size w w7) := bvia B6.out (bvia (al _ _) hb7)
  clear hb7 L6 n12'
  rw [show decide (([(7, 1), (9, 0)] : List (Int × Int)) = [(7, 1), (9, 0)]) = true from by decide]
  go_wp2
  go_ret
  exact ⟨rfl, B7.out⟩

end Go.Proofs.YtlamhfbdeinkkaeGreat.St
namespace Go.Proofs.YtlamhfbdeinkkaeGreat.St
open Go.RowKit Bk
set_option linter.unusedSimpArgs false
set_option linter.unusedVariables false
set_option maxRecDepth 10000

theorem turn_bad {x : Sail} {day v r : Int} {y : Sail} {l : List Int} (hv : P.SailE x v) (hn : ¬ v = 0) (h : P.TurnE x day r y l) : r = v ∧ y = P.zeroS ∧ l = [] := by
  rcases h with ⟨q, h1, h2, h3, h4, h5⟩ | ⟨h1, _⟩
  · exact ⟨h3.trans (SailE.one h1 hv), h4, h5⟩
  · exact absurd (SailE.one hv h1) hn
theorem turn_out {x : Sail} {day r : Int} {y : Sail} {l : List Int} (hv : P.SailE x 0) (hd : ¬ (0 ≤ day ∧ day ≤ 9999)) (h : P.TurnE x day r y l) : r = 3 ∧ y = P.zeroS ∧ l = [] := by
  rcases h with ⟨q, h1, h2, _⟩ | ⟨_, ⟨_, h⟩ | ⟨h1, _⟩ | ⟨h1, _⟩⟩
  · exact absurd (SailE.one h1 hv) h2
  · exact h
  · exact absurd h1 hd
  · exact absurd h1 hd
theorem turn_old {x : Sail} {day r : Int} {y : Sail} {l : List Int} (hv : P.SailE x 0) (hd : 0 ≤ day ∧ day ≤ 9999) (ho : day ≤ x.day) (h : P.TurnE x day r y l) : r = 4 ∧ y = P.zeroS ∧ l = [] := by
  rcases h with ⟨q, h1, h2, _⟩ | ⟨_, ⟨h1, _⟩ | ⟨_, _, h⟩ | ⟨_, h1, _⟩⟩
  · exact absurd (SailE.one h1 hv) h2
  · exact absurd hd h1
  · exact h
  · omega
theorem turn_ok {x : Sail} {day r : Int} {y : Sail} {l : List Int} (hv : P.SailE x 0) (hd : 0 ≤ day ∧ day ≤ 9999) (ho : ¬ day ≤ x.day) (h : P.TurnE x day r y l) : r = 0 ∧ y = P.turnS (P.onDay x day) ∧ l = P.lateI day x.bks := by
  rcases h with ⟨q, h1, h2, _⟩ | ⟨_, ⟨h1, _⟩ | ⟨_, h1, _⟩ | ⟨_, _, h⟩⟩
  · exact absurd (SailE.one h1 hv) h2
  · exact absurd hd h1
  · exact absurd h1 ho
  · exact h
theorem close_bad {x : Sail} {v r : Int} {y : Sail} (hv : P.SailE x v) (hn : ¬ v = 0) (h : P.CloseE x r y) : r = v ∧ y = P.zeroS := by
  rcases h with ⟨q, h1, h2, h3, h4⟩ | ⟨h1, _⟩
  · exact ⟨h3.trans (SailE.one h1 hv), h4⟩
  · exact absurd (SailE.one hv h1) hn
theorem close_cl {x : Sail} {r : Int} {y : Sail} (hv : P.SailE x 0) (hc : x.cl = true) (h : P.CloseE x r y) : r = 4 ∧ y = P.zeroS := by
  rcases h with ⟨q, h1, h2, _⟩ | ⟨_, ⟨_, h⟩ | ⟨h1, _⟩⟩
  · exact absurd (SailE.one h1 hv) h2
  · exact h
  · rw [hc] at h1
    cases h1
theorem close_ok {x : Sail} {r : Int} {y : Sail} (hv : P.SailE x 0) (hc : x.cl = false) (h : P.CloseE x r y) : r = 0 ∧ ∃ f, P.Lex (P.cnt x.bks) (P.pedg x.s x.bks 0 x.bks) f (P.cnt x.bks) ∧ P.ext (P.cnt x.bks) (P.pedg x.s x.bks 0 x.bks) (P.cnt x.bks) f ∧ y = P.clS x (P.gv (P.cnt x.bks) f x.bks) := by
  rcases h with ⟨q, h1, h2, _⟩ | ⟨_, ⟨h1, _⟩ | ⟨_, h⟩⟩
  · exact absurd (SailE.one h1 hv) h2
  · rw [hc] at h1
    cases h1
  · exact h
theorem rG {w w' : World} {ao : Option Addr} {cap : Nat} {l : List (Int × Int)} (h : Aside (GAt w ao cap l)) (hb : Below w.heap.size w w') : Aside (GAt w' ao cap l) := SlAt.below (RC.mono _) h.out hb
theorem oB {w w' : World} {base : Nat} {v : Value} {l : List Int} (h : Aside (OwnJ w base v l)) (hb : Below w.heap.size w w') : Aside (OwnJ w' base v l) := OwnC.below h.out hb
theorem oG {w w' : World} {base g : Nat} {v : Value} {l : List Int} (h : Aside (OwnJ w base v l)) (hg : w.grownBy w' (some g)) (hb : g < base) : Aside (OwnJ w' base v l) := OwnC.apart h.out hg (fun r e hv => by cases e; have := (h.out.lt _ hv).1; omega)
theorem turnOf_is (x : Sail) (a : SailA) (d : Int) (y : Sail) (l : List Int) (w0 w : World) (hb00 : Below w0.heap.size w0 w) (hs0 : SailAt w0 x a) (hE : P.SailE x 0) (hd : 0 ≤ d ∧ d ≤ 9999) (hy : y = P.turnS (P.onDay x d)) (hl : l = P.lateI d x.bks) :
    Calls Tryz.prog 35 #[V.sail x a, .int .i64 d] w fun e w' => ∃ a' v, e = .returned (.tuple #[V.sail y a', v]) ∧ SailTw w0.heap.size w.heap.size w' y a' ∧ OwnJ w' w.heap.size v l ∧ Below w.heap.size w w' := by
  subst hy
  subst hl
  exact turnOf_any x a d w0 w hb00 hs0 hE hd
theorem closeOf_is (x : Sail) (a : SailA) (f : Nat → Int) (y : Sail) (w0 w : World) (hb00 : Below w0.heap.size w0 w) (hs0 : SailAt w0 x a) (hE : P.SailE x 0) (hL : P.Lex (P.cnt x.bks) (P.pedg x.s x.bks 0 x.bks) f (P.cnt x.bks)) (hx : P.ext (P.cnt x.bks) (P.pedg x.s x.bks 0 x.bks) (P.cnt x.bks) f) (hy : y = P.clS x (P.gv (P.cnt x.bks) f x.bks)) :
    Calls Tryz.prog 36 #[V.sail x a] w fun e w' => ∃ a', e = .returned (V.sail y a') ∧ SailTw w0.heap.size w.heap.size w' y a' ∧ Below w.heap.size w w' := by
  subst hy
  exact closeOf_any x a f w0 w hb00 hs0 hE hL hx

set_option maxHeartbeats 32000000 in
theorem voyageTells_bad (x : Sail) (a : SailA) (day : Int) (w : World) (hs : SailAt w x a) (v : Int) (HE : Aside (P.SailE x v)) (hn : ¬ v = 0) :
    Calls Tryz.prog 8 #[V.sail x a, .int .i64 day] w fun e w' => e = .returned (.bool true) ∧ Below w.heap.size w w' := by
  have HS : Aside (SailAt w x a) := hs
  have HW : Aside (Below w.heap.size w (W.sail w x a)) := sail_below w x a
  have HX : Aside (SRow (W.sail w x a) w.heap.size x a) := RowIs.new w _ _
  clear hs
  obtain ⟨d0, d1, d2, d3, d4, d5, d6, d7, d8, d9, d10, d11, d12⟩ := SRow.box HX.out
  go_enter Tryz.func8, Tryz.ntmps8
  go_wp2_with fail
  refine (voyTurn_any x a day _ (HS.out.below HW.out)).mono ?_
  rintro e w1 ⟨r1, y1, a1, v1, l1, rfl, hS1, hU1, hO1, hb1⟩
  replace HW := rW HW hb1
  replace HX := rA HX hb1
  clear d0 d1 d2 d3 d4 d5 d6 d7 d8 d9 d10 d11 d12
  obtain ⟨ao1, c1, rfl, hI1⟩ := OwnJ.at hO1
  have HS1 := asv hS1
  have hs1' := sail_below w1 y1 a1
  have HA1 : Aside (SailAt (W.sail w1 y1 a1) y1 a1) := hU1.at.below hs1'
  have HR1 : Aside (SRow (W.sail w1 y1 a1) w1.heap.size y1 a1) := RowIs.new w1 _ _
  have HI1 : Aside (IntsAt (W.sail w1 y1 a1) ao1 c1 l1) := SlAt.below RInt.mono hI1 hs1'
  replace HW := rW HW hs1'
  replace HX := rA HX hs1'
  clear hS1 hU1 hO1 hI1 hb1 hs1'
  obtain ⟨d0, d1, d2, d3, d4, d5, d6, d7, d8, d9, d10, d11, d12⟩ := SRow.box HX.out
  go_wp2_with fail
  refine (voyClose_any x a _ (HS.out.below HW.out)).mono ?_
  rintro e w2 ⟨r2, y2, a2, rfl, hS2, hU2, hb2⟩
  replace HW := rW HW hb2
  replace HX := rA HX hb2
  replace HA1 := rS HA1 hb2
  replace HR1 := rA HR1 hb2
  replace HI1 := rI HI1 hb2
  clear d0 d1 d2 d3 d4 d5 d6 d7 d8 d9 d10 d11 d12
  have HS2 := asv hS2
  have hs2' := sail_below w2 y2 a2
  have HA2 : Aside (SailAt (W.sail w2 y2 a2) y2 a2) := hU2.at.below hs2'
  have HR2 : Aside (SRow (W.sail w2 y2 a2) w2.heap.size y2 a2) := RowIs.new w2 _ _
  replace HW := rW HW hs2'
  replace HX := rA HX hs2'
  replace HA1 := rS HA1 hs2'
  replace HR1 := rA HR1 hs2'
  replace HI1 := rI HI1 hs2'
  clear hS2 hU2 hb2 hs2'
  obtain ⟨d0, d1, d2, d3, d4, d5, d6, d7, d8, d9, d10, d11, d12⟩ := SRow.box HX.out
  go_wp2_with fail
  refine (voyPlan_any x a _ (HS.out.below HW.out)).mono ?_
  rintro e w3 ⟨r3, v3, rfl, hS3, hO3, hb3⟩
  replace HW := rW HW hb3
  replace HX := rA HX hb3
  replace HA1 := rS HA1 hb3
  replace HR1 := rA HR1 hb3
  replace HI1 := rI HI1 hb3
  replace HA2 := rS HA2 hb3
  replace HR2 := rA HR2 hb3
  clear d0 d1 d2 d3 d4 d5 d6 d7 d8 d9 d10 d11 d12
  obtain rfl := SailE.one HE.out hS3
  rw [show P.ok v (P.planL x.bks) = [] from if_neg hn] at hO3
  obtain ⟨ao3, c3, rfl, hI3⟩ := OwnC.at cellsG_len hO3
  have HI3 : Aside (GAt w3 ao3 c3 []) := hI3
  clear hS3 hO3 hI3 hb3
  obtain ⟨d0, d1, d2, d3, d4, d5, d6, d7, d8, d9, d10, d11, d12⟩ := SRow.box HX.out
  go_wp2_with fail
  refine (refSail_any x a _ (HS.out.below HW.out)).mono ?_
  rintro e w4 ⟨v4, rfl, hv, hb4⟩
  replace HW := rW HW hb4
  replace HX := rA HX hb4
  replace HA1 := rS HA1 hb4
  replace HR1 := rA HR1 hb4
  replace HI1 := rI HI1 hb4
  replace HA2 := rS HA2 hb4
  replace HR2 := rA HR2 hb4
  replace HI3 := rG HI3 hb4
  clear d0 d1 d2 d3 d4 d5 d6 d7 d8 d9 d10 d11 d12
  obtain rfl := SailE.one HE.out hv
  clear hv hb4
  have hzb : Below w4.heap.size w4 ((w4.alloc O.zs).alloc O.zs) := bvia (al _ _) (al _ _)
  have HV : Aside (Below w4.heap.size w4 ((w4.alloc O.zs).alloc O.zs)) := hzb
  have hw4 : w.heap.size < w4.heap.size := HX.out.lt
  have hr1 : w1.heap.size < w4.heap.size := HR1.out.lt
  have hr2 : w2.heap.size < w4.heap.size := HR2.out.lt
  have HZ1 : Aside (RowIs ((w4.alloc O.zs).alloc O.zs) (w4.heap.size) C.zs) := (RowIs.new w4 C.zs 32).below (al _ _)
  have HZ2 : Aside (RowIs ((w4.alloc O.zs).alloc O.zs) (w4.heap.size + 1) C.zs) := by
    have := RowIs.new (w4.alloc O.zs) C.zs 32
    rwa [World.size_alloc] at this
  obtain ⟨e1, rfl, rfl⟩ := turn_bad HE.out hn HS1.out
  obtain ⟨e2, rfl⟩ := close_bad HE.out hn HS2.out
  rw [e1, e2]
  clear e1 e2
  clear HS1 HS2
  obtain ⟨d0, d1, d2, d3, d4, d5, d6, d7, d8, d9, d10, d11, d12⟩ := SRow.box HX.out
  replace HW := rW HW hzb
  have HX' := rA HX hzb
  replace HR1 := rA HR1 hzb
  replace HR2 := rA HR2 hzb
  have HZV : Aside (w4.heap.size + 1 + 1 ≤ ((w4.alloc O.zs).alloc O.zs).heap.size) := by show _ ≤ _; simp only [World.size_alloc]; omega
  clear hzb
  have hv0 : (v == 0) = false := by simpa using hn
  have HNV : Aside (¬ v = 0) := hn
  clear hn
  go_wp2_with fail
  clear d0 d1 d2 d3 d4 d5 d6 d7 d8 d9 d10 d11 d12 HX
  have HX := HX'
  clear HX'
  refine (voyageBegun_any _).mono ?_
  rintro e wb ⟨rfl, hbb⟩
  replace HW := rW HW hbb
  replace HX := rA HX hbb
  replace HR1 := rA HR1 hbb
  replace HR2 := rA HR2 hbb
  replace HZ1 := rA HZ1 hbb
  replace HZ2 := rA HZ2 hbb
  replace HV := rW HV hbb
  clear hbb
  obtain ⟨d0, d1, d2, d3, d4, d5, d6, d7, d8, d9, d10, d11, d12⟩ := SRow.box HR1.out
  obtain ⟨e0, e1, e2, e3, e4, e5, e6, e7, e8, e9, e10, e11, e12⟩ := zs_cells HZ1.out
  go_wp2_with fail
  refine (sailingIs_any v P.zeroS P.zeroS a1 A.zeroS _ (HA1.out.below HV.out) (fun h => absurd h HNV.out) (fun _ => rfl)).mono ?_
  rintro e wi1 ⟨rfl, hbi1⟩
  replace HW := rW HW hbi1
  replace HX := rA HX hbi1
  replace HR1 := rA HR1 hbi1
  replace HR2 := rA HR2 hbi1
  replace HZ1 := rA HZ1 hbi1
  replace HZ2 := rA HZ2 hbi1
  replace HV := rW HV hbi1
  clear d0 d1 d2 d3 d4 d5 d6 d7 d8 d9 d10 d11 d12 e0 e1 e2 e3 e4 e5 e6 e7 e8 e9 e10 e11 e12 hbi1
  go_wp2_with fail
  refine (sameInts_eq ao1 none c1 0 [] _ (SlAt.below RInt.mono HI1.out HV.out) (SlAt.nilOf _)).mono ?_
  rintro e wj ⟨rfl, hbj⟩
  replace HW := rW HW hbj
  replace HX := rA HX hbj
  replace HR1 := rA HR1 hbj
  replace HR2 := rA HR2 hbj
  replace HZ1 := rA HZ1 hbj
  replace HZ2 := rA HZ2 hbj
  replace HV := rW HV hbj
  clear hbj
  obtain ⟨d0, d1, d2, d3, d4, d5, d6, d7, d8, d9, d10, d11, d12⟩ := SRow.box HR2.out
  obtain ⟨e0, e1, e2, e3, e4, e5, e6, e7, e8, e9, e10, e11, e12⟩ := zs_cells HZ2.out
  go_wp2_with fail
  refine (sailingIs_any v P.zeroS P.zeroS a2 A.zeroS _ (HA2.out.below HV.out) (fun h => absurd h HNV.out) (fun _ => rfl)).mono ?_
  rintro e wi2 ⟨rfl, hbi2⟩
  replace HW := rW HW hbi2
  replace HX := rA HX hbi2
  replace HR1 := rA HR1 hbi2
  replace HR2 := rA HR2 hbi2
  replace HZ1 := rA HZ1 hbi2
  replace HZ2 := rA HZ2 hbi2
  replace HV := rW HV hbi2
  clear d0 d1 d2 d3 d4 d5 d6 d7 d8 d9 d10 d11 d12 e0 e1 e2 e3 e4 e5 e6 e7 e8 e9 e10 e11 e12 hbi2
  go_wp2_with fail
  refine (sameEdges_any ao3 none c3 0 [] [] _ (SlAt.below (RC.mono _) HI3.out HV.out) (SlAt.nilOf _)).mono ?_
  rintro e wk ⟨rfl, hbk⟩
  have HWK := rW HW hbk
  clear hbk
  rw [decide_eq_true rfl]
  go_wp2
  go_ret
  exact ⟨rfl, HWK.out⟩


end Go.Proofs.YtlamhfbdeinkkaeGreat.St
