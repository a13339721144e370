/- Walks of the reference's AddSpan and TakeSpan. -/
import Derived.Test.YtnadhpemmehedaaSpanL
import Derived.Lib.QuietBelow
import Derived.Deep.Onto
namespace Go.Proofs.Ytnadhpemmehedaa
open Go.RowKit
set_option linter.unusedSimpArgs false
set_option linter.unusedVariables false

theorem Own.below {w w' : World} {base : Nat} {v : Value} {l : List (Int × Int)} (h : Own w base v l) (hb : Below w.heap.size w w') : Own w' base v l := by
  refine ⟨h.1, ?_⟩
  rcases h.2 with h2 | ⟨g, cap, cur, hv, hg, hh, r⟩
  · exact Or.inl h2
  · refine Or.inr ⟨g, cap, cur, hv, hg, ?_, r⟩
    rw [hb.block g (Array.getElem?_eq_some_iff.1 hh).1]
    exact hh

theorem cellOf {w w' : World} {b o : Nat} {v : Value} (hB : Below w.heap.size w w') (h : w.cell? ⟨b, o, Option.none⟩ = some v) : w'.cell? ⟨b, o, Option.none⟩ = some v := by
  rw [hB.cell (p := ⟨b, o, Option.none⟩) (World.block_lt_of_cell? w _ h)]; exact h

theorem grown_below {w W0 w' : World} {base : Nat} {v : Value} {l : List (Int × Int)} (hB : Below w.heap.size w W0) (hown : Own W0 base v l) (hb : w.heap.size ≤ base) (hg : W0.grownBy w' v.ownBlock) : Below w.heap.size w w' :=
  hB.grown hg hB.size (fun j hj => Nat.le_trans hb (hown.lt j hj).1)

/-- 'append(v, s)', s laid into a block of its own just ahead. -/
theorem wpList_append_span {ops : Array Oper} {rest : List Oper} {o : Oper} {a : Act} {Q : Exit → Act → World → Prop} {W0 : World} (hgd : o.guard = none) (s x : Operand)
    (ho : o.op = .call { callee := .builtin .append, args := #[s, x], argTypes := #[22, 22] }) (base : Nat) (v : Value) (l : List (Int × Int)) (f t : Int) (hs : a.eval s = v) (hown : Own W0 base v l)
    (hx : a.eval x = .slice (some ⟨W0.heap.size, 0, Option.none⟩) 1 1) (hb : base ≤ W0.heap.size) (hn : l.length ≤ 1000)
    (h : ∀ v' w', Own w' base v' (l ++ [(f, t)]) → W0.grownBy w' v.ownBlock → wpList Try.prog ops Q rest (a.put o.dst v') w') : wpList Try.prog ops Q (o :: rest) a (W0.alloc (.cells #[.int .i64 f, .int .i64 t] 24)) := by
  obtain ⟨i0, hi, hi0, hi1, hi2⟩ := info_parts Try.infoSpan
  refine wpList_append_own _ hgd s x 22 ho base 24 i0 _ 2 16 Try.underlying22 hi hi0 hi1 hi2 rfl (by decide) v l.length (cellsOf l) hs (hown.alloc _) ⟨W0.heap.size, 0, Option.none⟩ 1 1 [.int .i64 f, .int .i64 t] hx rfl (news_two f t) (by simp; exact ⟨rfl, rfl⟩) (by simp only [maxLen]; omega) (by omega) (by simp; omega) ?_
  intro v' w' h1 h2 _
  refine h v' w' ?_ (grown_alloc h2)
  simpa [Own, cellsOf_append, cellsOf] using h1

theorem ins_len (f t : Int) (l : List (Int × Int)) : (P.ins f t l).length = l.length + 1 := by
  induction l with
  | nil => rfl
  | cons s l ih =>
    rw [P.ins]
    split <;> simp [ih]

theorem getSpan {l : List (Int × Int)} {k : Nat} {a b : Int} (hk : k < l.length) (hd : l.drop k = (a, b) :: l.drop (k + 1)) : (a, b) ∈ l := by
  have := List.mem_cons_self (a := (a, b)) (l := l.drop (k + 1))
  rw [← hd] at this
  exact List.mem_of_mem_drop this

def P.anyMeet (l : List (Int × Int)) (f t : Int) : Bool := l.any fun s => P.meet s.1 s.2 f t
def P.refAddE (l : List (Int × Int)) (f t : Int) : Int := if P.anyMeet l f t = true then 6 else 0
def P.refAddL (l : List (Int × Int)) (f t : Int) : List (Int × Int) := if P.anyMeet l f t = true then [] else P.ins f t l

set_option maxHeartbeats 4000000 in
theorem addSpan_any (ao : Option Addr) (cap : Nat) (l : List (Int × Int)) (n f t : Int) (w : World) (hl : SpAt w ao cap l) (hcal : P.calendar l n = 0) (hck : P.chk f t n = 0) :
    Calls Try.prog 16 #[.slice ao l.length cap, .agg #[.int .i64 f, .int .i64 t]] w fun e w' => ∃ v', e = .returned (.tuple #[v', .int .i64 (P.refAddE l f t)]) ∧ Own w' w.heap.size v' (P.refAddL l f t) ∧ Below w.heap.size w w' := by
  obtain ⟨h7, hcl, hsl⟩ := calendar_len hcal
  have hz := chk_zero hck
  have hle := hl.le
  obtain ⟨i0, hi, hi0, hi1, hi2⟩ := info_parts Try.infoSpan
  have HCL : Aside (P.cal n 0 l = 0) := hcl
  clear hcal hck hcl
  go_enter Try.func16, Try.ntmps16
  go_wp2
  go_loopg [6, 7, 8] l.length (fun g v pu i wr => ∃ (k : Nat) (acc : List (Int × Int)) (put : Bool), k ≤ l.length ∧ g = l.length - k ∧ i = .int .i64 k ∧ pu = .bool put ∧ Own wr (w.heap.size + 1) v acc ∧
      (put = true → acc ++ l.drop k = P.ins f t l) ∧ (put = false → acc ++ P.ins f t (l.drop k) = P.ins f t l) ∧ (∀ s ∈ l.take k, P.meet s.1 s.2 f t = false) ∧ BoxAt wr w.heap.size f t ∧ Below w.heap.size w wr)
  case atStart => exact ⟨0, [], false, Nat.zero_le _, rfl, rfl, rfl, World.ownsRow_nil _ _ _ _, (fun h => by cases h), (fun _ => rfl), (by simp), BoxAt.new w f t, by go_grown⟩
  case round =>
    obtain ⟨k, acc, put, hk, rfl, rfl, rfl, hown, hP1, hP0, hno, hbox, hB⟩ := hrel
    have hBs := hB.size
    have hacc : acc.length ≤ 8 := by
      cases put
      · have := congrArg List.length (hP0 rfl); simp [ins_len] at this; omega
      · have := congrArg List.length (hP1 rfl); simp [ins_len] at this; omega
    have HP1 : Aside (put = true → acc ++ l.drop k = P.ins f t l) := hP1
    have HP0 : Aside (put = false → acc ++ P.ins f t (l.drop k) = P.ins f t l) := hP0
    have HN : Aside (∀ s ∈ l.take k, P.meet s.1 s.2 f t = false) := hno
    clear hP1 hP0 hno
    by_cases hlt : k < l.length
    · obtain ⟨b, off, a, c, rfl, hbw, hd, hcw0, hcw1⟩ := hl.get (Below.refl _ _) k hlt
      have hc0 := cellOf hB hcw0
      have hc1 := cellOf hB hcw1
      have hm := cal_mem HCL.out (getSpan hlt hd)
      simp only at hm
      obtain ⟨hm1, hm2, hm3⟩ := hm
      have HD : Aside (l.drop k = (a, c) :: l.drop (k + 1)) := hd
      clear hd
      obtain ⟨hx0, hx1, hx2⟩ := hbox
      have hi1' : (k : Int) < (l.length : Int) := by omega
      have hi2' : (0 : Int) ≤ (k : Int) := by omega
      have r0 := cell_regrown hc0
      have r1 := cell_regrown hc1
      have r2 := cell_regrown hx1
      have r3 := cell_regrown hx2
      cases hmt : P.meet a c f t
      · go_wp2
        refine wp_region_quiet_below (by kernel_rfl) (by kernel_rfl) ?_
        repeat (quiet_step (exact Calls.regrown_of (doMeet_any _ _ _ _ _ hm1 hm2 (by omega) hz.1 hz.2.1 (by omega))))
        refine wpQuiet_nil ?_
        intro w2 hw2
        obtain ⟨⟨dq, osq⟩, hw2⟩ := hw2
        have hb2 := below_regrown wr dq osq
        rw [← hw2] at hb2
        clear hw2 r0 r1 r2 r3
        rw [hmt]
        have hbox2 : BoxAt w2 w.heap.size f t := (BoxAt.mk hx0 hx1 hx2).below hb2
        have hB2 := bvia hB hb2
        have hBs2 := hB2.size
        have hown2 := hown.below hb2
        have hc02 := cellOf hB2 hcw0
        have hc12 := cellOf hB2 hcw1
        have HNN : Aside (∀ s ∈ l.take (k + 1), P.meet s.1 s.2 f t = false) := by
          intro s hs
          have e : l.take (k + 1) = l.take k ++ [(a, c)] := by
            have h1 := List.drop_eq_getElem_cons hlt
            rw [HD.out] at h1
            simp only [List.cons.injEq] at h1
            rw [h1.1, List.take_succ_eq_append_getElem hlt]
          rw [e, List.mem_append] at hs
          rcases hs with hs | hs
          · exact HN.out s hs
          · simp at hs; subst hs; exact hmt
        clear hown hB hBs hb2 hc0 hc1 hx0 hx1 hx2 HN
        have hf3 := hbox2.from_
        have ht3 := hbox2.to_
        cases put
        · by_cases hfa : f < a
          · have hfa' : decide (f < a) = true := by simpa using hfa
            have HS : Aside (acc ++ [(f, t)] ++ [(a, c)] ++ l.drop (k + 1) = P.ins f t l) := by
              have := HP0.out rfl
              rw [HD.out, P.ins, if_pos hfa] at this
              show _ = _
              simpa using this
            clear HP0 HP1
            go_wp2
            go_quiet (fail)
            have hB3 : Below w.heap.size w (w2.drewN nq) := below_drewN hB2 _
            have hown3 := hown2.below (below_drewN (Below.refl w2.heap.size w2) nq)
            have hbox3 := hbox2.below (below_drewN (Below.refl w2.heap.size w2) nq)
            have hs3 : w.heap.size + 1 ≤ (w2.drewN nq).heap.size := hbox3.lt
            go_wp2_with (first
              | (at_builtin; refine wpList_append_span rfl (.tmp 33) (.tmp 35) rfl (w.heap.size + 1) _ acc f t rfl hown3 rfl hs3 (by omega) ?_; intro v4 w4 hown4 hgrow4; have hB4 := grown_below hB3 hown3 (by omega) hgrow4; have hc04 := cellOf hB4 hcw0; have hc14 := cellOf hB4 hcw1; have hbox4 := hbox3.grown hgrow4 (fun e => by have := (hown3.lt _ e.symm).1; omega); have hs4 : w.heap.size + 1 ≤ w4.heap.size := hbox4.lt)
              | (at_builtin; refine wpList_append_span rfl (.tmp 37) (.tmp 42) rfl (w.heap.size + 1) _ (acc ++ [(f, t)]) a c rfl hown4 rfl hs4 (by simp; omega) ?_; intro v5 w5 hown5 hgrow5; have hB5 := grown_below hB4 hown4 (by omega) hgrow5; have hbox5 := hbox4.grown hgrow5 (fun e => by have := (hown4.lt _ e.symm).1; omega)))
            go_roundg (l.length - (k + 1))
            case measure => omega
            case rel => exact ⟨k + 1, acc ++ [(f, t)] ++ [(a, c)], true, by omega, rfl, by go_num, rfl, hown5, (fun _ => HS.out), (fun h => by cases h), HNN.out, hbox5, hB5⟩
          · have hfa' : decide (f < a) = false := by simpa using hfa
            have HS : Aside (acc ++ [(a, c)] ++ P.ins f t (l.drop (k + 1)) = P.ins f t l) := by
              have := HP0.out rfl
              rw [HD.out, P.ins, if_neg hfa] at this
              show _ = _
              simpa using this
            clear HP0 HP1
            go_wp2
            go_quiet (fail)
            have hB3 : Below w.heap.size w (w2.drewN nq) := below_drewN hB2 _
            have hown3 := hown2.below (below_drewN (Below.refl w2.heap.size w2) nq)
            have hbox3 := hbox2.below (below_drewN (Below.refl w2.heap.size w2) nq)
            have hs3 : w.heap.size + 1 ≤ (w2.drewN nq).heap.size := hbox3.lt
            go_wp2_with (at_builtin; refine wpList_append_span rfl (.tmp 37) (.tmp 42) rfl (w.heap.size + 1) _ acc a c rfl hown3 rfl hs3 (by omega) ?_; intro v5 w5 hown5 hgrow5; have hB5 := grown_below hB3 hown3 (by omega) hgrow5; have hbox5 := hbox3.grown hgrow5 (fun e => by have := (hown3.lt _ e.symm).1; omega))
            go_roundg (l.length - (k + 1))
            case measure => omega
            case rel => exact ⟨k + 1, acc ++ [(a, c)], false, by omega, rfl, by go_num, rfl, hown5, (fun h => by cases h), (fun _ => HS.out), HNN.out, hbox5, hB5⟩
        · have HS : Aside (acc ++ [(a, c)] ++ l.drop (k + 1) = P.ins f t l) := by
            have := HP1.out rfl
            rw [HD.out] at this
            show _ = _
            simpa using this
          clear HP0 HP1
          go_wp2
          go_quiet (fail)
          have hB3 : Below w.heap.size w (w2.drewN nq) := below_drewN hB2 _
          have hown3 := hown2.below (below_drewN (Below.refl w2.heap.size w2) nq)
          have hbox3 := hbox2.below (below_drewN (Below.refl w2.heap.size w2) nq)
          have hs3 : w.heap.size + 1 ≤ (w2.drewN nq).heap.size := hbox3.lt
          go_wp2_with (at_builtin; refine wpList_append_span rfl (.tmp 37) (.tmp 42) rfl (w.heap.size + 1) _ acc a c rfl hown3 rfl hs3 (by omega) ?_; intro v5 w5 hown5 hgrow5; have hB5 := grown_below hB3 hown3 (by omega) hgrow5; have hbox5 := hbox3.grown hgrow5 (fun e => by have := (hown3.lt _ e.symm).1; omega))
          go_roundg (l.length - (k + 1))
          case measure => omega
          case rel => exact ⟨k + 1, acc ++ [(a, c)], true, by omega, rfl, by go_num, rfl, hown5, (fun _ => HS.out), (fun h => by cases h), HNN.out, hbox5, hB5⟩
      · have HM : Aside (P.anyMeet l f t = true) := by
          show _ = _
          unfold P.anyMeet
          rw [List.any_eq_true]
          exact ⟨(a, c), getSpan hlt HD.out, hmt⟩
        go_wp2
        refine wp_region_quiet_below (by kernel_rfl) (by kernel_rfl) ?_
        repeat (quiet_step (exact Calls.regrown_of (doMeet_any _ _ _ _ _ hm1 hm2 (by omega) hz.1 hz.2.1 (by omega))))
        refine wpQuiet_nil ?_
        intro w2 hw2
        obtain ⟨⟨dq, osq⟩, hw2⟩ := hw2
        have hb2 := below_regrown wr dq osq
        rw [← hw2] at hb2
        clear hw2
        rw [hmt]
        go_wp2
        go_ret2
        exact ⟨_, ret2_int (by rw [P.refAddE, if_pos HM.out]), by rw [P.refAddL, if_pos HM.out]; exact World.ownsRow_nil _ _ _ _, bvia hB hb2⟩
    · obtain rfl : k = l.length := by omega
      have HM : Aside (P.anyMeet l f t = false) := by
        show _ = _
        unfold P.anyMeet
        rw [List.any_eq_false]
        intro x hx
        have := HN.out x (by rw [List.take_of_length_le (Nat.le_refl _)]; exact hx)
        simp [this]
      have e0 : Aside (P.refAddE l f t = 0) := by show _ = _; rw [P.refAddE, HM.out]; simp
      have e1 : Aside (P.refAddL l f t = P.ins f t l) := by show _ = _; rw [P.refAddL, HM.out]; simp
      have hf3 := hbox.from_
      have ht3 := hbox.to_
      have hs3 : w.heap.size + 1 ≤ wr.heap.size := hbox.lt
      cases put
      · have HS : Aside (acc ++ [(f, t)] = P.ins f t l) := by
          have := HP0.out rfl
          rw [List.drop_of_length_le (Nat.le_refl _), P.ins] at this
          exact this
        clear HP0 HP1 HN HM
        go_wp2_with (at_builtin; refine wpList_append_span rfl (.tmp 46) (.tmp 48) rfl (w.heap.size + 1) _ acc f t rfl hown rfl hs3 (by omega) ?_; intro v5 w5 hown5 hgrow5)
        go_ret2
        have hB5 := grown_below hB hown (by omega) hgrow5
        rw [HS.out] at hown5
        exact ⟨_, ret2_int e0.out.symm, by rw [e1.out]; exact World.ownsRow.mono hown5 (by omega), hB5⟩
      · have HS : Aside (acc = P.ins f t l) := by
          have := HP1.out rfl
          rw [List.drop_of_length_le (Nat.le_refl _)] at this
          show _ = _
          simpa using this
        clear HP0 HP1 HN HM
        go_wp2
        go_ret2
        exact ⟨_, ret2_int e0.out.symm, by rw [e1.out, ← HS.out]; exact World.ownsRow.mono hown (by omega), hB⟩

end Go.Proofs.Ytnadhpemmehedaa
