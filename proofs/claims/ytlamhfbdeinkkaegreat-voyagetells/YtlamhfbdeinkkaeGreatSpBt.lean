import Derived.Test.YtlamhfbdeinkkaeGreatSpAt
import Derived.Lib.QuietBelow
import Derived.Deep.Onto
set_option maxRecDepth 10000
/- The walk of spanBegun: what must be in any case is. -/
namespace Go.Proofs.YtlamhfbdeinkkaeGreat.Sp
open Go.RowKit
set_option linter.unusedSimpArgs false
set_option linter.unusedVariables false

end Go.Proofs.YtlamhfbdeinkkaeGreat.Sp
/- Plain facts on free spans: each leg is of one span or of one that is free; free ones lie apart. -/
namespace Go.Proofs.YtlamhfbdeinkkaeGreat.Sp
set_option linter.unusedSimpArgs false
set_option linter.unusedVariables false

def P.has (i : Int) (s : Int × Int) : Bool := decide (s.1 ≤ i) && decide (i < s.2)
def P.cnt (i : Int) (l : List (Int × Int)) : Nat := l.countP (P.has i)

theorem cal_cons {n e : Int} {s : Int × Int} {l : List (Int × Int)} (h : P.cal n e (s :: l) = 0) : 0 ≤ s.1 ∧ s.1 < s.2 ∧ s.2 ≤ n ∧ e ≤ s.1 ∧ P.cal n s.2 l = 0 := by
  rw [P.cal] at h
  split at h
  · rename_i hc
    have := chk_zero hc
    split at h
    · omega
    · exact ⟨by omega, by omega, by omega, by omega, h⟩
  · contradiction

end Go.Proofs.YtlamhfbdeinkkaeGreat.Sp
/- Plain facts: what is added is taken again. -/
namespace Go.Proofs.YtlamhfbdeinkkaeGreat.Sp
set_option linter.unusedSimpArgs false
set_option linter.unusedVariables false

def P.ins (f t : Int) : List (Int × Int) → List (Int × Int)
  | [] => [(f, t)]
  | s :: l => if f < s.1 then (f, t) :: s :: l else s :: P.ins f t l

theorem ins_eq (f t : Int) (l : List (Int × Int)) : l.take (P.addAt l f) ++ (f, t) :: l.drop (P.addAt l f) = P.ins f t l := by
  induction l with
  | nil => rfl
  | cons s l ih =>
    unfold P.addAt at ih ⊢
    rw [List.findIdx_cons, P.ins]
    by_cases h : f < s.1
    · simp [h]
    · simp [h]
      exact ih

theorem mem_ins {f t : Int} {l : List (Int × Int)} {x : Int × Int} : x ∈ P.ins f t l ↔ x = (f, t) ∨ x ∈ l := by
  rw [← ins_eq]
  rw [List.mem_append, List.mem_cons]
  constructor
  · rintro (h | h | h)
    · exact .inr (List.mem_of_mem_take h)
    · exact .inl h
    · exact .inr (List.mem_of_mem_drop h)
  · rintro (h | h)
    · exact .inr (.inl h)
    · rw [← List.take_append_drop (P.addAt l f) l, List.mem_append] at h
      rcases h with h | h
      · exact .inl h
      · exact .inr (.inr h)

theorem not_meet {a b c d : Int} (h : P.meet a b c d = false) : d ≤ a ∨ b ≤ c := by
  simp [P.meet] at h
  omega

theorem chk_ok {f t n : Int} (h0 : 0 ≤ f) (h1 : f < t) (h2 : t ≤ n) (hs : P.sails n = true) : P.chk f t n = 0 := by
  unfold P.chk
  rw [if_neg (by simp [hs]; omega), if_neg (by omega)]

theorem cal_ins {n e f t : Int} {l : List (Int × Int)} (hc : P.chk f t n = 0) (h : P.cal n e l = 0) (he : e ≤ f) (hm : ∀ s ∈ l, P.meet s.1 s.2 f t = false) : P.cal n e (P.ins f t l) = 0 := by
  have hz := chk_zero hc
  induction l generalizing e with
  | nil => rw [P.ins, P.cal, if_pos hc, if_neg (by simp; omega), P.cal]
  | cons s l ih =>
    obtain ⟨h1, h2, h3, h4, h5⟩ := cal_cons h
    have hms := not_meet (hm s (by simp))
    have hcs := chk_ok h1 h2 h3 hz.2.2.2.2.2
    rw [P.ins]
    split
    · rw [P.cal, if_pos hc, if_neg (by simp; omega), P.cal, if_pos hcs, if_neg (by simp; omega)]
      exact h5
    · rw [P.cal, if_pos hcs, if_neg (by omega)]
      exact ih h5 (by omega) (fun x hx => hm x (by simp [hx]))

theorem add_ok {l : List (Int × Int)} {n f t : Int} (h : P.addE l n f t = 0) : P.calendar l n = 0 ∧ P.chk f t n = 0 ∧ (∀ s ∈ l, P.meet s.1 s.2 f t = false) ∧ P.addL l n f t = P.ins f t l := by
  have hl : P.addL l n f t = P.ins f t l := by rw [P.addL, if_pos h, ins_eq]
  unfold P.addE at h
  split at h
  · rename_i hb
    split at h
    · omega
    · rename_i hm
      unfold P.both at hb
      split at hb
      · rename_i hc
        refine ⟨hc, hb, fun s hs => ?_, hl⟩
        have := List.findIdx_le_length (p := fun s => P.meet s.1 s.2 f t) (xs := l)
        have e := List.findIdx_eq_length.1 (show l.findIdx (fun s => P.meet s.1 s.2 f t) = l.length by omega) s hs
        simpa using e
      · contradiction
  · contradiction

theorem ins_calendar {l : List (Int × Int)} {n f t : Int} (h : P.addE l n f t = 0) : P.calendar (P.ins f t l) n = 0 := by
  obtain ⟨h1, h2, h3, _⟩ := add_ok h
  obtain ⟨_, hc, hs⟩ := calendar_len h1
  have hz := chk_zero h2
  rw [P.calendar, if_pos hs]
  exact cal_ins h2 hc (by omega) h3

theorem cal_mem {n e : Int} {l : List (Int × Int)} (h : P.cal n e l = 0) {s : Int × Int} (hs : s ∈ l) : 0 ≤ s.1 ∧ s.1 < s.2 ∧ s.2 ≤ n := by
  induction l generalizing e with
  | nil => simp at hs
  | cons x l ih =>
    obtain ⟨h1, h2, h3, h4, h5⟩ := cal_cons h
    rcases List.mem_cons.1 hs with rfl | hs
    · exact ⟨h1, h2, h3⟩
    · exact ih h5 hs

end Go.Proofs.YtlamhfbdeinkkaeGreat.Sp
/- Walks of the reference's AddSpan and TakeSpan. -/
namespace Go.Proofs.YtlamhfbdeinkkaeGreat.Sp
open Go.RowKit
set_option linter.unusedSimpArgs false
set_option linter.unusedVariables false

theorem Own.below {w w' : World} {base : Nat} {v : Value} {l : List (Int × Int)} (h : Own w base v l) (hb : Below w.heap.size w w') : Own w' base v l := by
  refine ⟨h.1, ?_⟩
  rcases h.2 with h2 | ⟨g, cap, cur, hv, hg, hh, r⟩
  · exact Or.inl h2
  · refine Or.inr ⟨g, cap, cur, hv, hg, ?_, r⟩
    rw [hb.block g (Array.getElem?_eq_some_iff.1 hh).1]
    exact hh

theorem cellOf {w w' : World} {b o : Nat} {v : Value} (hB : Below w.heap.size w w') (h : w.cell? ⟨b, o, Option.none⟩ = some v) : w'.cell? ⟨b, o, Option.none⟩ = some v := by
  rw [hB.cell (p := ⟨b, o, Option.none⟩) (World.block_lt_of_cell? w _ h)]; exact h

theorem grown_below {w W0 w' : World} {base : Nat} {v : Value} {l : List (Int × Int)} (hB : Below w.heap.size w W0) (hown : Own W0 base v l) (hb : w.heap.size ≤ base) (hg : W0.grownBy w' v.ownBlock) : Below w.heap.size w w' :=
  hB.grown hg hB.size (fun j hj => Nat.le_trans hb (hown.lt j hj).1)

/-- 'append(v, s)', s laid into a block of its own just ahead. -/
theorem wpList_append_span {ops : Array Oper} {rest : List Oper} {o : Oper} {a : Act} {Q : Exit → Act → World → Prop} {W0 : World} (hgd : o.guard = none) (s x : Operand)
    (ho : o.op = .call { callee := .builtin .append, args := #[s, x], argTypes := #[79, 79] }) (base : Nat) (v : Value) (l : List (Int × Int)) (f t : Int) (hs : a.eval s = v) (hown : Own W0 base v l)
    (hx : a.eval x = .slice (some ⟨W0.heap.size, 0, Option.none⟩) 1 1) (hb : base ≤ W0.heap.size) (hn : l.length ≤ 1000)
    (h : ∀ v' w', Own w' base v' (l ++ [(f, t)]) → W0.grownBy w' v.ownBlock → wpList Tryz.prog ops Q rest (a.put o.dst v') w') : wpList Tryz.prog ops Q (o :: rest) a (W0.alloc (.cells #[.int .i64 f, .int .i64 t] 34)) := by
  obtain ⟨i0, hi, hi0, hi1, hi2⟩ := info_parts Tryz.infoSpan
  refine wpList_append_own _ hgd s x 79 ho base 34 i0 _ 2 16 Tryz.underlying79 hi hi0 hi1 hi2 rfl (by decide) v l.length (cellsOf l) hs (hown.alloc _) ⟨W0.heap.size, 0, Option.none⟩ 1 1 [.int .i64 f, .int .i64 t] hx rfl (news_two f t) (by simp; exact ⟨rfl, rfl⟩) (by simp only [maxLen]; omega) (by omega) (by simp; omega) ?_
  intro v' w' h1 h2 _
  refine h v' w' ?_ (grown_alloc h2)
  simpa [Own, cellsOf_append, cellsOf] using h1

theorem ins_len (f t : Int) (l : List (Int × Int)) : (P.ins f t l).length = l.length + 1 := by
  induction l with
  | nil => rfl
  | cons s l ih =>
    rw [P.ins]
    split <;> simp [ih]

theorem getSpan {l : List (Int × Int)} {k : Nat} {a b : Int} (hk : k < l.length) (hd : l.drop k = (a, b) :: l.drop (k + 1)) : (a, b) ∈ l := by
  have := List.mem_cons_self (a := (a, b)) (l := l.drop (k + 1))
  rw [← hd] at this
  exact List.mem_of_mem_drop this

def P.anyMeet (l : List (Int × Int)) (f t : Int) : Bool := l.any fun s => P.meet s.1 s.2 f t
def P.refAddE (l : List (Int × Int)) (f t : Int) : Int := if P.anyMeet l f t = true then 6 else 0
def P.refAddL (l : List (Int × Int)) (f t : Int) : List (Int × Int) := if P.anyMeet l f t = true then [] else P.ins f t l

set_option maxHeartbeats 4000000 in
theorem addSpan_any (ao : Option Addr) (cap : Nat) (l : List (Int × Int)) (n f t : Int) (w : World) (hl : SpAt w ao cap l) (hcal : P.calendar l n = 0) (hck : P.chk f t n = 0) :
    Calls Tryz.prog 143 #[.slice ao l.length cap, .agg #[.int .i64 f, .int .i64 t]] w fun e w' => ∃ v', e = .returned (.tuple #[v', .int .i64 (P.refAddE l f t)]) ∧ Own w' w.heap.size v' (P.refAddL l f t) ∧ Below w.heap.size w w' := by
  obtain ⟨h7, hcl, hsl⟩ := calendar_len hcal
  have hz := chk_zero hck
  have hle := hl.le
  obtain ⟨i0, hi, hi0, hi1, hi2⟩ := info_parts Tryz.infoSpan
  have HCL : Aside (P.cal n 0 l = 0) := hcl
  clear hcal hck hcl
  go_enter Tryz.func143, Tryz.ntmps143
  go_wp2
  go_loopg [6, 7, 8] l.length (fun g v pu i wr => ∃ (k : Nat) (acc : List (Int × Int)) (put : Bool), k ≤ l.length ∧ g = l.length - k ∧ i = .int .i64 k ∧ pu = .bool put ∧ Own wr (w.heap.size + 1) v acc ∧
      (put = true → acc ++ l.drop k = P.ins f t l) ∧ (put = false → acc ++ P.ins f t (l.drop k) = P.ins f t l) ∧ (∀ s ∈ l.take k, P.meet s.1 s.2 f t = false) ∧ BoxAt wr w.heap.size f t ∧ Below w.heap.size w wr)
  case atStart => exact ⟨0, [], false, Nat.zero_le _, rfl, rfl, rfl, World.ownsRow_nil _ _ _ _, (fun h => by cases h), (fun _ => rfl), (by simp), BoxAt.new w f t, by go_grown⟩
  case round =>
    obtain ⟨k, acc, put, hk, rfl, rfl, rfl, hown, hP1, hP0, hno, hbox, hB⟩ := hrel
    have hBs := hB.size
    have hacc : acc.length ≤ 8 := by
      cases put
      · have := congrArg List.length (hP0 rfl); simp [ins_len] at this; omega
      · have := congrArg List.length (hP1 rfl); simp [ins_len] at this; omega
    have HP1 : Aside (put = true → acc ++ l.drop k = P.ins f t l) := hP1
    have HP0 : Aside (put = false → acc ++ P.ins f t (l.drop k) = P.ins f t l) := hP0
    have HN : Aside (∀ s ∈ l.take k, P.meet s.1 s.2 f t = false) := hno
    clear hP1 hP0 hno
    by_cases hlt : k < l.length
    · obtain ⟨b, off, a, c, rfl, hbw, hd, hcw0, hcw1⟩ := hl.get (Below.refl _ _) k hlt
      have hc0 := cellOf hB hcw0
      have hc1 := cellOf hB hcw1
      have hm := cal_mem HCL.out (getSpan hlt hd)
      simp only at hm
      obtain ⟨hm1, hm2, hm3⟩ := hm
      have HD : Aside (l.drop k = (a, c) :: l.drop (k + 1)) := hd
      clear hd
      obtain ⟨hx0, hx1, hx2⟩ := hbox
      have hi1' : (k : Int) < (l.length : Int) := by omega
      have hi2' : (0 : Int) ≤ (k : Int) := by omega
      have r0 := cell_regrown hc0
      have r1 := cell_regrown hc1
      have r2 := cell_regrown hx1
      have r3 := cell_regrown hx2
      cases hmt : P.meet a c f t
      · go_wp2
        refine wp_region_quiet_below (by kernel_rfl) (by kernel_rfl) ?_
        repeat (quiet_step (exact Calls.regrown_of (doMeet_any _ _ _ _ _ hm1 hm2 (by omega) hz.1 hz.2.1 (by omega))))
        refine wpQuiet_nil ?_
        intro w2 hw2
        obtain ⟨⟨dq, osq⟩, hw2⟩ := hw2
        have hb2 := below_regrown wr dq osq
        rw [← hw2] at hb2
        clear hw2 r0 r1 r2 r3
        rw [hmt]
        have hbox2 : BoxAt w2 w.heap.size f t := (BoxAt.mk hx0 hx1 hx2).below hb2
        have hB2 := bvia hB hb2
        have hBs2 := hB2.size
        have hown2 := hown.below hb2
        have hc02 := cellOf hB2 hcw0
        have hc12 := cellOf hB2 hcw1
        have HNN : Aside (∀ s ∈ l.take (k + 1), P.meet s.1 s.2 f t = false) := by
          intro s hs
          have e : l.take (k + 1) = l.take k ++ [(a, c)] := by
            have h1 := List.drop_eq_getElem_cons hlt
            rw [HD.out] at h1
            simp only [List.cons.injEq] at h1
            rw [h1.1, List.take_succ_eq_append_getElem hlt]
          rw [e, List.mem_append] at hs
          rcases hs with hs | hs
          · exact HN.out s hs
          · simp at hs; subst hs; exact hmt
        clear hown hB hBs hb2 hc0 hc1 hx0 hx1 hx2 HN
        have hf3 := hbox2.from_
        have ht3 := hbox2.to_
        cases put
        · by_cases hfa : f < a
          · have hfa' : decide (f < a) = true := by simpa using hfa
            have HS : Aside (acc ++ [(f, t)] ++ [(a, c)] ++ l.drop (k + 1) = P.ins f t l) := by
              have := HP0.out rfl
              rw [HD.out, P.ins, if_pos hfa] at this
              show _ = _
              simpa using this
            clear HP0 HP1
            go_wp2
            go_quiet (fail)
            have hB3 : Below w.heap.size w (w2.drewN nq) := below_drewN hB2 _
            have hown3 := hown2.below (below_drewN (Below.refl w2.heap.size w2) nq)
            have hbox3 := hbox2.below (below_drewN (Below.refl w2.heap.size w2) nq)
            have hs3 : w.heap.size + 1 ≤ (w2.drewN nq).heap.size := hbox3.lt
            go_wp2_with (first
              | (at_builtin; refine wpList_append_span rfl (.tmp 33) (.tmp 35) rfl (w.heap.size + 1) _ acc f t rfl hown3 rfl hs3 (by omega) ?_; intro v4 w4 hown4 hgrow4; have hB4 := grown_below hB3 hown3 (by omega) hgrow4; have hc04 := cellOf hB4 hcw0; have hc14 := cellOf hB4 hcw1; have hbox4 := hbox3.grown hgrow4 (fun e => by have := (hown3.lt _ e.symm).1; omega); have hs4 : w.heap.size + 1 ≤ w4.heap.size := hbox4.lt)
              | (at_builtin; refine wpList_append_span rfl (.tmp 37) (.tmp 42) rfl (w.heap.size + 1) _ (acc ++ [(f, t)]) a c rfl hown4 rfl hs4 (by simp; omega) ?_; intro v5 w5 hown5 hgrow5; have hB5 := grown_below hB4 hown4 (by omega) hgrow5; have hbox5 := hbox4.grown hgrow5 (fun e => by have := (hown4.lt _ e.symm).1; omega)))
            go_roundg (l.length - (k + 1))
            case measure => omega
            case rel => exact ⟨k + 1, acc ++ [(f, t)] ++ [(a, c)], true, by omega, rfl, by go_num, rfl, hown5, (fun _ => HS.out), (fun h => by cases h), HNN.out, hbox5, hB5⟩
          · have hfa' : decide (f < a) = false := by simpa using hfa
            have HS : Aside (acc ++ [(a, c)] ++ P.ins f t (l.drop (k + 1)) = P.ins f t l) := by
              have := HP0.out rfl
              rw [HD.out, P.ins, if_neg hfa] at this
              show _ = _
              simpa using this
            clear HP0 HP1
            go_wp2
            go_quiet (fail)
            have hB3 : Below w.heap.size w (w2.drewN nq) := below_drewN hB2 _
            have hown3 := hown2.below (below_drewN (Below.refl w2.heap.size w2) nq)
            have hbox3 := hbox2.below (below_drewN (Below.refl w2.heap.size w2) nq)
            have hs3 : w.heap.size + 1 ≤ (w2.drewN nq).heap.size := hbox3.lt
            go_wp2_with (at_builtin; refine wpList_append_span rfl (.tmp 37) (.tmp 42) rfl (w.heap.size + 1) _ acc a c rfl hown3 rfl hs3 (by omega) ?_; intro v5 w5 hown5 hgrow5; have hB5 := grown_below hB3 hown3 (by omega) hgrow5; have hbox5 := hbox3.grown hgrow5 (fun e => by have := (hown3.lt _ e.symm).1; omega))
            go_roundg (l.length - (k + 1))
            case measure => omega
            case rel => exact ⟨k + 1, acc ++ [(a, c)], false, by omega, rfl, by go_num, rfl, hown5, (fun h => by cases h), (fun _ => HS.out), HNN.out, hbox5, hB5⟩
        · have HS : Aside (acc ++ [(a, c)] ++ l.drop (k + 1) = P.ins f t l) := by
            have := HP1.out rfl
            rw [HD.out] at this
            show _ = _
            simpa using this
          clear HP0 HP1
          go_wp2
          go_quiet (fail)
          have hB3 : Below w.heap.size w (w2.drewN nq) := below_drewN hB2 _
          have hown3 := hown2.below (below_drewN (Below.refl w2.heap.size w2) nq)
          have hbox3 := hbox2.below (below_drewN (Below.refl w2.heap.size w2) nq)
          have hs3 : w.heap.size + 1 ≤ (w2.drewN nq).heap.size := hbox3.lt
          go_wp2_with (at_builtin; refine wpList_append_span rfl (.tmp 37) (.tmp 42) rfl (w.heap.size + 1) _ acc a c rfl hown3 rfl hs3 (by omega) ?_; intro v5 w5 hown5 hgrow5; have hB5 := grown_below hB3 hown3 (by omega) hgrow5; have hbox5 := hbox3.grown hgrow5 (fun e => by have := (hown3.lt _ e.symm).1; omega))
          go_roundg (l.length - (k + 1))
          case measure => omega
          case rel => exact ⟨k + 1, acc ++ [(a, c)], true, by omega, rfl, by go_num, rfl, hown5, (fun _ => HS.out), (fun h => by cases h), HNN.out, hbox5, hB5⟩
      · have HM : Aside (P.anyMeet l f t = true) := by
          show _ = _
          unfold P.anyMeet
          rw [List.any_eq_true]
          exact ⟨(a, c), getSpan hlt HD.out, hmt⟩
        go_wp2
        refine wp_region_quiet_below (by kernel_rfl) (by kernel_rfl) ?_
        repeat (quiet_step (exact Calls.regrown_of (doMeet_any _ _ _ _ _ hm1 hm2 (by omega) hz.1 hz.2.1 (by omega))))
        refine wpQuiet_nil ?_
        intro w2 hw2
        obtain ⟨⟨dq, osq⟩, hw2⟩ := hw2
        have hb2 := below_regrown wr dq osq
        rw [← hw2] at hb2
        clear hw2
        rw [hmt]
        go_wp2
        go_ret2
        exact ⟨_, ret2_int (by rw [P.refAddE, if_pos HM.out]), by rw [P.refAddL, if_pos HM.out]; exact World.ownsRow_nil _ _ _ _, bvia hB hb2⟩
    · obtain rfl : k = l.length := by omega
      have HM : Aside (P.anyMeet l f t = false) := by
        show _ = _
        unfold P.anyMeet
        rw [List.any_eq_false]
        intro x hx
        have := HN.out x (by rw [List.take_of_length_le (Nat.le_refl _)]; exact hx)
        simp [this]
      have e0 : Aside (P.refAddE l f t = 0) := by show _ = _; rw [P.refAddE, HM.out]; simp
      have e1 : Aside (P.refAddL l f t = P.ins f t l) := by show _ = _; rw [P.refAddL, HM.out]; simp
      have hf3 := hbox.from_
      have ht3 := hbox.to_
      have hs3 : w.heap.size + 1 ≤ wr.heap.size := hbox.lt
      cases put
      · have HS : Aside (acc ++ [(f, t)] = P.ins f t l) := by
          have := HP0.out rfl
          rw [List.drop_of_length_le (Nat.le_refl _), P.ins] at this
          exact this
        clear HP0 HP1 HN HM
        go_wp2_with (at_builtin; refine wpList_append_span rfl (.tmp 46) (.tmp 48) rfl (w.heap.size + 1) _ acc f t rfl hown rfl hs3 (by omega) ?_; intro v5 w5 hown5 hgrow5)
        go_ret2
        have hB5 := grown_below hB hown (by omega) hgrow5
        rw [HS.out] at hown5
        exact ⟨_, ret2_int e0.out.symm, by rw [e1.out]; exact World.ownsRow.mono hown5 (by omega), hB5⟩
      · have HS : Aside (acc = P.ins f t l) := by
          have := HP1.out rfl
          rw [List.drop_of_length_le (Nat.le_refl _)] at this
          show _ = _
          simpa using this
        clear HP0 HP1 HN HM
        go_wp2
        go_ret2
        exact ⟨_, ret2_int e0.out.symm, by rw [e1.out, ← HS.out]; exact World.ownsRow.mono hown (by omega), hB⟩

end Go.Proofs.YtlamhfbdeinkkaeGreat.Sp
/- Walks of the reference's TakeSpan, FreeOf and of spansAre. -/
namespace Go.Proofs.YtlamhfbdeinkkaeGreat.Sp
open Go.RowKit
set_option linter.unusedSimpArgs false
set_option linter.unusedVariables false

def P.rest (l : List (Int × Int)) (f t : Int) : List (Int × Int) := l.filter fun s => !decide (s = (f, t))
end Go.Proofs.YtlamhfbdeinkkaeGreat.Sp
/- Plain facts: lists of spans that lie apart are told by their legs; free spans, built leg by leg. -/
namespace Go.Proofs.YtlamhfbdeinkkaeGreat.Sp
set_option linter.unusedSimpArgs false
set_option linter.unusedVariables false

abbrev P.Apart (l : List (Int × Int)) : Prop := l.Pairwise (fun x y => x.2 < y.1)
theorem cnt_zero_of {i : Int} {l : List (Int × Int)} (h : ∀ x ∈ l, ¬ (x.1 ≤ i ∧ i < x.2)) : P.cnt i l = 0 := by
  unfold P.cnt
  rw [List.countP_eq_zero]
  intro x hx hh
  simp [P.has] at hh
  exact h x hx hh

def P.anyHas (i : Int) (l : List (Int × Int)) : Bool := l.any (P.has i)

/-- What has been built behind k legs: 'out', and whether the last of it is open. -/
structure P.Built (l : List (Int × Int)) (k : Nat) (out : List (Int × Int)) (opn : Bool) : Prop where
  apart : P.Apart out
  good : ∀ x ∈ out, 0 ≤ x.1 ∧ x.1 < x.2 ∧ x.2 ≤ k
  legs : ∀ i : Int, 0 ≤ i → i < k → P.cnt i out = if P.anyHas i l = true then 0 else 1
  opened : opn = true → ∃ o x, out = o ++ [(x, (k : Int))]
  shut : opn = false → ∀ x ∈ out, x.2 < k
  len : out.length ≤ k

theorem Built.start (l : List (Int × Int)) : P.Built l 0 [] false :=
  ⟨by simp, by simp, fun i h1 h2 => by omega, (fun h => by cases h), by simp, by simp⟩

theorem Built.taken {l : List (Int × Int)} {k : Nat} {out : List (Int × Int)} {opn : Bool} (h : P.Built l k out opn) (ht : P.anyHas k l = true) : P.Built l (k + 1) out false := by
  refine ⟨h.apart, fun x hx => by have := h.good x hx; omega, fun i h1 h2 => ?_, (fun h => by cases h), fun _ x hx => by have := h.good x hx; omega, by have := h.len; omega⟩
  by_cases hi : i < k
  · exact h.legs i h1 hi
  · obtain rfl : i = k := by omega
    rw [if_pos ht]
    exact cnt_zero_of fun x hx hh => by have := h.good x hx; omega

theorem refAdd {l : List (Int × Int)} {n f t : Int} (hb : P.both l n f t = 0) : P.refAddE l f t = P.addE l n f t ∧ P.refAddL l f t = P.addL l n f t := by
  have hm : (l.findIdx (fun s => P.meet s.1 s.2 f t) < l.length) ↔ P.anyMeet l f t = true := by
    unfold P.anyMeet
    rw [List.findIdx_lt_length, List.any_eq_true]
  have e0 : P.addE l n f t = P.refAddE l f t := by
    rw [P.addE, if_pos hb, P.refAddE]
    by_cases h : P.anyMeet l f t = true
    · rw [if_pos h, if_pos (hm.2 h)]
    · rw [if_neg h, if_neg (by rw [hm]; exact h)]
  refine ⟨e0.symm, ?_⟩
  rw [P.addL, e0, P.refAddE, P.refAddL, ins_eq]
  by_cases h : P.anyMeet l f t = true
  · rw [if_pos h, if_pos h, if_neg (by decide)]
  · rw [if_neg h, if_neg h, if_pos rfl]

end Go.Proofs.YtlamhfbdeinkkaeGreat.Sp
