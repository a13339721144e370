/- Walks of Check, Owed. -/
import Derived.Test.YtagjlckmemmflacFolC
namespace Go.Proofs.Ytagjlckmemmflac
open Go.RowKit Go.Shelf
set_option linter.unusedSimpArgs false
set_option linter.unusedVariables false
attribute [local go_sem] Oper.semAt_some

/-- F1 of the entries, one by one. -/
def P.entsE : Int → List Ent → Int
  | _, [] => 0
  | day, x :: r => if P.entE x day = 0 then P.entsE x.1 r else P.entE x day
abbrev P.all : Ent → Bool := fun _ => true
/-- F1 of a folio. -/
def P.folE (l : List Ent) : Int := if 12 < l.length then 2 else if P.entsE 0 l = 0 then (if (P.sumsL P.all 0 l).all P.amt = true then 0 else 3) else P.entsE 0 l

theorem entE_amt {x : Ent} {day : Int} (h : P.entE x day = 0) : -100000000 ≤ x.2.2 ∧ x.2.2 ≤ 100000000 := by
  unfold P.entE at h
  split at h
  · rename_i h0
    unfold P.entB at h0
    repeat' split at h0
    all_goals first | omega | (rename_i hh; have := hh.2; simp [P.amt, P.btw] at this; exact this) | (rename_i hh _; have := hh.2; simp [P.amt, P.btw] at this; exact this)
  · omega

theorem entsE_amt : ∀ {l : List Ent} {day : Int}, P.entsE day l = 0 → ∀ x ∈ l, -100000000 ≤ x.2.2 ∧ x.2.2 ≤ 100000000 := by
  intro l
  induction l with
  | nil => intro _ _ x hx; cases hx
  | cons y r ih =>
    intro day h x hx
    rw [P.entsE] at h
    split at h
    · rename_i h0
      rcases List.mem_cons.1 hx with rfl | hx
      · exact entE_amt h0
      · exact ih h x hx
    · omega

theorem every_calls : ∀ (args : Array Value) (wx : World), (callFunc 43 args).run Try.prog wx = .ok (.enter 43 args) wx := enters_of Try.func43 (by kernel_rfl) rfl

theorem sumsL_len (p : Ent → Bool) : ∀ (l : List Ent) (s : Int), (P.sumsL p s l).length ≤ l.length := by
  intro l
  induction l with
  | nil => intro s; simp [P.sumsL]
  | cons x r ih => intro s; rw [P.sumsL]; split <;> simp <;> have := ih s <;> have := ih (s + x.2.2) <;> omega

set_option maxRecDepth 100000 in
set_option maxHeartbeats 8000000 in
theorem folCheck_any (ao : Option Addr) (cap : Nat) (l : List Ent) (w : World) (hl : EntsAt w ao cap l) :
    Calls Try.prog 26 #[.slice ao l.length cap] w fun e w' => e = .returned (.int .i64 (P.folE l)) ∧ Below w.heap.size w w' := by
  have hle := hl.le
  have hmx := hl.max
  unfold maxLen at hmx
  refine (callsIn_wide (n := 3)).1 ?_
  refine callsIn_of_wp_marks Try.func26 rfl trivial ?_ rfl
  simp only [Try.ntmps26, List.size_toArray, List.length_cons, List.length_nil, Nat.reduceAdd, Nat.reduceSub, Array.replicate_succ, Array.replicate_zero, List.push_toArray, List.append_toArray, List.nil_append, List.cons_append]
  by_cases h12 : 12 < l.length
  · have HE : Aside (P.folE l = 2) := by show _ = _; rw [P.folE, if_pos h12]
    gi_wp2
    refine ⟨.int .i64 2, by simp [results, Try.results26, go_sem], ?_⟩
    exact ⟨ret_int HE.out.symm, by go_grown⟩
  have h12' : l.length ≤ 12 := by omega
  have h12i : ¬ ((12 : Int) < (l.length : Int)) := by omega
  gi_wp2
  gi_loopw [3, 13] (fun d i wr => ∃ (k : Nat) (day : Int), k ≤ l.length ∧ i = .int .i64 k ∧ d = .int .i64 day ∧ P.entsE day (l.drop k) = P.entsE 0 l ∧ wr.cell? ⟨w.heap.size, 0, none⟩ = some (.int .i64 0) ∧ wr.frozen? ⟨w.heap.size, 0, none⟩ = false ∧ Below w.heap.size w wr)
    (fun _ i _ => l.length - (intOf i).toNat)
  case atStart => exact ⟨0, 0, Nat.zero_le _, rfl, rfl, rfl, by simp, by simp, by go_grown⟩
  case round =>
    obtain ⟨k, day, hk, rfl, rfl, hP, hc, hf, hB⟩ := hrel
    have HP : Aside (P.entsE day (l.drop k) = P.entsE 0 l) := hP
    clear hP
    by_cases hlt : k < l.length
    · obtain ⟨b, off, x, y, z, rfl, hbl, hd, e0, e1, e2⟩ := EntsAt.get hl hB k hlt
      have hd' := HP.out
      rw [hd, P.entsE] at hd'
      have HP2 : Aside ((if P.entE (x, y, z) day = 0 then P.entsE x (l.drop (k + 1)) else P.entE (x, y, z) day) = P.entsE 0 l) := hd'
      clear hd hd' HP
      gi_wp2_with fail
      refine ⟨trivial, (callsIn_wide.2 (checkEntry_any x y z day _)).mono ?_⟩
      rintro e w1 ⟨rfl, hb1⟩
      have hx1 : w1.cell? ⟨wr.heap.size, 0, none⟩ = some (.int .i64 x) := cellIn hb1 (by simp)
      have hB1 : Below wr.heap.size wr w1 := bvia (by go_grown) hb1
      have hc1 := cellIn hB1 hc
      have hf1 : w1.frozen? ⟨w.heap.size, 0, none⟩ = false := by rw [hB1.frozen (p := ⟨w.heap.size, 0, none⟩) (World.block_lt_of_cell? wr _ hc)]; exact hf
      have hBw := bvia hB hB1
      clear hb1 hB1 hc hf hB e0 e1 e2
      by_cases he : P.entE (x, y, z) day = 0
      · have HP3 : Aside (P.entsE x (l.drop (k + 1)) = P.entsE 0 l) := by have := HP2.out; rw [if_pos he] at this; exact this
        clear HP2
        rw [he]
        gi_wp2
        go_roundw
        case rel => exact ⟨k + 1, x, by omega, by simp, rfl, HP3.out, hc1, hf1, hBw⟩
        case measure => simp [intOf]; omega
      · have HE : Aside (P.folE l = P.entE (x, y, z) day) := by
          have := HP2.out
          rw [if_neg he] at this
          show _ = _
          rw [P.folE, if_neg h12, ← this, if_neg he]
        clear HP2
        have he2 : (P.entE (x, y, z) day == 0) = false := by simpa using he
        gi_wp2
        refine ⟨.int .i64 (P.entE (x, y, z) day), ?_, ret_int HE.out.symm, hBw.setCell (p := ⟨w.heap.size, 0, none⟩) (Nat.le_refl _) _⟩
        simp [results, Try.results26, go_sem, World.cell?_setCell_same' _ _ _ (show (w1.cell? ⟨w.heap.size, 0, none⟩).isSome = true by rw [hc1]; rfl)]
    · obtain rfl : k = l.length := by omega
      have hP := HP.out
      rw [List.drop_of_length_le (Nat.le_refl _), P.entsE] at hP
      have HE0 : Aside (P.entsE 0 l = 0) := hP.symm
      clear hP HP
      gi_wp2_with (refine ⟨trivial, ?_⟩; gi_at_call 49; refine (callsIn_wide.2 (sums_any ao cap l.length 43 _)).mono ?_; rintro e w' ⟨rfl, rfl⟩)
      have hcl : w.heap.size < wr.heap.size := World.block_lt_of_cell? wr _ hc
      obtain ⟨W0, hW0⟩ : ∃ W0, W.seq wr ao cap l.length 43 = W0 := ⟨_, rfl⟩
      have q0 : W0.cell? ⟨w.heap.size, 0, none⟩ = some (.int .i64 0) := by rw [← hW0]; exact oldCell _ (oldCell _ hc)
      have qf : W0.frozen? ⟨w.heap.size, 0, none⟩ = false := by rw [← hW0]; exact oldMark _ (oldCell _ hc) (oldMark _ hc hf)
      have q1 : W0.cell? ⟨wr.heap.size, 0, none⟩ = some (.slice ao l.length cap) := by rw [← hW0]; exact oldCell _ (newCell wr _ _).1
      have q2 : W0.cell? ⟨wr.heap.size + 1, 0, none⟩ = some (.func (.func 43) #[] #[]) := by
        have := newCell (wr.alloc (.cells #[.slice ao l.length cap] 42)) (.func (.func 43) #[] #[]) 68
        rw [World.size_alloc] at this
        rw [← hW0]; exact this.1
      have hsz : W0.heap.size = wr.heap.size + 1 + 1 := by rw [← hW0]; simp [W.seq]
      have hB0 : Below w.heap.size w W0 := by rw [← hW0]; exact (hB.alloc (by omega) _).alloc (by simp; omega) _
      rw [hW0]
      refine wpIn_rangeFunc_ownF rfl (by omega) (gf := 57) (lb := #[.pointer (some ⟨wr.heap.size, 0, none⟩), .pointer (some ⟨wr.heap.size + 1, 0, none⟩)]) rfl trivial (enters_of Try.func57 (by kernel_rfl) rfl)
        (sums_stops 2 (by omega) wr.heap.size (wr.heap.size + 1) w.heap.size ao cap l 43 P.all _ every_calls every_any w rfl hB0 hl h12' (entsE_amt HE0.out) q1 q2) Kept.t (Kept.b (by omega) (by omega)) (Below.refl _ _) (fun _ => rfl)
        (fun pre W => (pre.all P.amt = true ∧ W.cell? ⟨w.heap.size, 0, none⟩ = some (.int .i64 0) ∧ W.frozen? ⟨w.heap.size, 0, none⟩ = false) ∧ Below w.heap.size w W)
        (fun c pre W => (c = .ret ∧ pre.all P.amt = false ∧ W.cell? ⟨w.heap.size, 0, none⟩ = some (.int .i64 3)) ∧ Below w.heap.size w W)
        (OwnFrom.and (Own.from (fun s A B row hs hg hr => ⟨hs.1, cell_kept hs.2.1 hg hr, (frozen_kept hs.2.1 hg hr).trans hs.2.2⟩) _) (ownFrom_below (Nat.le_refl _) (by omega)))
        (fun c => OwnFrom.and (Own.from (fun s A B row hs hg hr => ⟨hs.1, hs.2.1, cell_kept hs.2.2 hg hr⟩) _) (ownFrom_below (Nat.le_refl _) (by omega)))
        ⟨⟨rfl, q0, qf⟩, hB0⟩
        (fun x => { tmps := #[.slice ao l.length cap, undef, .pointer (some ⟨w.heap.size, 0, none⟩), .int .i64 day, undef, u5, u6, .int .i64 x, .slice ao l.length cap, .int .i64 l.length, .bool false, .slice ao l.length cap, .int .i64 l.length, .int .i64 l.length, .bool false, u15, u16, u17, u18, u19, u20, u21, u22, u23, u24, u25, .slice ao l.length cap, V.seq wr.heap.size (wr.heap.size + 1), .int .i64 x, undef, undef, undef], defers := [] }) ?assign ?body ?done ?stop
      case assign =>
        intro l x W K hK
        gi_wp2
        exact hK
      case body =>
        rintro lx pre x W ⟨⟨hp, hc, hf⟩, hB⟩ _
        cases hx : P.amt x
        · gi_wp2_with (refine ⟨trivial, ?_⟩; gi_at_call 50; refine (callsIn_wide.2 (isAmount_any _ _)).mono ?_; rintro e w1 ⟨rfl, rfl⟩; rw [hx])
          exact ⟨KeepsOthers.setCell _ _ _, ⟨rfl, by simp [hx], World.cell?_setCell_same' _ _ _ (by rw [hc]; rfl)⟩, hB.setCell (p := ⟨w.heap.size, 0, none⟩) (Nat.le_refl _) _⟩
        · gi_wp2_with (refine ⟨trivial, ?_⟩; gi_at_call 50; refine (callsIn_wide.2 (isAmount_any _ _)).mono ?_; rintro e w1 ⟨rfl, rfl⟩; rw [hx])
          exact ⟨KeepsOthers.refl _, ⟨Below.refl _ _, fun v hv => hv⟩, ⟨by simp [hp, hx], hc, hf⟩, hB⟩
      case done =>
        rintro D ys W hD rfl ⟨⟨hp, hc, hf⟩, hB⟩ hK
        have HE : Aside (P.folE l = 0) := by show _ = _; rw [P.folE, if_neg h12, if_pos HE0.out, if_pos hp]
        gi_wp2
        have hK' := (KeepsOthers.setCell W ⟨w.heap.size, 0, none⟩ (.int .i64 0)).same D _ hK rfl
        refine ⟨by simp, .inl ⟨_, _, rfl, run_takeDeferred hK', ?_⟩⟩
        have hc5 := cell_kept (World.cell?_setCell_same' W ⟨w.heap.size, 0, none⟩ (.int .i64 0) (by rw [hc]; rfl)) (grownBy_putObj' _ D (.deferred none)) (fun r e => by cases e; exact ⟨_, hK', rfl⟩)
        refine ⟨.int .i64 0, ?_, ret_int HE.out.symm, (hB.setCell (p := ⟨w.heap.size, 0, none⟩) (Nat.le_refl _) _).trans (belowK_b (w := w) (Nat.le_refl _) _ D _ _ (by omega) hK' rfl rfl)⟩
        simp [results, Try.results26, go_sem, hc5]
      case stop =>
        rintro D c pre W hD ⟨t, ht⟩ ⟨⟨rfl, hp, hc⟩, hB⟩ hK
        have HE : Aside (P.folE l = 3) := by show _ = _; rw [P.folE, if_neg h12, if_pos HE0.out, if_neg (by rw [← ht, List.all_append, hp]; simp)]
        gi_wp2
        refine ⟨by simp, .inl ⟨_, _, rfl, run_takeDeferred hK, ?_⟩⟩
        have hc5 := cell_kept hc (grownBy_putObj' _ D (.deferred none)) (fun r e => by cases e; exact ⟨_, hK, rfl⟩)
        refine ⟨.int .i64 3, ?_, ret_int HE.out.symm, hB.trans (belowK_b (w := w) (Nat.le_refl _) W D _ _ (by omega) hK rfl rfl)⟩
        simp [results, Try.results26, go_sem, hc5]

/-- The sum of the entries that count. -/
def P.sumL (p : Ent → Bool) (l : List Ent) : Int := P.last (P.sumsL p 0 l)

theorem folE_len {l : List Ent} (h : P.folE l = 0) : l.length ≤ 12 := by
  unfold P.folE at h
  split at h <;> omega
theorem folE_ents {l : List Ent} (h : P.folE l = 0) : P.entsE 0 l = 0 := by
  unfold P.folE at h
  repeat' split at h
  all_goals first | omega | assumption
theorem folE_amt {l : List Ent} (h : P.folE l = 0) : ∀ x ∈ l, -100000000 ≤ x.2.2 ∧ x.2.2 ≤ 100000000 := entsE_amt (folE_ents h)

def P.owed (l : List Ent) : Int := if P.folE l = 0 then P.sumL P.all l else 0

set_option maxHeartbeats 1000000 in
theorem owed_any (ao : Option Addr) (cap : Nat) (l : List Ent) (w : World) (hl : EntsAt w ao cap l) :
    Calls Try.prog 19 #[.slice ao l.length cap] w fun e w' => e = .returned (.tuple #[.int .i64 (P.owed l), .int .i64 (P.folE l)]) ∧ Below w.heap.size w w' := by
  by_cases he : P.folE l = 0
  · have HE : Aside (P.owed l = P.last (P.sumsL P.all 0 l)) := by show _ = _; rw [P.owed, if_pos he]; rfl
    go_enter Try.func19, Try.ntmps19
    go_wp2_with fail
    refine (folCheck_any ao cap l w hl).mono ?_
    rintro e w1 ⟨rfl, hb1⟩
    rw [he]
    go_wp2_with fail
    refine (folioSum_any ao cap l 43 P.all w1 every_calls every_any (SlAt.below REnt.mono hl hb1) (folE_len he) (folE_amt he)).mono ?_
    rintro e w2 ⟨rfl, hb2⟩
    go_wp2
    go_ret2
    exact ⟨by simp [HE.out, he], bvia hb1 hb2⟩
  · have he2 : (P.folE l == 0) = false := by simpa using he
    have HE : Aside (P.owed l = 0) := by show _ = _; rw [P.owed, if_neg he]
    go_enter Try.func19, Try.ntmps19
    go_wp2_with fail
    refine (folCheck_any ao cap l w hl).mono ?_
    rintro e w1 ⟨rfl, hb1⟩
    go_wp2
    go_ret2
    exact ⟨by simp [HE.out], hb1⟩

end Go.Proofs.Ytagjlckmemmflac
