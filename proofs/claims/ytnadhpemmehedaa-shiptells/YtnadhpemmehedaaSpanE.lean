/- Lists of spans that a call makes itself; walks of addGap and Free. -/
import Derived.Test.YtnadhpemmehedaaSpanD
namespace Go.Proofs.Ytnadhpemmehedaa
open Go.RowKit
set_option linter.unusedSimpArgs false
set_option linter.unusedVariables false

/-- The cells of a list of spans. -/
def cellsOf (l : List (Int × Int)) : List Value := l.flatMap fun s => [.int .i64 s.1, .int .i64 s.2]

theorem cellsOf_length (l : List (Int × Int)) : (cellsOf l).length = l.length * 2 := by
  induction l with
  | nil => rfl
  | cons s l ih => simp [cellsOf] at ih ⊢; omega
theorem cellsOf_append (a b : List (Int × Int)) : cellsOf (a ++ b) = cellsOf a ++ cellsOf b := by simp [cellsOf]
theorem cellsOf_get (l : List (Int × Int)) (i : Nat) (h : i < l.length) : (cellsOf l)[i * 2]? = some (.int .i64 l[i].1) ∧ (cellsOf l)[i * 2 + 1]? = some (.int .i64 l[i].2) := by
  induction l generalizing i with
  | nil => simp at h
  | cons s l ih =>
    cases i with
    | zero => simp [cellsOf]
    | succ i =>
      have := ih i (by simpa using h)
      simp only [cellsOf, List.flatMap_cons] at this ⊢
      rw [show (i + 1) * 2 = i * 2 + 1 + 1 by omega]
      simpa using this
theorem cellsOf_one (l : List (Int × Int)) : ∀ u ∈ cellsOf l, u.oneCell' = true := by
  intro u hu
  simp [cellsOf] at hu
  obtain ⟨a, b, _, rfl | rfl⟩ := hu <;> rfl

/-- The value v is a slice of the call's own (blocks from base on) that holds the spans l. -/
abbrev Own (w : World) (base : Nat) (v : Value) (l : List (Int × Int)) : Prop := w.ownsRow base 24 2 v l.length (cellsOf l)

theorem Own.at {w : World} {base : Nat} {v : Value} {l : List (Int × Int)} (h : Own w base v l) : ∃ ao cap, v = .slice ao l.length cap ∧ SpAt w ao cap l := by
  rcases h.2 with ⟨rfl, h0⟩ | ⟨g, cap, cur, rfl, hb, hg, hn, hm, hs, ht⟩
  · refine ⟨none, 0, by rw [h0], by omega, by simp [maxLen], fun _ => rfl, by omega⟩
  · refine ⟨some ⟨g, 0, none⟩, cap, rfl, hn, hm, (fun h => by cases h), fun h0 => ⟨g, 0, rfl, ?_, fun i hi => ?_⟩⟩
    · rcases Nat.lt_or_ge g w.heap.size with hlt | hge
      · exact hlt
      · rw [Array.getElem?_eq_none hge] at hg; cases hg
    · obtain ⟨c0, c1⟩ := cellsOf_get l i hi
      have k0 := h.cellAt (i * 2) (by omega)
      have k1 := h.cellAt (i * 2 + 1) (by omega)
      rw [c0] at k0
      rw [c1] at k1
      simpa using ⟨k0, k1⟩

theorem Try.infoSpan : (Try.prog.info? 24).map (fun i => (i.zero, i.size, i.bytes)) = some (some (.agg #[.int .i64 0, .int .i64 0]), 2, 16) := by kernel_rfl

def P.gap (l : List (Int × Int)) (a b : Int) : List (Int × Int) := if a = b then l else l ++ [(a, b)]

theorem grown_alloc {w w' : World} {o : Obj} {row : Option Nat} (h : (w.alloc o).grownBy w' row) : w.grownBy w' row :=
  ⟨h.os, h.tape, h.output, Nat.le_trans (by simp) h.size, fun k hk hr => (h.block k (by simp; omega) hr).trans (Below.heap_alloc w o k hk)⟩

theorem news_two {w : World} (a b : Int) : ∀ j u, ([.int .i64 a, .int .i64 b] : List Value)[j]? = some u → (w.alloc (.cells #[.int .i64 a, .int .i64 b] 24)).cell? ((⟨w.heap.size, 0, none⟩ : Addr).add j) = some u := by
  intro j u hu
  match j, hu with
  | 0, hu => simp at hu; subst hu; simp [Addr.add]
  | 1, hu => simp at hu; subst hu; simp [Addr.add]

set_option maxHeartbeats 1000000 in
theorem addGap_any (v : Value) (l : List (Int × Int)) (a b : Int) (base : Nat) (w : World) (ho : Own w base v l) (hb : base ≤ w.heap.size) (hn : l.length ≤ 1000) :
    Calls Try.prog 33 #[v, .int .i64 a, .int .i64 b] w fun e w' => ∃ v', e = .returned v' ∧ Own w' base v' (P.gap l a b) ∧ w.grownBy w' v.ownBlock := by
  obtain ⟨i0, hi, hz0, hz1, hz2⟩ := info_parts Try.infoSpan
  by_cases hab : a = b
  · subst hab
    go_enter Try.func33, Try.ntmps33
    go_wp2
    go_ret
    exact ⟨v, rfl, by simpa [P.gap] using ho, ⟨rfl, rfl, rfl, Nat.le_refl _, fun _ _ _ => rfl⟩⟩
  · have hab' : (a == b) = false := by simpa using hab
    go_enter Try.func33, Try.ntmps33
    go_wp2_with (at_builtin; refine wpList_append_own _ rfl _ _ 22 rfl base 24 i0 _ 2 16 Try.underlying22 hi hz0 hz1 hz2 rfl (by decide) v l.length (cellsOf l) rfl (ho.alloc _) ⟨w.heap.size, 0, none⟩ 1 1 [.int .i64 a, .int .i64 b] rfl rfl (news_two a b) (by simp; exact ⟨rfl, rfl⟩) (by simp only [maxLen]; omega) (by omega) (by simp; omega) ?_; intro v1 w1 hown1 hgrow1 _)
    go_ret
    refine ⟨v1, rfl, ?_, grown_alloc hgrow1⟩
    rw [P.gap, if_neg hab]
    simpa [Own, cellsOf_append, cellsOf] using hown1

def P.fr (n : Int) : List (Int × Int) → Int → List (Int × Int) → List (Int × Int)
  | acc, e, [] => P.gap acc e n
  | acc, e, s :: l => P.fr n (P.gap acc e s.1) s.2 l
def P.free (l : List (Int × Int)) (n : Int) : List (Int × Int) := if P.calendar l n = 0 then P.fr n [] 0 l else []

theorem gap_len (l : List (Int × Int)) (a b : Int) : (P.gap l a b).length ≤ l.length + 1 := by
  unfold P.gap; split <;> simp

theorem cal_len {n : Int} {l : List (Int × Int)} {e : Int} (h0 : 0 ≤ e) (h7 : e ≤ 7) (h : P.cal n e l = 0) : e + l.length ≤ 7 := by
  induction l generalizing e with
  | nil => simpa using h7
  | cons s l ih =>
    rw [P.cal] at h
    split at h
    · rename_i hc
      have hz := chk_zero hc
      split at h
      · omega
      · have := ih (by omega) (by omega) h
        simp only [List.length_cons]
        omega
    · contradiction
theorem calendar_len {n : Int} {l : List (Int × Int)} (h : P.calendar l n = 0) : l.length ≤ 7 ∧ P.cal n 0 l = 0 ∧ P.sails n = true := by
  unfold P.calendar at h
  split at h
  · rename_i hs
    have := cal_len (by omega) (by omega) h
    exact ⟨by omega, h, hs⟩
  · omega

/-- What a law on append leaves is behind an allocation of the round's own. -/
theorem own_ne {w : World} {base : Nat} {v : Value} {l : List (Int × Int)} (h : Own w base v l) {k : Nat} (hk : w.heap.size ≤ k) : some k ≠ v.ownBlock := by
  intro e
  have := h.lt k e.symm
  omega

set_option maxHeartbeats 1000000 in
theorem free_any (ao : Option Addr) (cap : Nat) (l : List (Int × Int)) (n : Int) (w : World) (hl : SpAt w ao cap l) :
    Calls Try.prog 10 #[.slice ao l.length cap, .int .i64 n] w fun e w' => ∃ v', e = .returned (.tuple #[v', .int .i64 (P.calendar l n)]) ∧ Own w' w.heap.size v' (P.free l n) ∧ Below w.heap.size w w' := by
  have hle := hl.le
  have hmx := hl.max
  unfold maxLen at hmx
  cases hz : (P.calendar l n != 0)
  · have hz0 : P.calendar l n = 0 := by simpa using hz
    obtain ⟨h7, hcal, hs⟩ := calendar_len hz0
    have HF : Aside (P.free l n = P.fr n [] 0 l) := by show _ = _; rw [P.free, if_pos hz0]
    have HC : Aside (P.calendar l n = 0) := hz0
    clear hz0 hcal
    go_enter Try.func10, Try.ntmps10
    go_wp2_with (go_at_call 32; refine (checkCalendar_any _ _ _ _ _ hl).mono ?_; rintro e w1 ⟨rfl, hb1⟩)
    go_loopg [7, 8, 19] l.length (fun g v en i wr => ∃ (k : Nat) (e : Int) (acc : List (Int × Int)), k ≤ l.length ∧ g = l.length - k ∧ i = .int .i64 k ∧ en = .int .i64 e ∧ Own wr w.heap.size v acc ∧ acc.length ≤ k ∧ P.fr n acc e (l.drop k) = P.fr n [] 0 l ∧ Below w.heap.size w wr)
    case atStart => exact ⟨0, 0, [], Nat.zero_le _, rfl, rfl, rfl, World.ownsRow_nil _ _ _ _, Nat.le_refl _, rfl, hb1⟩
    case round =>
      obtain ⟨k, e0, acc, hk, rfl, rfl, rfl, hown, hacc, hP, hB⟩ := hrel
      have hBs := hB.size
      have HP : Aside (P.fr n acc e0 (l.drop k) = P.fr n [] 0 l) := hP
      clear hP
      by_cases hlt : k < l.length
      · obtain ⟨b, off, f, t, rfl, hbw, hd, hc0, hc1⟩ := hl.get hB k hlt
        have HD : Aside (l.drop k = (f, t) :: l.drop (k + 1)) := hd
        clear hd
        go_wp2_with (go_at_call 33; refine (addGap_any _ acc _ _ w.heap.size _ (hown.alloc _) (by simp; omega) (by omega)).mono ?_; rintro e w2 ⟨v2, rfl, hown2, hgrow2⟩; have hto : w2.cell? ⟨wr.heap.size, 1, none⟩ = some (.int .i64 t) := hgrow2.cell (by simp) (own_ne hown (Nat.le_refl _)))
        go_roundg (l.length - (k + 1))
        case measure => omega
        case rel =>
          have hg := gap_len acc e0 f
          refine ⟨k + 1, t, P.gap acc e0 f, by omega, rfl, by go_num, rfl, hown2, by omega, ?_, (hB.alloc hBs _).grown hgrow2 (by simp; omega) (fun j hj => (hown.lt j hj).1)⟩
          have hP := HP.out
          rw [HD.out, P.fr] at hP
          exact hP
      · have : k = l.length := by omega
        subst this
        go_wp2_with (go_at_call 33; refine (addGap_any _ acc _ _ w.heap.size _ hown (by omega) (by omega)).mono ?_; rintro e w2 ⟨v2, rfl, hown2, hgrow2⟩)
        go_ret2
        refine ⟨v2, ret2_int HC.out.symm, ?_, hB.grown hgrow2 hBs (fun j hj => (hown.lt j hj).1)⟩
        have hP := HP.out
        rw [List.drop_of_length_le (Nat.le_refl _), P.fr] at hP
        rw [HF.out, ← hP]
        exact hown2
  · go_enter Try.func10, Try.ntmps10
    go_wp2_with (go_at_call 32; refine (checkCalendar_any _ _ _ _ _ hl).mono ?_; rintro e w1 ⟨rfl, hb1⟩)
    go_ret2
    exact ⟨_, rfl, by rw [P.free, if_neg (by simpa using hz)]; exact World.ownsRow_nil _ _ _ _, hb1⟩

end Go.Proofs.Ytnadhpemmehedaa
