/- Walks of the reference's TakeSpan, FreeOf and of spansAre. -/
import Derived.Test.YtnadhpemmehedaaSpanN
namespace Go.Proofs.Ytnadhpemmehedaa
open Go.RowKit
set_option linter.unusedSimpArgs false
set_option linter.unusedVariables false

def P.rest (l : List (Int × Int)) (f t : Int) : List (Int × Int) := l.filter fun s => !decide (s = (f, t))
def P.refTakeE (l : List (Int × Int)) (f t : Int) : Int := if (P.rest l f t).length = l.length then 5 else 0
def P.refTakeL (l : List (Int × Int)) (f t : Int) : List (Int × Int) := if (P.rest l f t).length = l.length then [] else P.rest l f t

theorem rest_take {l : List (Int × Int)} {k : Nat} {a c : Int} (f t : Int) (hk : k < l.length) (hd : l.drop k = (a, c) :: l.drop (k + 1)) : P.rest (l.take (k + 1)) f t = P.rest (l.take k) f t ++ (if (a, c) = (f, t) then [] else [(a, c)]) := by
  have e : l.take (k + 1) = l.take k ++ [(a, c)] := by
    have h1 := List.drop_eq_getElem_cons hk
    rw [hd] at h1
    simp only [List.cons.injEq] at h1
    rw [h1.1, List.take_succ_eq_append_getElem hk]
  unfold P.rest
  rw [e, List.filter_append]
  by_cases h : (a, c) = (f, t)
  · rw [if_pos h, h]; simp
  · rw [if_neg h]
    have : (!decide ((a, c) = (f, t))) = true := by simp only [decide_eq_false h]; rfl
    simp only [List.filter_cons, List.filter_nil, this, if_true]
theorem rest_len (l : List (Int × Int)) (f t : Int) : (P.rest l f t).length ≤ l.length := List.length_filter_le _ _

set_option maxHeartbeats 4000000 in
theorem takeSpan_any (ao : Option Addr) (cap : Nat) (l : List (Int × Int)) (f t : Int) (w : World) (hl : SpAt w ao cap l) (h7 : l.length ≤ 7) :
    Calls Try.prog 17 #[.slice ao l.length cap, .agg #[.int .i64 f, .int .i64 t]] w fun e w' => ∃ v', e = .returned (.tuple #[v', .int .i64 (P.refTakeE l f t)]) ∧ Own w' w.heap.size v' (P.refTakeL l f t) ∧ Below w.heap.size w w' := by
  have hle := hl.le
  go_enter Try.func17, Try.ntmps17
  go_wp2
  go_loopg [6, 7] l.length (fun g v i wr => ∃ (k : Nat) (acc : List (Int × Int)), k ≤ l.length ∧ g = l.length - k ∧ i = .int .i64 k ∧ Own wr (w.heap.size + 1) v acc ∧ acc = P.rest (l.take k) f t ∧ acc.length ≤ k ∧ BoxAt wr w.heap.size f t ∧ Below w.heap.size w wr)
  case atStart => exact ⟨0, [], Nat.zero_le _, rfl, rfl, World.ownsRow_nil _ _ _ _, rfl, Nat.le_refl _, BoxAt.new w f t, by go_grown⟩
  case round =>
    obtain ⟨k, acc, hk, rfl, rfl, hown, hP, hacc, hbox, hB⟩ := hrel
    have hBs := hB.size
    have HP : Aside (acc = P.rest (l.take k) f t) := hP
    clear hP
    by_cases hlt : k < l.length
    · obtain ⟨b, off, a, c, rfl, hbw, hd, hcw0, hcw1⟩ := hl.get (Below.refl _ _) k hlt
      have hc0 := cellOf hB hcw0
      have hc1 := cellOf hB hcw1
      have HD : Aside (P.rest (l.take (k + 1)) f t = P.rest (l.take k) f t ++ (if (a, c) = (f, t) then [] else [(a, c)])) := rest_take f t hlt hd
      clear hd
      have hx1 := hbox.from_
      have hx2 := hbox.to_
      have hi1' : (k : Int) < (l.length : Int) := by omega
      have hi2' : (0 : Int) ≤ (k : Int) := by omega
      have fin : ∀ nq, Own (wr.drewN nq) (w.heap.size + 1) _ acc ∧ BoxAt (wr.drewN nq) w.heap.size f t ∧ Below w.heap.size w (wr.drewN nq) := fun nq => ⟨hown.below (below_drewN (Below.refl _ _) nq), hbox.below (below_drewN (Below.refl _ _) nq), below_drewN hB nq⟩
      by_cases e1 : a = f
      · by_cases e2 : c = t
        · have HE : Aside (P.rest (l.take (k + 1)) f t = P.rest (l.take k) f t) := by show _ = _; rw [HD.out, if_pos (by rw [e1, e2])]; simp
          subst e1 e2
          clear HD
          go_wp2
          go_quiet (fail)
          obtain ⟨o3, b3, B3⟩ := fin nq
          go_wp2
          go_roundg (l.length - (k + 1))
          case measure => omega
          case rel => exact ⟨k + 1, acc, by omega, rfl, by go_num, o3, by rw [HE.out]; exact HP.out, by omega, b3, B3⟩
        · have e2' : (c == t) = false := by simpa using e2
          have HE : Aside (P.rest (l.take (k + 1)) f t = P.rest (l.take k) f t ++ [(a, c)]) := by show _ = _; rw [HD.out, if_neg (by simp [e2])]
          subst e1
          clear HD
          go_wp2
          go_quiet (fail)
          obtain ⟨o3, b3, B3⟩ := fin nq
          have hs3 : w.heap.size + 1 ≤ (wr.drewN nq).heap.size := b3.lt
          go_wp2_with (at_builtin; refine wpList_append_span rfl (.tmp 20) (.tmp 25) rfl (w.heap.size + 1) _ acc a c rfl o3 rfl hs3 (by omega) ?_; intro v5 w5 hown5 hgrow5; have hB5 := grown_below B3 o3 (by omega) hgrow5; have hbox5 := b3.grown hgrow5 (fun e => by have := (o3.lt _ e.symm).1; omega))
          go_roundg (l.length - (k + 1))
          case measure => omega
          case rel => exact ⟨k + 1, acc ++ [(a, c)], by omega, rfl, by go_num, hown5, by rw [HE.out, HP.out], by simp; omega, hbox5, hB5⟩
      · have e1' : (a == f) = false := by simpa using e1
        have HE : Aside (P.rest (l.take (k + 1)) f t = P.rest (l.take k) f t ++ [(a, c)]) := by show _ = _; rw [HD.out, if_neg (by simp [e1])]
        clear HD
        go_wp2
        go_quiet (fail)
        obtain ⟨o3, b3, B3⟩ := fin nq
        have hs3 : w.heap.size + 1 ≤ (wr.drewN nq).heap.size := b3.lt
        go_wp2_with (at_builtin; refine wpList_append_span rfl (.tmp 20) (.tmp 25) rfl (w.heap.size + 1) _ acc a c rfl o3 rfl hs3 (by omega) ?_; intro v5 w5 hown5 hgrow5; have hB5 := grown_below B3 o3 (by omega) hgrow5; have hbox5 := b3.grown hgrow5 (fun e => by have := (o3.lt _ e.symm).1; omega))
        go_roundg (l.length - (k + 1))
        case measure => omega
        case rel => exact ⟨k + 1, acc ++ [(a, c)], by omega, rfl, by go_num, hown5, by rw [HE.out, HP.out], by simp; omega, hbox5, hB5⟩
    · obtain rfl : k = l.length := by omega
      have HA : Aside (acc = P.rest l f t) := by have := HP.out; rw [List.take_of_length_le (Nat.le_refl _)] at this; exact this
      obtain ⟨ao1, cap1, rfl, a1⟩ := Own.at hown
      clear HP
      by_cases he : acc.length = l.length
      · have e0 : Aside (P.refTakeE l f t = 5) := by show _ = _; rw [P.refTakeE, ← HA.out, if_pos he]
        have e1 : Aside (P.refTakeL l f t = []) := by show _ = _; rw [P.refTakeL, ← HA.out, if_pos he]
        have hee : ((acc.length : Int) == (l.length : Int)) = true := by simp [he]
        clear he
        go_wp2
        go_ret2
        exact ⟨_, ret2_int e0.out.symm, by rw [e1.out]; exact World.ownsRow_nil _ _ _ _, hB⟩
      · have e0 : Aside (P.refTakeE l f t = 0) := by show _ = _; rw [P.refTakeE, ← HA.out, if_neg he]
        have e1 : Aside (P.refTakeL l f t = acc) := by show _ = _; rw [P.refTakeL, ← HA.out, if_neg he]
        have hee : ((acc.length : Int) == (l.length : Int)) = false := by simp; omega
        clear he
        go_wp2
        go_ret2
        exact ⟨_, ret2_int e0.out.symm, by rw [e1.out]; exact World.ownsRow.mono hown (by omega), hB⟩

set_option maxHeartbeats 1000000 in
/-- spansAre: the answer and the errno are what they must be. -/
theorem spansAre_any (ao bo : Option Addr) (ca cb : Nat) (a b : List (Int × Int)) (e : Int) (w : World) (ha : SpAt w ao ca a) (hb : SpAt w bo cb b) (hab : a = if e = 0 then b else []) :
    Calls Try.prog 21 #[.slice ao a.length ca, .int .i64 e, .int .i64 e, .slice bo b.length cb] w fun r w' => r = .returned (.bool true) ∧ Below w.heap.size w w' := by
  have HA : Aside (a = if e = 0 then b else []) := hab
  clear hab
  cases hz : (e != 0)
  · have h0 : e = 0 := by simpa using hz
    subst h0
    go_enter Try.func21, Try.ntmps21
    go_wp2_with (go_at_call 22; refine (sameSpans_any _ _ _ _ a b _ ha hb).mono ?_; rintro r w1 ⟨rfl, hb1⟩)
    go_ret
    exact ⟨ret_bool (by have := HA.out; simpa using this), hb1⟩
  · have hz' : e ≠ 0 := by simpa using hz
    have HN : Aside (a = []) := by have := HA.out; rw [if_neg hz'] at this; exact this
    have hn : SpAt w Option.none 0 [] := ⟨by simp, by simp [maxLen], fun _ => rfl, fun h => by simp at h⟩
    clear hz'
    go_enter Try.func21, Try.ntmps21
    go_wp2_with (go_at_call 22; refine (sameSpans_any _ _ _ _ a [] _ ha hn).mono ?_; rintro r w1 ⟨rfl, hb1⟩)
    go_ret
    exact ⟨ret_bool (by have := HN.out; simpa using this), hb1⟩

end Go.Proofs.Ytnadhpemmehedaa
