/- Walks of Add and Take. -/
import Derived.Test.YtnadhpemmehedaaSpanG
namespace Go.Proofs.Ytnadhpemmehedaa
open Go.RowKit
set_option linter.unusedSimpArgs false
set_option linter.unusedVariables false

def P.addE (l : List (Int × Int)) (n f t : Int) : Int := if P.both l n f t = 0 then (if l.findIdx (fun s => P.meet s.1 s.2 f t) < l.length then 6 else 0) else P.both l n f t
def P.addAt (l : List (Int × Int)) (f : Int) : Nat := l.findIdx (fun s => decide (f < s.1))
def P.addL (l : List (Int × Int)) (n f t : Int) : List (Int × Int) := if P.addE l n f t = 0 then l.take (P.addAt l f) ++ (f, t) :: l.drop (P.addAt l f) else []
def P.sameAt (l : List (Int × Int)) (f t : Int) : Nat := l.findIdx (fun s => decide ((s.1, s.2) = (f, t)))
def P.takeE (l : List (Int × Int)) (n f t : Int) : Int := if P.both l n f t = 0 then (if P.sameAt l f t < l.length then 0 else 5) else P.both l n f t
def P.takeL (l : List (Int × Int)) (n f t : Int) : List (Int × Int) := if P.takeE l n f t = 0 then l.take (P.sameAt l f t) ++ l.drop (P.sameAt l f t + 1) else []

theorem both_len {l : List (Int × Int)} {n f t : Int} (h : P.both l n f t = 0) : l.length ≤ 7 := by
  unfold P.both at h
  split at h
  · rename_i hc; exact (calendar_len hc).1
  · contradiction

/-- A block that holds a span stays one. -/
structure BoxAt (w : World) (g : Nat) (f t : Int) : Prop where
  lt : g < w.heap.size
  from_ : w.cell? ⟨g, 0, none⟩ = some (.int .i64 f)
  to_ : w.cell? ⟨g, 1, none⟩ = some (.int .i64 t)
theorem BoxAt.below {w w' : World} {g : Nat} {f t : Int} (h : BoxAt w g f t) (hb : Below w.heap.size w w') : BoxAt w' g f t :=
  ⟨Nat.lt_of_lt_of_le h.lt hb.size, by rw [hb.cell (p := ⟨g, 0, none⟩) h.lt]; exact h.from_, by rw [hb.cell (p := ⟨g, 1, none⟩) h.lt]; exact h.to_⟩
theorem BoxAt.new (w : World) (f t : Int) : BoxAt (w.alloc (.cells #[.int .i64 f, .int .i64 t] 24)) w.heap.size f t :=
  ⟨by simp, by simp, by simp⟩

theorem BoxAt.grown {w w' : World} {g : Nat} {f t : Int} {row : Option Nat} (h : BoxAt w g f t) (hg : w.grownBy w' row) (hne : some g ≠ row) : BoxAt w' g f t :=
  ⟨Nat.lt_of_lt_of_le h.lt hg.size, hg.cell h.from_ hne, hg.cell h.to_ hne⟩
theorem SpAt.none {w : World} {ao : Option Addr} {cap : Nat} {l : List (Int × Int)} (h : SpAt w ao cap l) (e : ao = none) : l.length = 0 ∧ cap = 0 := by
  have := h.nil e
  have := h.le
  omega
theorem SpAt.tailNone {w : World} {ao : Option Addr} {cap : Nat} {l : List (Int × Int)} (h : SpAt w ao cap l) (k : Nat) (e : tailAt ao cap k = Option.none) : l.length - k = 0 ∧ cap - k = 0 := by
  have := (h.tail k).none e
  simpa using this

theorem firstMeet_any (ao : Option Addr) (cap : Nat) (l : List (Int × Int)) (g : Nat) (f t : Int) (w : World) (hl : SpAt w ao cap l) (hx : BoxAt w g f t) :
    Calls Try.prog 35 #[.slice ao l.length cap, .func (.func 36) #[] #[.pointer (some ⟨g, 0, none⟩)]] w fun e w' => e = .returned (.int .i64 (l.findIdx fun s => P.meet s.1 s.2 f t)) ∧ Below w.heap.size w w' :=
  first_any ao cap l _ _ (fun a b => P.meet a b f t) w hl (fun args wx => by go_simp) (fun a b wx hb => addMeet_any a b f t g wx (hx.below hb).lt (hx.below hb).from_ (hx.below hb).to_)
theorem firstBehind_any (ao : Option Addr) (cap : Nat) (l : List (Int × Int)) (g : Nat) (f t : Int) (w : World) (hl : SpAt w ao cap l) (hx : BoxAt w g f t) :
    Calls Try.prog 35 #[.slice ao l.length cap, .func (.func 37) #[] #[.pointer (some ⟨g, 0, none⟩)]] w fun e w' => e = .returned (.int .i64 (P.addAt l f)) ∧ Below w.heap.size w w' :=
  first_any ao cap l _ _ (fun a b => decide (f < a)) w hl (fun args wx => by go_simp) (fun a b wx hb => addBehind_any a b f t g wx (hx.below hb).lt (hx.below hb).from_ (hx.below hb).to_)
theorem firstSame_any (ao : Option Addr) (cap : Nat) (l : List (Int × Int)) (g : Nat) (f t : Int) (w : World) (hl : SpAt w ao cap l) (hx : BoxAt w g f t) :
    Calls Try.prog 35 #[.slice ao l.length cap, .func (.func 38) #[] #[.pointer (some ⟨g, 0, none⟩)]] w fun e w' => e = .returned (.int .i64 (P.sameAt l f t)) ∧ Below w.heap.size w w' :=
  first_any ao cap l _ _ (fun a b => decide ((a, b) = (f, t))) w hl (fun args wx => by go_simp) (fun a b wx hb => takeSame_any a b f t g wx (hx.below hb).lt (hx.below hb).from_ (hx.below hb).to_)

set_option maxHeartbeats 1000000 in
theorem add_any (ao : Option Addr) (cap : Nat) (l : List (Int × Int)) (n f t : Int) (w : World) (hl : SpAt w ao cap l) :
    Calls Try.prog 11 #[.slice ao l.length cap, .int .i64 n, .agg #[.int .i64 f, .int .i64 t]] w fun e w' => ∃ v', e = .returned (.tuple #[v', .int .i64 (P.addE l n f t)]) ∧ Own w' w.heap.size v' (P.addL l n f t) ∧ Below w.heap.size w w' := by
  cases hz : (P.both l n f t != 0)
  · have HZ : Aside (P.both l n f t = 0) := by show _ = _; simpa using hz
    have h7 := both_len HZ.out
    generalize hM : l.findIdx (fun s => P.meet s.1 s.2 f t) = m
    have HM : Aside (l.findIdx (fun s => P.meet s.1 s.2 f t) = m) := hM
    clear hM
    by_cases hm : m < l.length
    · have e1 : Aside (P.addE l n f t = 6) := by show _ = _; rw [P.addE, if_pos HZ.out, HM.out, if_pos hm]
      go_enter Try.func11, Try.ntmps11
      go_wp2_with (go_at_call 34; refine (checkBoth_any _ _ _ _ _ _ _ (hl.below (by go_grown))).mono ?_; rintro e w1 ⟨rfl, hb1⟩)
      have hx := (BoxAt.new w f t).below hb1
      have hw1 : Below w.heap.size w w1 := bvia (by go_grown) hb1
      refine (firstMeet_any _ _ _ _ f t _ (hl.below hw1) hx).mono ?_
      rintro e w2 ⟨rfl, hb2⟩
      rw [HM.out]
      go_wp2
      go_ret2
      exact ⟨_, ret2_int e1.out.symm, by rw [P.addL, e1.out, if_neg (by decide)]; exact World.ownsRow_nil _ _ _ _, bvia hw1 hb2⟩
    · have e1 : Aside (P.addE l n f t = 0) := by show _ = _; rw [P.addE, if_pos HZ.out, HM.out, if_neg hm]
      go_enter Try.func11, Try.ntmps11
      go_wp2_with (go_at_call 34; refine (checkBoth_any _ _ _ _ _ _ _ (hl.below (by go_grown))).mono ?_; rintro e w1 ⟨rfl, hb1⟩)
      have hx := (BoxAt.new w f t).below hb1
      have hw1 : Below w.heap.size w w1 := bvia (by go_grown) hb1
      refine (firstMeet_any _ _ _ _ f t _ (hl.below hw1) hx).mono ?_
      rintro e w2 ⟨rfl, hb2⟩
      rw [HM.out]
      have hx2 := hx.below hb2
      have hw2 : Below w.heap.size w w2 := bvia hw1 hb2
      go_wp2_with fail
      refine (firstBehind_any _ _ _ _ f t _ (hl.below hw2) hx2).mono ?_
      rintro e w3 ⟨rfl, hb3⟩
      obtain ⟨i0, hi, hi0, hi1, hi2⟩ := info_parts Try.infoSpan
      have hle := hl.le
      have hk : P.addAt l f ≤ l.length := List.findIdx_le_length
      have HL : Aside (P.addL l n f t = l.take (P.addAt l f) ++ (f, t) :: l.drop (P.addAt l f)) := by show _ = _; rw [P.addL, if_pos e1.out]
      generalize P.addAt l f = k at hk HL
      have hw3 : Below w.heap.size w w3 := bvia hw2 hb3
      have hx3 := hx2.below hb3
      have hs3 := hw3.size
      have hlt3 : w.heap.size < w3.heap.size := hx3.lt
      have hl3 := hl.below hw3
      have hsl1 := run_head ao l.length cap k (by omega)
      have hsl2 := run_tail ao l.length cap k hk
      have hnil := fun h => hl.none h
      have hnil2 := fun h => hl.tailNone k h
      go_wp2_with (first
        | (at_make; refine wpList_make_own _ rfl _ _ 22 rfl w.heap.size 24 i0 _ 2 Try.underlying22 hi hi0 hi1 _ _ _ (l.length + 1) rfl rfl (by omega) (by rw [hi2]; omega) (by unfold maxLen; omega) (by omega) ?_; intro w4 hown4 hgrow4; have hw4 : Below w.heap.size w w4 := hw3.grown hgrow4 hs3 (fun k h => by cases h); have hs4 := hgrow4.size; have hc4 := ((hl.below hw4).head k).news)
        | (at_builtin; refine wpList_append_fits_any _ rfl (.tmp 31) (.tmp 34) 22 rfl w.heap.size 24 i0 2 Try.underlying22 hi hi1 w3.heap.size 0 (l.length + 1) _ rfl hown4 ao k cap (cellsOf (l.take k)) rfl (by rw [cellsOf_length, List.length_take]; omega) (fun h => by have := hnil h; omega) hc4 (cellsOf_one _) (by omega) ?_; intro w5 hown5 hgrow5; have hw5 : Below w.heap.size w w5 := hw4.grown hgrow5 (by omega) (fun j h => by cases h; exact hs3); have hs5 := hgrow5.size; obtain ⟨hx5, hf5, ht5⟩ := (hx3.grown hgrow4 (by simp)).grown hgrow5 (by simp; omega))
        | (at_builtin; refine wpList_append_fits _ rfl (.tmp 36) (.tmp 38) 22 rfl w.heap.size 24 i0 2 Try.underlying22 hi hi1 w3.heap.size k (l.length + 1) _ rfl ((by simpa using hown5 : w5.ownsRow w.heap.size 24 2 (.slice (some ⟨w3.heap.size, 0, Option.none⟩) k (l.length + 1)) k (cellsOf (l.take k))).alloc _) ⟨w5.heap.size, 0, Option.none⟩ 1 1 [.int .i64 f, .int .i64 t] rfl rfl (news_two f t) (by simp; exact ⟨rfl, rfl⟩) (by omega) ?_; intro w6 hown6 hgrow6; have hw6 : Below w.heap.size w w6 := (hw5.alloc (by omega) _).grown hgrow6 (by simp; omega) (fun j h => by cases h; exact hs3); have hs6 := hgrow6.size; have hc6 := ((hl.below hw6).tail k).news)
        | (at_builtin; refine wpList_append_fits_any _ rfl (.tmp 40) (.tmp 43) 22 rfl w.heap.size 24 i0 2 Try.underlying22 hi hi1 w3.heap.size (k + 1) (l.length + 1) _ rfl hown6 (tailAt ao cap k) (l.length - k) (cap - k) (cellsOf (l.drop k)) rfl (by rw [cellsOf_length, List.length_drop]) (fun h => by have := hnil2 h; omega) hc6 (cellsOf_one _) (by omega) ?_; intro w7 hown7 hgrow7; have hw7 : Below w.heap.size w w7 := hw6.grown hgrow7 (by simp at hs6; omega) (fun j h => by cases h; exact hs3)))
      go_ret2
      refine ⟨_, ret2_int e1.out.symm, ?_, hw7⟩
      have eL : (l.take k ++ (f, t) :: l.drop k).length = k + 1 + (l.length - k) := by simp; omega
      have eC : cellsOf (l.take k ++ (f, t) :: l.drop k) = cellsOf (l.take k) ++ [.int .i64 f, .int .i64 t] ++ cellsOf (l.drop k) := by
        rw [show l.take k ++ (f, t) :: l.drop k = l.take k ++ [(f, t)] ++ l.drop k by simp, cellsOf_append, cellsOf_append]; rfl
      rw [HL.out, Own, eL, eC]
      exact hown7
  · have HZ : Aside (P.both l n f t ≠ 0) := by show _ ≠ _; simpa using hz
    go_enter Try.func11, Try.ntmps11
    go_wp2_with (go_at_call 34; refine (checkBoth_any _ _ _ _ _ _ _ (hl.below (by go_grown))).mono ?_; rintro e w1 ⟨rfl, hb1⟩)
    go_ret2
    have e1 : P.addE l n f t = P.both l n f t := by rw [P.addE, if_neg HZ.out]
    exact ⟨_, ret2_int e1.symm, by rw [P.addL, e1, if_neg HZ.out]; exact World.ownsRow_nil _ _ _ _, bvia (by go_grown) hb1⟩

set_option maxHeartbeats 1000000 in
theorem take_any (ao : Option Addr) (cap : Nat) (l : List (Int × Int)) (n f t : Int) (w : World) (hl : SpAt w ao cap l) :
    Calls Try.prog 12 #[.slice ao l.length cap, .int .i64 n, .agg #[.int .i64 f, .int .i64 t]] w fun e w' => ∃ v', e = .returned (.tuple #[v', .int .i64 (P.takeE l n f t)]) ∧ Own w' w.heap.size v' (P.takeL l n f t) ∧ Below w.heap.size w w' := by
  cases hz : (P.both l n f t != 0)
  · have HZ : Aside (P.both l n f t = 0) := by show _ = _; simpa using hz
    have h7 := both_len HZ.out
    have hk : P.sameAt l f t ≤ l.length := List.findIdx_le_length
    have HL : Aside (P.takeE l n f t = (if P.sameAt l f t < l.length then 0 else 5)) := by show _ = _; rw [P.takeE, if_pos HZ.out]
    have HT : Aside (P.takeE l n f t = 0 → P.takeL l n f t = l.take (P.sameAt l f t) ++ l.drop (P.sameAt l f t + 1)) := by intro h; rw [P.takeL, if_pos h]
    generalize hK : P.sameAt l f t = k at hk HL HT
    have HK : Aside (P.sameAt l f t = k) := hK
    clear hK
    by_cases hm : k < l.length
    · have e1 : Aside (P.takeE l n f t = 0) := by show _ = _; rw [HL.out, if_pos hm]
      have HT2 : Aside (P.takeL l n f t = l.take k ++ l.drop (k + 1)) := HT.out e1.out
      have hne : ((k : Int) == (l.length : Int)) = false := by simp; omega
      clear HL HT
      go_enter Try.func12, Try.ntmps12
      go_wp2_with (go_at_call 34; refine (checkBoth_any _ _ _ _ _ _ _ (hl.below (by go_grown))).mono ?_; rintro e w1 ⟨rfl, hb1⟩)
      have hx := (BoxAt.new w f t).below hb1
      have hw1 : Below w.heap.size w w1 := bvia (by go_grown) hb1
      refine (firstSame_any _ _ _ _ f t _ (hl.below hw1) hx).mono ?_
      rintro e w3 ⟨rfl, hb3⟩
      rw [HK.out]
      obtain ⟨i0, hi, hi0, hi1, hi2⟩ := info_parts Try.infoSpan
      have hle := hl.le
      have hw3 : Below w.heap.size w w3 := bvia hw1 hb3
      have hs3 := hw3.size
      have hsl1 := run_head ao l.length cap k (by omega)
      have hsl2 : ∀ wx, (Instr.slice 22 (.slice ao l.length cap) (some (.int .i64 ((k : Int) + 1))) Option.none Option.none).run Try.prog wx = .ok (.slice (tailAt ao cap (k + 1)) (l.length - (k + 1)) (cap - (k + 1))) wx := run_tail ao l.length cap (k + 1) hm
      have hnil := fun h => hl.none h
      have hnil2 := fun h => hl.tailNone (k + 1) h
      go_wp2_with (first
        | (at_make; refine wpList_make_own _ rfl _ _ 22 rfl w.heap.size 24 i0 _ 2 Try.underlying22 hi hi0 hi1 _ _ _ (l.length - 1) rfl rfl (by omega) (by rw [hi2]; omega) (by unfold maxLen; omega) (by omega) ?_; intro w4 hown4 hgrow4; have hw4 : Below w.heap.size w w4 := hw3.grown hgrow4 hs3 (fun k h => by cases h); have hs4 := hgrow4.size; have hc4 := ((hl.below hw4).head k).news)
        | (at_builtin; refine wpList_append_fits_any _ rfl (.tmp 29) (.tmp 32) 22 rfl w.heap.size 24 i0 2 Try.underlying22 hi hi1 w3.heap.size 0 (l.length - 1) _ rfl hown4 ao k cap (cellsOf (l.take k)) rfl (by rw [cellsOf_length, List.length_take]; omega) (fun h => by have := hnil h; omega) hc4 (cellsOf_one _) (by omega) ?_; intro w5 hown5 hgrow5; have hw5 : Below w.heap.size w w5 := hw4.grown hgrow5 (by omega) (fun j h => by cases h; exact hs3); have hs5 := hgrow5.size; have hc5 := ((hl.below hw5).tail (k + 1)).news)
        | (at_builtin; refine wpList_append_fits_any _ rfl (.tmp 34) (.tmp 38) 22 rfl w.heap.size 24 i0 2 Try.underlying22 hi hi1 w3.heap.size k (l.length - 1) _ rfl (by simpa using hown5 : w5.ownsRow w.heap.size 24 2 (.slice (some ⟨w3.heap.size, 0, Option.none⟩) k (l.length - 1)) k (cellsOf (l.take k))) (tailAt ao cap (k + 1)) (l.length - (k + 1)) (cap - (k + 1)) (cellsOf (l.drop (k + 1))) rfl (by rw [cellsOf_length, List.length_drop]) (fun h => by have := hnil2 h; omega) hc5 (cellsOf_one _) (by omega) ?_; intro w7 hown7 hgrow7; have hw7 : Below w.heap.size w w7 := hw5.grown hgrow7 (by omega) (fun j h => by cases h; exact hs3)))
      go_ret2
      refine ⟨_, ret2_int e1.out.symm, ?_, hw7⟩
      have eL : (l.take k ++ l.drop (k + 1)).length = k + (l.length - (k + 1)) := by simp; omega
      rw [HT2.out, Own, eL, cellsOf_append]
      exact hown7
    · have e1 : Aside (P.takeE l n f t = 5) := by show _ = _; rw [HL.out, if_neg hm]
      have hne : ((k : Int) == (l.length : Int)) = true := by simp; omega
      clear HL HT
      go_enter Try.func12, Try.ntmps12
      go_wp2_with (go_at_call 34; refine (checkBoth_any _ _ _ _ _ _ _ (hl.below (by go_grown))).mono ?_; rintro e w1 ⟨rfl, hb1⟩)
      have hx := (BoxAt.new w f t).below hb1
      have hw1 : Below w.heap.size w w1 := bvia (by go_grown) hb1
      refine (firstSame_any _ _ _ _ f t _ (hl.below hw1) hx).mono ?_
      rintro e w3 ⟨rfl, hb3⟩
      rw [HK.out]
      go_wp2
      go_ret2
      exact ⟨_, ret2_int e1.out.symm, by rw [P.takeL, e1.out, if_neg (by decide)]; exact World.ownsRow_nil _ _ _ _, bvia hw1 hb3⟩
  · have HZ : Aside (P.both l n f t ≠ 0) := by show _ ≠ _; simpa using hz
    go_enter Try.func12, Try.ntmps12
    go_wp2_with (go_at_call 34; refine (checkBoth_any _ _ _ _ _ _ _ (hl.below (by go_grown))).mono ?_; rintro e w1 ⟨rfl, hb1⟩)
    go_ret2
    have e1 : P.takeE l n f t = P.both l n f t := by rw [P.takeE, if_neg HZ.out]
    exact ⟨_, ret2_int e1.symm, by rw [P.takeL, e1, if_neg HZ.out]; exact World.ownsRow_nil _ _ _ _, bvia (by go_grown) hb1⟩

end Go.Proofs.Ytnadhpemmehedaa
