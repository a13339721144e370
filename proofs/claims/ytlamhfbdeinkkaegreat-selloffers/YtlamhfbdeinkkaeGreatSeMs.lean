/- What is sold of the cruise. -/
import Derived.Test.YtlamhfbdeinkkaeGreatSeIs
import Derived.Test.YtlamhfbdeinkkaeGreatStSs
namespace Go.Proofs.YtlamhfbdeinkkaeGreat.St
open Go.RowKit Bk
set_option linter.unusedSimpArgs false
set_option linter.unusedVariables false
set_option maxRecDepth 10000

def T.S1 : Bkg := ⟨3, 1, 2, 1, false, 1, 0, 0, 1, 0, []⟩
/-- The cruise with it. -/
def T.A : Sail := P.withB T.C (P.priced 1 T.C T.S1)
theorem max_left {E : List (Int × Int)} (h1 : ∀ z ∈ E, z.1 = 0) (h2 : 0 < E.length) : Ma.MaxM E 1 := by
  refine ⟨?_, fun m hm => ?_⟩
  · match E, h2 with
    | x :: t, _ => exact ⟨[x], ⟨by simp, by simp⟩, rfl⟩
  · obtain ⟨k1, k2⟩ := hm
    match m with
    | [] => simp
    | [_] => simp
    | x :: y :: t =>
      exfalso
      have hx := h1 x (k1 x (by simp))
      have hy := h1 y (k1 y (by simp))
      have h := (List.pairwise_cons.1 k2).1 y (by simp)
      exact h.1 (by rw [hx, hy])
theorem room_one {x : Sail} (h1 : P.twice x = false) (h2 : P.many x = false) (h3 : (P.pedg x.s x.bks 0 x.bks).all (fun z => decide (z.1 = 0)) = true) (h4 : 0 < (P.pedg x.s x.bks 0 x.bks).length) (h5 : (P.pids x.bks).length = 1) : P.Room x 0 := by
  refine .inr (.inr ⟨h1, h2, 1, max_left (fun z hz => ?_) h4, by rw [h5]; rfl⟩)
  have := List.all_eq_true.1 h3 z hz
  simpa using this
def P.roomB (x : Sail) : Bool := !P.twice x && !P.many x && (P.pedg x.s x.bks 0 x.bks).all (fun z => decide (z.1 = 0)) && decide (0 < (P.pedg x.s x.bks 0 x.bks).length) && decide ((P.pids x.bks).length = 1)
theorem roomB_ok {x : Sail} (h : P.roomB x = true) : P.Room x 0 := by
  simp only [P.roomB, Bool.and_eq_true, Bool.not_eq_true', decide_eq_true_eq] at h
  exact room_one h.1.1.1.1 h.1.1.1.2 h.1.1.2 h.1.2 h.2
theorem sells_is {k : Int} {x : Sail} {b : Bkg} (h : P.sellE k x b = 0) (hr : P.roomB (P.withB x (P.priced k x b)) = true) : P.Sells k x b 0 (P.withB x (P.priced k x b)) := .inr ⟨h, roomB_ok hr, .inl ⟨rfl, rfl⟩⟩
theorem t_s1 : P.sellE 1 T.C T.S1 = 0 ∧ P.roomB (P.withB T.C (P.priced 1 T.C T.S1)) = true := by decide +kernel
theorem t_s2 : P.sellE 1 T.C T.N = 6 := by decide +kernel
theorem t_s3 : P.sellE 2 T.C T.B1 = 0 ∧ P.twice (P.withB T.C (P.priced 2 T.C T.B1)) = false ∧ P.many (P.withB T.C (P.priced 2 T.C T.B1)) = true := by decide +kernel
theorem t_s4 : P.offE T.C 1 0 1 = 0 ∧ P.isIn 1 T.C.bks = false := by decide +kernel
theorem t_s5 : (P.sellE 1 T.C (P.setC (P.who 1 1 false 0 1) 0) = 0 ∧ P.roomB (P.withB T.C (P.priced 1 T.C (P.setC (P.who 1 1 false 0 1) 0))) = true) ∧ (P.sellE 1 T.C (P.setC (P.who 1 1 false 0 1) 1) = 0 ∧ P.roomB (P.withB T.C (P.priced 1 T.C (P.setC (P.who 1 1 false 0 1) 1))) = true) ∧ (P.sellE 1 T.C (P.setC (P.who 1 1 false 0 1) 2) = 0 ∧ P.roomB (P.withB T.C (P.priced 1 T.C (P.setC (P.who 1 1 false 0 1) 2))) = true) := by decide +kernel
theorem t_A : T.A.bks = [⟨3, 1, 2, 1, false, 1, 0, 0, 1, 0, [(2, 1, 225)]⟩, T.N1, T.Q1] := rfl
theorem sold_S1 : P.SellS 1 T.C T.S1 0 T.A := .inr ⟨t_sail, sells_is t_s1.1 t_s1.2⟩
theorem sold_N : P.SellS 1 T.C T.N 6 P.zeroS := .inr ⟨t_sail, .inl ⟨by rw [t_s2]; decide, t_s2.symm, rfl⟩⟩
theorem sold_Q : P.SellS 2 T.C T.B1 8 P.zeroS := .inr ⟨t_sail, .inr ⟨t_s3.1, .inr (.inl ⟨t_s3.2.1, t_s3.2.2, rfl⟩), .inr ⟨by decide, rfl⟩⟩⟩
theorem off_C : P.OffS T.C 1 false 0 1 0 [0, 1, 2] := by
  refine .inr ⟨t_sail, t_s4.1.symm, fun h => absurd rfl h, fun _ => ⟨1, ⟨by decide, fun m h1 h2 => by omega, t_s4.2⟩, ⟨by simp, fun z hz => ?_, fun c hc => ?_⟩⟩⟩
  · have : T.C.s.bs.length = 3 := rfl
    simp at hz
    omega
  · have hc : c < 3 := hc
    match c, hc with
    | 0, _ => exact ⟨fun _ => ⟨_, sells_is t_s5.1.1 t_s5.1.2⟩, fun _ => by simp⟩
    | 1, _ => exact ⟨fun _ => ⟨_, sells_is t_s5.2.1.1 t_s5.2.1.2⟩, fun _ => by simp⟩
    | 2, _ => exact ⟨fun _ => ⟨_, sells_is t_s5.2.2.1 t_s5.2.2.2⟩, fun _ => by simp⟩

set_option maxHeartbeats 400000 in
theorem named_S1 (a : SailA) (w : World) (s : SailAt w T.C a) :
    Calls Tryz.prog 11 #[V.sail T.C a, V.bk T.S1 none 0] w fun e w' => ∃ a', e = .returned (.tuple #[V.sail T.A a', .int .i64 0]) ∧ SailUp w.heap.size w' T.A a' ∧ Below w.heap.size w w' := by
  refine (sellNamed_any T.C a T.S1 none 0 w s (SlAt.nilOf _)).mono ?_
  rintro e w' ⟨r, y, a', rfl, h, u, hb⟩
  obtain ⟨rfl, rfl⟩ := SellS.one h sold_S1
  exact ⟨a', rfl, u, hb⟩
set_option maxHeartbeats 400000 in
theorem named_N (a : SailA) (w : World) (s : SailAt w T.C a) :
    Calls Tryz.prog 11 #[V.sail T.C a, V.bk T.N none 0] w fun e w' => ∃ a', e = .returned (.tuple #[V.sail P.zeroS a', .int .i64 6]) ∧ Below w.heap.size w w' := by
  refine (sellNamed_any T.C a T.N none 0 w s (SlAt.nilOf _)).mono ?_
  rintro e w' ⟨r, y, a', rfl, h, u, hb⟩
  obtain ⟨rfl, rfl⟩ := SellS.one h sold_N
  exact ⟨a', rfl, hb⟩
set_option maxHeartbeats 400000 in
theorem promise_Q (a : SailA) (w : World) (s : SailAt w T.C a) :
    Calls Tryz.prog 12 #[V.sail T.C a, V.bk T.B1 none 0] w fun e w' => ∃ a', e = .returned (.tuple #[V.sail P.zeroS a', .int .i64 8]) ∧ Below w.heap.size w w' := by
  refine (sellPromise_any T.C a T.B1 none 0 w s (SlAt.nilOf _)).mono ?_
  rintro e w' ⟨r, y, a', rfl, h, u, hb⟩
  obtain ⟨rfl, rfl⟩ := SellS.one h sold_Q
  exact ⟨a', rfl, hb⟩
set_option maxHeartbeats 400000 in
theorem offers_C (a : SailA) (w : World) (s : SailAt w T.C a) :
    Calls Tryz.prog 17 #[V.sail T.C a, .int .i64 1, .bool false, .agg #[.int .i64 0, .int .i64 1]] w fun e w' => ∃ ao cap, e = .returned (.tuple #[.slice ao 3 cap, .int .i64 0]) ∧ IntsAt w' ao cap [0, 1, 2] ∧ Below w.heap.size w w' := by
  refine (sellOffers_any T.C a 1 false 0 1 w s).mono ?_
  rintro e w' ⟨r, v, l, rfl, own, h, hb⟩
  obtain ⟨rfl, rfl⟩ := OffS.one h off_C
  obtain ⟨ao, cap, rfl, hl⟩ := OwnJ.at own
  exact ⟨ao, cap, rfl, hl, hb⟩

end Go.Proofs.YtlamhfbdeinkkaeGreat.St
