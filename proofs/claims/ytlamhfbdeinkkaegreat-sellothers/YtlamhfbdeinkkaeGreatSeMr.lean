/- What is sold of the cruise. -/
import Derived.Test.YtlamhfbdeinkkaeGreatSeIr
import Derived.Test.YtlamhfbdeinkkaeGreatStSr
import Derived.Deep.CutRange
namespace Go.Proofs.YtlamhfbdeinkkaeGreat.St
open Go.RowKit Bk
set_option linter.unusedSimpArgs false
set_option linter.unusedVariables false
set_option maxRecDepth 10000

def T.S1 : Bkg := ⟨3, 1, 2, 1, false, 1, 0, 0, 1, 0, []⟩
/-- The cruise with it. -/
def T.A : Sail := P.withB T.C (P.priced 1 T.C T.S1)
theorem max_left {E : List (Int × Int)} (h1 : ∀ z ∈ E, z.1 = 0) (h2 : 0 < E.length) : Ma.MaxM E 1 := by
  refine ⟨?_, fun m hm => ?_⟩
  · match E, h2 with
    | x :: t, _ => exact ⟨[x], ⟨by simp, by simp⟩, rfl⟩
  · obtain ⟨k1, k2⟩ := hm
    match m with
    | [] => simp
    | [_] => simp
    | x :: y :: t =>
      exfalso
      have hx := h1 x (k1 x (by simp))
      have hy := h1 y (k1 y (by simp))
      have h := (List.pairwise_cons.1 k2).1 y (by simp)
      exact h.1 (by rw [hx, hy])
theorem room_one {x : Sail} (h1 : P.twice x = false) (h2 : P.many x = false) (h3 : (P.pedg x.s x.bks 0 x.bks).all (fun z => decide (z.1 = 0)) = true) (h4 : 0 < (P.pedg x.s x.bks 0 x.bks).length) (h5 : (P.pids x.bks).length = 1) : P.Room x 0 := by
  refine .inr (.inr ⟨h1, h2, 1, max_left (fun z hz => ?_) h4, by rw [h5]; rfl⟩)
  have := List.all_eq_true.1 h3 z hz
  simpa using this
def P.roomB (x : Sail) : Bool := !P.twice x && !P.many x && (P.pedg x.s x.bks 0 x.bks).all (fun z => decide (z.1 = 0)) && decide (0 < (P.pedg x.s x.bks 0 x.bks).length) && decide ((P.pids x.bks).length = 1)
theorem roomB_ok {x : Sail} (h : P.roomB x = true) : P.Room x 0 := by
  simp only [P.roomB, Bool.and_eq_true, Bool.not_eq_true', decide_eq_true_eq] at h
  exact room_one h.1.1.1.1 h.1.1.1.2 h.1.1.2 h.1.2 h.2
theorem sells_is {k : Int} {x : Sail} {b : Bkg} (h : P.sellE k x b = 0) (hr : P.roomB (P.withB x (P.priced k x b)) = true) : P.Sells k x b 0 (P.withB x (P.priced k x b)) := .inr ⟨h, roomB_ok hr, .inl ⟨rfl, rfl⟩⟩
theorem t_s1 : P.sellE 1 T.C T.S1 = 0 ∧ P.roomB (P.withB T.C (P.priced 1 T.C T.S1)) = true := by decide +kernel
theorem t_s2 : P.sellE 1 T.C T.N = 6 := by decide +kernel
theorem t_s3 : P.sellE 2 T.C T.B1 = 0 ∧ P.twice (P.withB T.C (P.priced 2 T.C T.B1)) = false ∧ P.many (P.withB T.C (P.priced 2 T.C T.B1)) = true := by decide +kernel
theorem t_s4 : P.offE T.C 1 0 1 = 0 ∧ P.isIn 1 T.C.bks = false := by decide +kernel
theorem t_s5 : (P.sellE 1 T.C (P.setC (P.who 1 1 false 0 1) 0) = 0 ∧ P.roomB (P.withB T.C (P.priced 1 T.C (P.setC (P.who 1 1 false 0 1) 0))) = true) ∧ (P.sellE 1 T.C (P.setC (P.who 1 1 false 0 1) 1) = 0 ∧ P.roomB (P.withB T.C (P.priced 1 T.C (P.setC (P.who 1 1 false 0 1) 1))) = true) ∧ (P.sellE 1 T.C (P.setC (P.who 1 1 false 0 1) 2) = 0 ∧ P.roomB (P.withB T.C (P.priced 1 T.C (P.setC (P.who 1 1 false 0 1) 2))) = true) := by decide +kernel
theorem t_A : T.A.bks = [⟨3, 1, 2, 1, false, 1, 0, 0, 1, 0, [(2, 1, 225)]⟩, T.N1, T.Q1] := rfl
theorem sold_S1 : P.SellS 1 T.C T.S1 0 T.A := .inr ⟨t_sail, sells_is t_s1.1 t_s1.2⟩
theorem sold_N : P.SellS 1 T.C T.N 6 P.zeroS := .inr ⟨t_sail, .inl ⟨by rw [t_s2]; decide, t_s2.symm, rfl⟩⟩
theorem sold_Q : P.SellS 2 T.C T.B1 8 P.zeroS := .inr ⟨t_sail, .inr ⟨t_s3.1, .inr (.inl ⟨t_s3.2.1, t_s3.2.2, rfl⟩), .inr ⟨by decide, rfl⟩⟩⟩
theorem off_C : P.OffS T.C 1 false 0 1 0 [0, 1, 2] := by
  refine .inr ⟨t_sail, t_s4.1.symm, fun h => absurd rfl h, fun _ => ⟨1, ⟨by decide, fun m h1 h2 => by omega, t_s4.2⟩, ⟨by simp, fun z hz => ?_, fun c hc => ?_⟩⟩⟩
  · have : T.C.s.bs.length = 3 := rfl
    simp at hz
    omega
  · have hc : c < 3 := hc
    match c, hc with
    | 0, _ => exact ⟨fun _ => ⟨_, sells_is t_s5.1.1 t_s5.1.2⟩, fun _ => by simp⟩
    | 1, _ => exact ⟨fun _ => ⟨_, sells_is t_s5.2.1.1 t_s5.2.1.2⟩, fun _ => by simp⟩
    | 2, _ => exact ⟨fun _ => ⟨_, sells_is t_s5.2.2.1 t_s5.2.2.2⟩, fun _ => by simp⟩

set_option maxHeartbeats 400000 in
theorem named_S1 (a : SailA) (w : World) (s : SailAt w T.C a) :
    Calls Tryz.prog 11 #[V.sail T.C a, V.bk T.S1 none 0] w fun e w' => ∃ a', e = .returned (.tuple #[V.sail T.A a', .int .i64 0]) ∧ SailUp w.heap.size w' T.A a' ∧ Below w.heap.size w w' := by
  refine (sellNamed_any T.C a T.S1 none 0 w s (SlAt.nilOf _)).mono ?_
  rintro e w' ⟨r, y, a', rfl, h, u, hb⟩
  obtain ⟨rfl, rfl⟩ := SellS.one h sold_S1
  exact ⟨a', rfl, u, hb⟩
set_option maxHeartbeats 400000 in
theorem named_N (a : SailA) (w : World) (s : SailAt w T.C a) :
    Calls Tryz.prog 11 #[V.sail T.C a, V.bk T.N none 0] w fun e w' => ∃ a', e = .returned (.tuple #[V.sail P.zeroS a', .int .i64 6]) ∧ Below w.heap.size w w' := by
  refine (sellNamed_any T.C a T.N none 0 w s (SlAt.nilOf _)).mono ?_
  rintro e w' ⟨r, y, a', rfl, h, u, hb⟩
  obtain ⟨rfl, rfl⟩ := SellS.one h sold_N
  exact ⟨a', rfl, hb⟩
set_option maxHeartbeats 400000 in
theorem promise_Q (a : SailA) (w : World) (s : SailAt w T.C a) :
    Calls Tryz.prog 12 #[V.sail T.C a, V.bk T.B1 none 0] w fun e w' => ∃ a', e = .returned (.tuple #[V.sail P.zeroS a', .int .i64 8]) ∧ Below w.heap.size w w' := by
  refine (sellPromise_any T.C a T.B1 none 0 w s (SlAt.nilOf _)).mono ?_
  rintro e w' ⟨r, y, a', rfl, h, u, hb⟩
  obtain ⟨rfl, rfl⟩ := SellS.one h sold_Q
  exact ⟨a', rfl, hb⟩
set_option maxHeartbeats 400000 in
theorem offers_C (a : SailA) (w : World) (s : SailAt w T.C a) :
    Calls Tryz.prog 17 #[V.sail T.C a, .int .i64 1, .bool false, .agg #[.int .i64 0, .int .i64 1]] w fun e w' => ∃ ao cap, e = .returned (.tuple #[.slice ao 3 cap, .int .i64 0]) ∧ IntsAt w' ao cap [0, 1, 2] ∧ Below w.heap.size w w' := by
  refine (sellOffers_any T.C a 1 false 0 1 w s).mono ?_
  rintro e w' ⟨r, v, l, rfl, own, h, hb⟩
  obtain ⟨rfl, rfl⟩ := OffS.one h off_C
  obtain ⟨ao, cap, rfl, hl⟩ := OwnJ.at own
  exact ⟨ao, cap, rfl, hl, hb⟩

end Go.Proofs.YtlamhfbdeinkkaeGreat.St
namespace Go.Proofs.YtlamhfbdeinkkaeGreat.St
open Go.RowKit Bk
set_option linter.unusedSimpArgs false
set_option linter.unusedVariables false
set_option maxRecDepth 10000

set_option maxHeartbeats 16000000 in
theorem sellBegun_any (w : World) : Calls Tryz.prog 9 #[] w fun e w' => e = .returned (.bool true) ∧ Below w.heap.size w w' := by
  go_enter Tryz.func9, Tryz.ntmps9
  go_wp2_with fail
  refine (named_any _).mono ?_
  rintro e w1 ⟨rfl, hb1⟩
  have HBX : Aside (RowIs (W.bk w1 T.S1 none 0) w1.heap.size (C.bk T.S1 none 0)) := RowIs.new w1 _ _
  have HB1 : Aside (Below w.heap.size w (W.bk w1 T.S1 none 0)) := bvia hb1 (bk_below w1 T.S1 none 0)
  have hw1 : w.heap.size ≤ w1.heap.size := hb1.size
  clear hb1
  go_wp2_with fail
  change Code.wp Tryz.prog _ _ _ (W.bk w1 T.S1 none 0)
  generalize W.bk w1 T.S1 none 0 = wB at HBX HB1 ⊢
  obtain ⟨z0, z1, z2, z3, z4, z5, z6, z7, z8, z9, z10⟩ := HBX.out.bbox
  go_cut [2, 3] from 16 to 21 (fun sp sq wx => ∃ (G : Nat) (ax : SailA), sp = .pointer (some ⟨G, 0, none⟩) ∧ sq = .int .i64 0 ∧ Aside (SRow wx G T.A ax) ∧ Aside (SailAt wx T.A ax) ∧ Aside (Below w.heap.size w wx))
  case first =>
    have hlB : w1.heap.size < wB.heap.size := HBX.out.lt
    go_region_with
      (first
        | (go_at_call 42; refine (cruise_any _).mono ?_; rintro e w2 ⟨a2, rfl, s2, hb2⟩; have bb2 : Below wB.heap.size wB w2 := (by first | exact hb2 | exact bvia (by go_grown) hb2); obtain ⟨y0, y1, y2, y3, y4, y5, y6, y7, y8, y9, y10⟩ := RowIs.bbox (HBX.out.below bb2); have hl2 : w1.heap.size < w2.heap.size := (HBX.out.below bb2).lt;
            (first | (have hT := (RowIs.new _ C.zs 32).below hb2) | (have hT := ((RowIs.new _ C.zs 32).below (dr _)).below hb2) | skip))
        | (go_at_call 11; refine (named_S1 a2 _ (s2.below (by go_grown))).mono ?_; rintro e w3 ⟨a3, rfl, s3, hb3⟩; have bb3 : Below wB.heap.size wB w3 := bvia bb2 (by first | exact hb3 | exact bvia (by go_grown) hb3); obtain ⟨k0, k1, k2, k3, k4, k5, k6, k7, k8, k9, k10⟩ := RowIs.bbox (HBX.out.below bb3); have hl3 : w1.heap.size < w3.heap.size := (HBX.out.below bb3).lt;
            (first | (have hV := hT.below (by first | exact hb3 | exact bvia (by go_grown) hb3); obtain ⟨t0, t1, t2, t3, t4, t5, t6, t7, t8, t9, t10, t11, t12⟩ := zs_cells hV; have tf0 := hV.free 0; have tf1 := hV.free 1; have tf2 := hV.free 2; have tf3 := hV.free 3; have tf4 := hV.free 4; have tf5 := hV.free 5; have tf6 := hV.free 6; have tf7 := hV.free 7; have tf8 := hV.free 8; have tf9 := hV.free 9; have tf10 := hV.free 10; have tf11 := hV.free 11; have tf12 := hV.free 12) | (have hV := (RowIs.new _ C.zs 32).below hb3; obtain ⟨t0, t1, t2, t3, t4, t5, t6, t7, t8, t9, t10, t11, t12⟩ := zs_cells hV; have tf0 := hV.free 0; have tf1 := hV.free 1; have tf2 := hV.free 2; have tf3 := hV.free 3; have tf4 := hV.free 4; have tf5 := hV.free 5; have tf6 := hV.free 6; have tf7 := hV.free 7; have tf8 := hV.free 8; have tf9 := hV.free 9; have tf10 := hV.free 10; have tf11 := hV.free 11; have tf12 := hV.free 12) | (have hV := ((RowIs.new _ C.zs 32).below (dr _)).below hb3; obtain ⟨t0, t1, t2, t3, t4, t5, t6, t7, t8, t9, t10, t11, t12⟩ := zs_cells hV; have tf0 := hV.free 0; have tf1 := hV.free 1; have tf2 := hV.free 2; have tf3 := hV.free 3; have tf4 := hV.free 4; have tf5 := hV.free 5; have tf6 := hV.free 6; have tf7 := hV.free 7; have tf8 := hV.free 8; have tf9 := hV.free 9; have tf10 := hV.free 10; have tf11 := hV.free 11; have tf12 := hV.free 12) | skip)))
    all_goals
      go_wp2_with fail
      go_meet
      first
        | exact ⟨_, a3, rfl, rfl, (putS_row T.A a3 hV rfl).1, (s3.up (Up.gr (putS_row T.A a3 hV rfl).2 (by first | exact hT.lt | (rw [World.size_alloc]; omega) | (simp; done)))).at, below_gr (bvia HB1.out bb3) (bvia HB1.out bb3).size (putS_row T.A a3 hV rfl).2 (by have := HB1.out.size; have := bb2.size; omega)⟩
        | exact ⟨_, a3, rfl, rfl, RowIs.new w3 _ _, (s3.below (sail_below w3 T.A a3)).at, bvia HB1.out (bvia bb3 (sail_below w3 T.A a3))⟩
  case rest =>
  obtain ⟨G1, a1, rfl, rfl, HA1, HS1, HW1⟩ := hcut
  rename World => wA
  clear z0 z1 z2 z3 z4 z5 z6 z7 z8 z9 z10 HBX HB1
  go_wp2_with fail
  refine (cruise_any _).mono ?_
  rintro e v2 ⟨a2, rfl, s2, hb2⟩
  go_wp2_with fail
  refine (named_any _).mono ?_
  rintro e v3 ⟨rfl, hb3⟩
  go_wp2_with fail
  refine (named_N a2 _ (s2.below hb3)).mono ?_
  rintro e v4 ⟨a4, rfl, hb4⟩
  have hk4 : Below wA.heap.size wA (W.sail v4 P.zeroS a4) := bvia hb2 (bvia hb3 (bvia hb4 (sail_below v4 P.zeroS a4)))
  clear hb2 hb3 hb4 s2
  go_wp2_with fail
  refine (promised_any _).mono ?_
  rintro e v5 ⟨rfl, hb5⟩
  have HBX : Aside (RowIs (W.bk v5 T.B1 none 0) v5.heap.size (C.bk T.B1 none 0)) := RowIs.new v5 _ _
  have HK5 : Aside (Below wA.heap.size wA (W.bk v5 T.B1 none 0)) := bvia hk4 (bvia hb5 (bk_below v5 T.B1 none 0))
  clear hk4 hb5
  go_wp2_with fail
  change Code.wp Tryz.prog _ _ _ (W.bk v5 T.B1 none 0)
  generalize W.bk v5 T.B1 none 0 = vB at HBX HK5 ⊢
  obtain ⟨z0, z1, z2, z3, z4, z5, z6, z7, z8, z9, z10⟩ := HBX.out.bbox
  go_cut [7, 8] from 30 to 35 (fun sp sq wx => sq = .int .i64 8 ∧ Aside (Below vB.heap.size vB wx))
  case first =>
    have hlB : v5.heap.size < vB.heap.size := HBX.out.lt
    go_region_with
      (first
        | (go_at_call 42; refine (cruise_any _).mono ?_; rintro e w2 ⟨a2, rfl, s2, hb2⟩; have bb2 : Below vB.heap.size vB w2 := (by first | exact hb2 | exact bvia (by go_grown) hb2); obtain ⟨y0, y1, y2, y3, y4, y5, y6, y7, y8, y9, y10⟩ := RowIs.bbox (HBX.out.below bb2); have hl2 : v5.heap.size < w2.heap.size := (HBX.out.below bb2).lt;
            (first | (have hT := (RowIs.new _ C.zs 32).below hb2) | (have hT := ((RowIs.new _ C.zs 32).below (dr _)).below hb2) | skip))
        | (go_at_call 12; refine (promise_Q a2 _ (s2.below (by go_grown))).mono ?_; rintro e w3 ⟨a3, rfl, hb3⟩; have bb3 : Below vB.heap.size vB w3 := bvia bb2 (by first | exact hb3 | exact bvia (by go_grown) hb3); obtain ⟨k0, k1, k2, k3, k4, k5, k6, k7, k8, k9, k10⟩ := RowIs.bbox (HBX.out.below bb3); have hl3 : v5.heap.size < w3.heap.size := (HBX.out.below bb3).lt;
            (first | (have hV := hT.below (by first | exact hb3 | exact bvia (by go_grown) hb3); obtain ⟨t0, t1, t2, t3, t4, t5, t6, t7, t8, t9, t10, t11, t12⟩ := zs_cells hV; have tf0 := hV.free 0; have tf1 := hV.free 1; have tf2 := hV.free 2; have tf3 := hV.free 3; have tf4 := hV.free 4; have tf5 := hV.free 5; have tf6 := hV.free 6; have tf7 := hV.free 7; have tf8 := hV.free 8; have tf9 := hV.free 9; have tf10 := hV.free 10; have tf11 := hV.free 11; have tf12 := hV.free 12) | (have hV := (RowIs.new _ C.zs 32).below hb3; obtain ⟨t0, t1, t2, t3, t4, t5, t6, t7, t8, t9, t10, t11, t12⟩ := zs_cells hV; have tf0 := hV.free 0; have tf1 := hV.free 1; have tf2 := hV.free 2; have tf3 := hV.free 3; have tf4 := hV.free 4; have tf5 := hV.free 5; have tf6 := hV.free 6; have tf7 := hV.free 7; have tf8 := hV.free 8; have tf9 := hV.free 9; have tf10 := hV.free 10; have tf11 := hV.free 11; have tf12 := hV.free 12) | (have hV := ((RowIs.new _ C.zs 32).below (dr _)).below hb3; obtain ⟨t0, t1, t2, t3, t4, t5, t6, t7, t8, t9, t10, t11, t12⟩ := zs_cells hV; have tf0 := hV.free 0; have tf1 := hV.free 1; have tf2 := hV.free 2; have tf3 := hV.free 3; have tf4 := hV.free 4; have tf5 := hV.free 5; have tf6 := hV.free 6; have tf7 := hV.free 7; have tf8 := hV.free 8; have tf9 := hV.free 9; have tf10 := hV.free 10; have tf11 := hV.free 11; have tf12 := hV.free 12) | skip)))
    all_goals
      go_wp2_with fail
      go_meet
      first
        | exact ⟨rfl, below_gr bb3 bb3.size (putS_row P.zeroS a3 hV rfl).2 (by have := bb2.size; omega)⟩
        | exact ⟨rfl, bvia bb3 (sail_below w3 P.zeroS a3)⟩
  case rest =>
  obtain ⟨rfl, HW7⟩ := hcut
  have HK7 : Aside (Below wA.heap.size wA wc) := bvia HK5.out HW7.out
  clear z0 z1 z2 z3 z4 z5 z6 z7 z8 z9 z10 HBX HK5 HW7
  go_wp2_with fail
  refine (cruise_any _).mono ?_
  rintro e u2 ⟨a6, rfl, s6, hb6⟩
  go_wp2_with fail
  refine (offers_C a6 _ s6).mono ?_
  rintro e u3 ⟨ao, cap, rfl, hl, hb7⟩
  have HK8 : Aside (Below wA.heap.size wA u3) := bvia HK7.out (bvia hb6 hb7)
  have HL : Aside (IntsAt u3 ao cap [0, 1, 2]) := hl
  have d11 : u3.cell? ⟨G1, 11, none⟩ = some (.slice a1.ao 3 a1.cap) := (HA1.out.below HK8.out).cell 11
  obtain ⟨b, off, y, fo, fc, hao, hbw, hd, ⟨y0, y1, y2, y3, y4, y5, y6, y7, y8, y9, y10⟩, hfy⟩ := BksAt.get HS1.out.bks HK8.out 0 (by rw [t_A]; decide)
  have hy : y = ⟨3, 1, 2, 1, false, 1, 0, 0, 1, 0, [(2, 1, 225)]⟩ := by
    rw [t_A] at hd
    simp only [List.drop_zero, List.cons.injEq] at hd
    exact hd.1.symm
  subst hy
  rw [hao] at d11
  obtain ⟨b2, o2, ex, ey, ez, hfo, hb2, hd2, e0, e1, e2⟩ := Fo.EntsAt.get hfy (Below.refl _ _) 0 (by decide)
  have hez : ez = 225 := by
    simp only [List.drop_zero, List.cons.injEq, Prod.mk.injEq] at hd2
    exact hd2.1.2.2.symm
  subst hez
  subst hfo
  have HW8 : Aside (Below w.heap.size w u3) := bvia HW1.out HK8.out
  clear hb6 hb7 s6 hl hao hd hd2 hfy HA1 HS1 HK7
  go_wp2_with fail
  refine (Ma.sameInts_any _ _ _ _ [0, 1, 2] [0, 1, 2] _ (SlAt.below RInt.mono HL.out (by go_grown)) (Bk.ints_at u3 0 1 2)).mono ?_
  rintro e u4 ⟨rfl, hb8⟩
  have hW9 := bvia HW8.out (bvia (al _ _) hb8)
  go_wp2
  go_ret
  exact ⟨rfl, hW9⟩

end Go.Proofs.YtlamhfbdeinkkaeGreat.St
