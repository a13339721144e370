/- stockBegun. -/
import Derived.Test.YtlamhfbdeinkkaeGreatStRr
namespace Go.Proofs.YtlamhfbdeinkkaeGreat.St
open Go.RowKit Bk
set_option linter.unusedSimpArgs false
set_option linter.unusedVariables false
set_option maxRecDepth 10000

def T.B1 : Bkg := ⟨10, 2, 1, 2, false, -1, 0, 0, 3, 4, []⟩
def T.B2 : Bkg := ⟨10, 2, 1, 4, false, -1, 0, 0, 3, 4, []⟩
theorem t_pre : P.pre T.C = 0 ∧ P.twice T.C = false ∧ P.many T.C = false := by decide +kernel
theorem t_ids : P.pids T.C.bks = [9] ∧ P.pedg T.C.s T.C.bks 0 T.C.bks = [(0, 0), (0, 2)] := by decide +kernel
theorem t_free : P.freeE T.C 0 1 = 0 ∧ P.freeL T.C 0 1 = [(0, 1)] := by decide +kernel
theorem t_c1 : P.couldE T.C T.B1 0 = 0 ∧ P.pre (P.withB T.C T.B1) = 0 ∧ P.twice (P.withB T.C T.B1) = false ∧ P.many (P.withB T.C T.B1) = true := by decide +kernel
theorem t_c2 : P.couldE T.C T.B2 0 = 0 ∧ P.pre (P.withB T.C T.B2) = 0 ∧ P.twice (P.withB T.C T.B2) = false ∧ P.many (P.withB T.C T.B2) = true := by decide +kernel
theorem t_max : Ma.MaxM [(0, 0), (0, 2)] 1 := by
  refine ⟨⟨[(0, 0)], ⟨by simp, by simp⟩, rfl⟩, fun m hm => ?_⟩
  obtain ⟨h1, h2⟩ := hm
  match m with
  | [] => simp
  | [_] => simp
  | x :: y :: t =>
    exfalso
    have hx := h1 x (by simp)
    have hy := h1 y (by simp)
    have h := (List.pairwise_cons.1 h2).1 y (by simp)
    have e1 : x.1 = 0 := by simp at hx; rcases hx with rfl | rfl <;> rfl
    have e2 : y.1 = 0 := by simp at hy; rcases hy with rfl | rfl <;> rfl
    exact h.1 (by rw [e1, e2])
theorem t_sail : P.SailE T.C 0 := .inr ⟨t_pre.1, 0, .inr (.inr ⟨t_pre.2.1, t_pre.2.2, 1, by rw [t_ids.2]; exact t_max, by rw [t_ids.1]; rfl⟩), rfl⟩
theorem many_no {x : Sail} (h : P.pre x = 0) (h1 : P.twice x = false) (h2 : P.many x = true) : ¬ P.SailE x 0 := fun h0 => by
  have : P.SailE x 2 := .inr ⟨h, 8, .inr (.inl ⟨h1, h2, rfl⟩), rfl⟩
  have := SailE.one h0 this
  omega
theorem t_no1 : ¬ P.SailE (P.withB T.C T.B1) 0 := many_no t_c1.2.1 t_c1.2.2.1 t_c1.2.2.2
theorem t_no2 : ¬ P.SailE (P.withB T.C T.B2) 0 := many_no t_c2.2.1 t_c2.2.2.1 t_c2.2.2.2
theorem false_of {ok : Bool} {p : Prop} (h : ok = true ↔ p) (hp : ¬ p) : ok = false := by cases ok with
  | false => rfl
  | true => exact absurd (h.1 rfl) hp

theorem could_T {b : Bkg} (a : SailA) (w : World) (s : SailAt w T.C a) (hb : b.fol = []) (h0 : P.couldE T.C b 0 = 0) (hn : ¬ P.SailE (P.withB T.C b) 0) :
    Calls Tryz.prog 46 #[V.sail T.C a, V.bk b none 0] w fun e w' => e = .returned (.tuple #[.bool false, .int .i64 0]) ∧ Below w.heap.size w w' := by
  refine (stockCould_any T.C a b none 0 w s (by rw [hb]; exact SlAt.nilOf _)).mono ?_
  rintro e w' ⟨r, ok, rfl, hr, h1, h2, h3⟩
  obtain rfl := SailE.one hr t_sail
  rw [h0, false_of (h2 h0) hn]
  exact ⟨rfl, h3⟩
theorem free_T (a : SailA) (w : World) (s : SailAt w T.C a) :
    Calls Tryz.prog 45 #[V.sail T.C a, .int .i64 1] w fun e w' => ∃ v, e = .returned (.tuple #[v, .int .i64 0]) ∧ Sp.Own w' w.heap.size v [(0, 1)] ∧ Below w.heap.size w w' := by
  refine (stockFree_any T.C a 1 w s).mono ?_
  rintro e w' ⟨r, v, rfl, hr, h1, h2⟩
  obtain rfl := SailE.one hr t_sail
  rw [t_free.1]
  rw [t_free.2] at h1
  exact ⟨v, rfl, h1, h2⟩
theorem prom_T (a : SailA) (w : World) (s : SailAt w T.C a) :
    Calls Tryz.prog 44 #[V.sail T.C a] w fun e w' => ∃ v1 v2, e = .returned (.tuple #[v1, v2, .int .i64 0]) ∧ OwnJ w' w.heap.size v1 [9] ∧ OwnG w' w.heap.size v2 [(0, 0), (0, 2)] ∧ Below w.heap.size w w' := by
  refine (stockPromises_any T.C a w s).mono ?_
  rintro e w' ⟨r, v1, v2, rfl, hr, h1, h2, h3⟩
  obtain rfl := SailE.one hr t_sail
  rw [P.ok, if_pos rfl, t_ids.1] at h1
  rw [P.ok, if_pos rfl, t_ids.2] at h2
  exact ⟨v1, v2, rfl, h1, h2, h3⟩
theorem check_T (a : SailA) (w : World) (s : SailAt w T.C a) :
    Calls Tryz.prog 14 #[V.sail T.C a] w fun e w' => e = .returned (.int .i64 0) ∧ Below w.heap.size w w' := by
  refine (stockCheck_any T.C a w s).mono ?_
  rintro e w' ⟨r, rfl, hr, h3⟩
  obtain rfl := SailE.one hr t_sail
  exact ⟨rfl, h3⟩

theorem edges2_at (w : World) (a b c d : Int) : Ma.EdgesAt (w.alloc (.cells #[.int .i64 a, .int .i64 b, .int .i64 c, .int .i64 d] 85)) (some ⟨w.heap.size, 0, none⟩) 2 [(a, b), (c, d)] :=
  SlAt.ofBlock (l := [(a, b), (c, d)]) [[.int .i64 a, .int .i64 b], [.int .i64 c, .int .i64 d]] (heap_alloc_new _ _) rfl rfl (fun i hi => by
    have hi : i < 2 := hi
    match i, hi with
    | 0, _ => exact ⟨_, rfl, rfl⟩
    | 1, _ => exact ⟨_, rfl, rfl⟩) (by simp) (by simp [maxLen])
theorem int1_at (w : World) (a : Int) : IntsAt (w.alloc (.cells #[.int .i64 a] 3)) (some ⟨w.heap.size, 0, none⟩) 1 [a] :=
  SlAt.ofBlock (l := [a]) [[.int .i64 a]] (heap_alloc_new _ _) rfl rfl (fun i hi => by
    have hi : i < 1 := hi
    match i, hi with
    | 0, _ => exact ⟨_, rfl, rfl⟩) (by simp) (by simp [maxLen])

set_option maxHeartbeats 8000000 in
theorem stockBegun_any (w : World) :
    Calls Tryz.prog 10 #[] w fun e w' => e = .returned (.bool true) ∧ Below w.heap.size w w' := by
  go_enter Tryz.func10, Tryz.ntmps10
  go_wp2_with fail
  refine (cruise_any _).mono ?_
  rintro e w1 ⟨a1, rfl, s1, hb1⟩
  go_wp2_with fail
  refine (prom_T a1 _ s1).mono ?_
  rintro e w2 ⟨v2, v3, rfl, own2, own3, hb2⟩
  obtain ⟨ao2, cap2, rfl, l2⟩ := OwnJ.at own2
  obtain ⟨ao3, cap3, rfl, l3⟩ := OwnC.at cellsG_len own3
  clear own2 own3 s1
  go_wp2_with fail
  refine (cruise_any _).mono ?_
  rintro e w3 ⟨a3, rfl, s3, hb3⟩
  go_wp2_with fail
  refine (free_T a3 _ s3).mono ?_
  rintro e w4 ⟨v4, rfl, own4, hb4⟩
  obtain ⟨ao4, cap4, rfl, l4⟩ := Sp.Own.at own4
  clear own4 s3
  go_wp2_with fail
  refine (promised_any _).mono ?_
  rintro e w5 ⟨rfl, hb5⟩
  have hbA := bk_below w5 T.B1 none 0
  have HBX : Aside (BBox (W.bk w5 T.B1 none 0) w5.heap.size T.B1 none 0) := BBox.new w5 T.B1 none 0
  have HFZ : Aside ((W.bk w5 T.B1 none 0).frozen? ⟨w5.heap.size, 3, none⟩ = false) := by show _ = _; simp
  have HB5 : Aside (Below w.heap.size w (W.bk w5 T.B1 none 0)) := bvia hb1 (bvia hb2 (bvia hb3 (bvia hb4 (bvia hb5 hbA))))
  have hw5 : w.heap.size ≤ w5.heap.size := by
    have h1 := hb1.size; have h2 := hb2.size; have h3 := hb3.size; have h4 := hb4.size; have h5 := hb5.size
    omega
  have HL2 : Aside (IntsAt w5 ao2 cap2 [9]) := SlAt.below RInt.mono l2 (bvia hb3 (bvia hb4 hb5))
  have HL3 : Aside (Ma.EdgesAt w5 ao3 cap3 [(0, 0), (0, 2)]) := SlAt.below (RC.mono _) l3 (bvia hb3 (bvia hb4 hb5))
  have HL4 : Aside (Sp.SpAt w5 ao4 cap4 [(0, 1)]) := l4.below hb5
  have HA5 : Aside (Below w5.heap.size w5 (W.bk w5 T.B1 none 0)) := hbA
  go_wp2_with fail
  change Code.wp Tryz.prog _ _ _ (W.bk w5 T.B1 none 0)
  generalize W.bk w5 T.B1 none 0 = wB at HBX HFZ HB5 HA5 ⊢
  clear l2 l3 l4 hb1 hb2 hb3 hb4 hb5 hbA
  obtain ⟨d0, d1, d2, d3, d4, d5, d6, d7, d8, d9, d10⟩ := HBX.out
  go_region_held3 (fun u => u.cell? ⟨w5.heap.size, 0, none⟩ = some (.int .i64 T.B1.id) ∧ u.cell? ⟨w5.heap.size, 1, none⟩ = some (.int .i64 T.B1.kind) ∧ u.cell? ⟨w5.heap.size, 2, none⟩ = some (.int .i64 T.B1.state) ∧ u.cell? ⟨w5.heap.size, 3, none⟩ = some (.int .i64 T.B1.guests) ∧ u.cell? ⟨w5.heap.size, 4, none⟩ = some (.bool T.B1.level) ∧ u.cell? ⟨w5.heap.size, 5, none⟩ = some (.int .i64 T.B1.cabin) ∧ u.cell? ⟨w5.heap.size, 6, none⟩ = some (.int .i64 T.B1.cat) ∧ u.cell? ⟨w5.heap.size, 7, none⟩ = some (.int .i64 T.B1.frm) ∧ u.cell? ⟨w5.heap.size, 8, none⟩ = some (.int .i64 T.B1.to) ∧ u.cell? ⟨w5.heap.size, 9, none⟩ = some (.int .i64 T.B1.til) ∧ u.cell? ⟨w5.heap.size, 10, none⟩ = some (.slice none T.B1.fol.length 0))
    (first
      | with_reducible exact ⟨y0, y1, y2, y3, y4, y5, y6, y7, y8, y9, y10⟩
      | with_reducible exact ⟨z0, z1, z2, z3, z4, z5, z6, z7, z8, z9, z10⟩
      | with_reducible exact ⟨d0, d1, d2, d3, d4, d5, d6, d7, d8, d9, d10⟩
      | go_keep)
    (first
      | (go_at_call 42; refine (cruise_any _).mono ?_; rintro e w6 ⟨a6, rfl, s6, hb6⟩; have bb6 : Below wB.heap.size wB w6 := bvia (by go_grown) hb6; obtain ⟨z0, z1, z2, z3, z4, z5, z6, z7, z8, z9, z10⟩ := HBX.out.below bb6)
      | (go_at_call 46; refine (could_T (b := T.B1) a6 _ (s6.below (by go_grown)) rfl t_c1.1 t_no1).mono ?_; rintro e w7 ⟨rfl, hb7⟩; have bb7 : Below wB.heap.size wB w7 := bvia bb6 (bvia (by go_grown) hb7); obtain ⟨y0, y1, y2, y3, y4, y5, y6, y7, y8, y9, y10⟩ := HBX.out.below bb7))
  clear z0 z1 z2 z3 z4 z5 z6 z7 z8 z9 z10 d0 d1 d2 d3 d4 d5 d6 d7 d8 d9 d10
  have f7 : w7.frozen? ⟨w5.heap.size, 3, none⟩ = false := by rw [bb7.frozen (p := ⟨w5.heap.size, 3, none⟩) (World.block_lt_of_cell? wB _ HBX.out.c3)]; exact HFZ.out
  have HB8 : Aside (BBox (w7.setCell ⟨w5.heap.size, 3, none⟩ (.int .i64 4)) w5.heap.size T.B2 none 0) := by
    have ho : ∀ k v, k ≠ 3 → w7.cell? ⟨w5.heap.size, k, none⟩ = some v → (w7.setCell ⟨w5.heap.size, 3, none⟩ (.int .i64 4)).cell? ⟨w5.heap.size, k, none⟩ = some v := fun k v hk h => by
      rw [World.cell?_setCell_other (h := by simp [hk])]
      exact h
    exact ⟨ho 0 _ (by decide) y0, ho 1 _ (by decide) y1, ho 2 _ (by decide) y2, World.cell?_setCell_same' _ _ _ (by rw [y3]; rfl), ho 4 _ (by decide) y4, ho 5 _ (by decide) y5, ho 6 _ (by decide) y6, ho 7 _ (by decide) y7, ho 8 _ (by decide) y8, ho 9 _ (by decide) y9, ho 10 _ (by decide) y10⟩
  have HB58 : Aside (Below w5.heap.size w5 (w7.setCell ⟨w5.heap.size, 3, none⟩ (.int .i64 4))) := (bvia HA5.out bb7).setCell (p := ⟨w5.heap.size, 3, none⟩) (Nat.le_refl _) _
  have HBw8 : Aside (Below w.heap.size w (w7.setCell ⟨w5.heap.size, 3, none⟩ (.int .i64 4))) := (bvia HB5.out bb7).setCell (p := ⟨w5.heap.size, 3, none⟩) hw5 _
  go_wp2_with fail
  generalize w7.setCell ⟨w5.heap.size, 3, none⟩ (.int .i64 4) = w8 at HB8 HB58 HBw8 ⊢
  clear y0 y1 y2 y3 y4 y5 y6 y7 y8 y9 y10 f7 s6 hb6 hb7 bb6 bb7 HBX HFZ HB5 HA5
  obtain ⟨d0, d1, d2, d3, d4, d5, d6, d7, d8, d9, d10⟩ := HB8.out
  go_region_held3 (fun u => u.cell? ⟨w5.heap.size, 0, none⟩ = some (.int .i64 T.B2.id) ∧ u.cell? ⟨w5.heap.size, 1, none⟩ = some (.int .i64 T.B2.kind) ∧ u.cell? ⟨w5.heap.size, 2, none⟩ = some (.int .i64 T.B2.state) ∧ u.cell? ⟨w5.heap.size, 3, none⟩ = some (.int .i64 T.B2.guests) ∧ u.cell? ⟨w5.heap.size, 4, none⟩ = some (.bool T.B2.level) ∧ u.cell? ⟨w5.heap.size, 5, none⟩ = some (.int .i64 T.B2.cabin) ∧ u.cell? ⟨w5.heap.size, 6, none⟩ = some (.int .i64 T.B2.cat) ∧ u.cell? ⟨w5.heap.size, 7, none⟩ = some (.int .i64 T.B2.frm) ∧ u.cell? ⟨w5.heap.size, 8, none⟩ = some (.int .i64 T.B2.to) ∧ u.cell? ⟨w5.heap.size, 9, none⟩ = some (.int .i64 T.B2.til) ∧ u.cell? ⟨w5.heap.size, 10, none⟩ = some (.slice none T.B2.fol.length 0))
    (first
      | with_reducible exact ⟨y0, y1, y2, y3, y4, y5, y6, y7, y8, y9, y10⟩
      | with_reducible exact ⟨z0, z1, z2, z3, z4, z5, z6, z7, z8, z9, z10⟩
      | with_reducible exact ⟨d0, d1, d2, d3, d4, d5, d6, d7, d8, d9, d10⟩
      | go_keep)
    (first
      | (go_at_call 42; refine (cruise_any _).mono ?_; rintro e w9 ⟨a9, rfl, s9, hb9⟩; have bb9 : Below w8.heap.size w8 w9 := bvia (by go_grown) hb9; obtain ⟨z0, z1, z2, z3, z4, z5, z6, z7, z8, z9, z10⟩ := HB8.out.below bb9)
      | (go_at_call 46; refine (could_T (b := T.B2) a9 _ (s9.below (by go_grown)) rfl t_c2.1 t_no2).mono ?_; rintro e wa ⟨rfl, hba⟩; have bba : Below w8.heap.size w8 wa := bvia bb9 (bvia (by go_grown) hba); obtain ⟨y0, y1, y2, y3, y4, y5, y6, y7, y8, y9, y10⟩ := HB8.out.below bba))
  clear z0 z1 z2 z3 z4 z5 z6 z7 z8 z9 z10 d0 d1 d2 d3 d4 d5 d6 d7 d8 d9 d10 y0 y1 y2 y3 y4 y5 y6 y7 y8 y9 y10
  have h5a := bvia HB58.out bba
  have hwa := bvia HBw8.out bba
  clear HB8 HB58 HBw8 s9 hb9 bb9 bba hba
  go_wp2_with fail
  refine (cruise_any _).mono ?_
  rintro e wb ⟨ab, rfl, sb, hbb⟩
  go_wp2_with fail
  refine (check_T ab _ sb).mono ?_
  rintro e wc ⟨rfl, hbc⟩
  have h5c := bvia h5a (bvia hbb hbc)
  have hwc := bvia hwa (bvia hbb hbc)
  clear sb h5a hwa hbb hbc
  go_wp2_with fail
  refine (Ma.sameInts_any _ _ _ _ [9] [9] _ (SlAt.below RInt.mono HL2.out (bvia h5c (by go_grown))) (int1_at wc 9)).mono ?_
  rintro e wd ⟨rfl, hbd⟩
  have h5d := bvia h5c (bvia (al _ _) hbd)
  have hwd := bvia hwc (bvia (al _ _) hbd)
  go_wp2_with fail
  refine (sameEdges_any _ _ _ _ [(0, 0), (0, 2)] [(0, 0), (0, 2)] _ (SlAt.below (RC.mono _) HL3.out (bvia h5d (by go_grown))) (edges2_at wd 0 0 0 2)).mono ?_
  rintro e we ⟨rfl, hbe⟩
  have h5e := bvia h5d (bvia (al _ _) hbe)
  have hwe := bvia hwd (bvia (al _ _) hbe)
  go_wp2_with fail
  refine (Sp.sameSpans_any _ _ _ _ [(0, 1)] [(0, 1)] _ (HL4.out.below (bvia h5e (by go_grown))) (span_at we 0 1)).mono ?_
  rintro e wf ⟨rfl, hbf⟩
  have hwf := bvia hwe (bvia (al _ _) hbf)
  go_wp2
  go_ret
  exact ⟨rfl, hwf⟩

end Go.Proofs.YtlamhfbdeinkkaeGreat.St
