import Derived.Test.YtlamhfbdeinkkaeGreatBoCt
import Derived.Test.YtlamhfbdeinkkaeGreatMaAt
import Derived.BigRegion
import Derived.BigRegionIn
set_option maxRecDepth 10000
/- The walk of Spans. -/
namespace Go.Proofs.YtlamhfbdeinkkaeGreat.Bk
open Go.RowKit Go.Shelf
set_option linter.unusedSimpArgs false
set_option linter.unusedVariables false
attribute [local go_sem] Oper.semAt_some

set_option maxHeartbeats 1000000 in
theorem spans1_any (cabin : Int) (G : Nat) (x : BkV) (w : World) (hG : w.cell? ⟨G, 0, none⟩ = some (.int .i64 cabin)) :
    Calls Tryz.prog 152 (#[V.bkv x] ++ #[.pointer (some ⟨G, 0, none⟩)]) w fun e w' => e = .returned (.bool (P.hasC cabin x.1)) ∧ Below w.heap.size w w' := by
  obtain ⟨b, fo, fc⟩ := x
  show Calls Tryz.prog 152 #[V.bk b fo fc, .pointer (some ⟨G, 0, none⟩)] w _
  have hGl : G < w.heap.size := World.block_lt_of_cell? w _ hG
  have hbt : Below w.heap.size w (w.alloc (.cells #[.int .i64 b.id, .int .i64 b.kind, .int .i64 b.state, .int .i64 b.guests, .bool b.level, .int .i64 b.cabin, .int .i64 b.cat, .int .i64 b.frm, .int .i64 b.to, .int .i64 b.til, .slice fo b.fol.length fc] 37)) := by go_grown
  have hbx := BBox.new w b fo fc
  cases hlv : P.live b
  · go_enter Tryz.func152, Tryz.ntmps152
    go_wp2_with (go_at_call 153; refine (isLive_any b fo fc _).mono ?_; rintro e w1 ⟨rfl, hb1⟩; rw [hlv])
    go_ret
    exact ⟨ret_bool (by simp [P.hasC, hlv]), bvia hbt hb1⟩
  · go_enter Tryz.func152, Tryz.ntmps152
    go_wp2_with (go_at_call 153; refine (isLive_any b fo fc _).mono ?_; rintro e w1 ⟨rfl, hb1⟩; rw [hlv]; have z5 := (hbx.below hb1).c5; have zG := cellIn (bvia hbt hb1) hG)
    go_ret
    exact ⟨ret_bool (by by_cases h : b.cabin = cabin <;> simp [P.hasC, hlv, h]), bvia hbt hb1⟩

theorem spans1_calls : ∀ (args : Array Value) (wx : World), (callFunc 152 args).run Tryz.prog wx = .ok (.enter 152 args) wx := enters_of Tryz.func152 (by kernel_rfl) rfl

/-- A cell of one's own that may be written. -/
structure Box1 (W : World) (g : Nat) (v : Value) : Prop where
  c : W.cell? ⟨g, 0, none⟩ = some v
  f : W.frozen? ⟨g, 0, none⟩ = false
theorem Box1.lt {W : World} {g : Nat} {v : Value} (h : Box1 W g v) : g < W.heap.size := World.block_lt_of_cell? W _ h.c
theorem Box1.below {W W' : World} {g : Nat} {v : Value} (h : Box1 W g v) (hb : Below W.heap.size W W') : Box1 W' g v := ⟨cellIn hb h.c, by rw [hb.frozen (p := ⟨g, 0, none⟩) h.lt]; exact h.f⟩
theorem Box1.kept {W W' : World} {g : Nat} {v : Value} {row : Option Nat} (h : Box1 W g v) (hg : W.grownBy W' row) (hr : ∀ r, row = some r → ∃ o : Obj, W.heap[r]? = some o ∧ o.isCells = false) : Box1 W' g v :=
  ⟨cell_kept h.c hg hr, (frozen_kept h.c hg hr).trans h.f⟩
theorem Box1.set {W : World} {g : Nat} {v : Value} (h : Box1 W g v) (u : Value) : Box1 (W.setCell ⟨g, 0, none⟩ u) g u := ⟨World.cell?_setCell_same' _ _ _ (by rw [h.c]; rfl), by rw [World.frozen?_setCell]; exact h.f⟩
theorem Box1.other {W : World} {g g' : Nat} {v : Value} (h : Box1 W g v) (hne : g ≠ g') (u : Value) : Box1 (W.setCell ⟨g', 0, none⟩ u) g v :=
  ⟨by rw [World.cell?_setCell_other (h := by simp [hne])]; exact h.c, by rw [World.frozen?_setCell]; exact h.f⟩
theorem Box1.new (W : World) (v : Value) (t : TypeId) : Box1 (W.alloc (.cells #[v] t)) W.heap.size v := ⟨(Fo.newCell W v t).1, (Fo.newCell W v t).2⟩
theorem Box1.old {W : World} {g : Nat} {v : Value} (h : Box1 W g v) (o : Obj) : Box1 (W.alloc o) g v := ⟨Fo.oldCell o h.c, Fo.oldMark o h.c h.f⟩

theorem keeps_below {W W' : World} (B : Nat) (hb : Below W.heap.size W W') : KeepsFrom B W W' := ⟨hb.size, fun k o _ hk _ => by rw [hb.block k (Array.getElem?_eq_some_iff.1 hk).1]; exact hk⟩
theorem kept_below {n₀ B : Nat} {W W' : World} (hn : n₀ ≤ W.heap.size) (hb : Below W.heap.size W W') : Fo.Kept n₀ B W W' := ⟨hb.mono hn, fun v hv => cellIn hb hv⟩
theorem kept_set {n₀ B g : Nat} (W : World) (hn : n₀ ≤ g) (hB : B ≠ g) (u : Value) : Fo.Kept n₀ B W (W.setCell ⟨g, 0, none⟩ u) :=
  ⟨(Below.refl n₀ W).setCell (p := ⟨g, 0, none⟩) hn _, fun v hv => by rw [World.cell?_setCell_other (h := by simp [hB])]; exact hv⟩
theorem own_grown {w w' : World} {base : Nat} {v : Value} {l : List (Int × Int)} {row : Option Nat} (h : Sp.Own w base v l) (hg : w.grownBy w' row) (hr : ∀ r, row = some r → v.ownBlock ≠ some r) : Sp.Own w' base v l := by
  refine ⟨h.1, ?_⟩
  rcases h.2 with h2 | ⟨g, cap, cur, hv, hgb, hh, r⟩
  · exact Or.inl h2
  · refine Or.inr ⟨g, cap, cur, hv, hgb, ?_, r⟩
    rw [hg.block g (Array.getElem?_eq_some_iff.1 hh).1 (fun e => hr g e.symm (by rw [hv]; rfl))]
    exact hh
theorem own_kept {w w' : World} {base : Nat} {v : Value} {l : List (Int × Int)} {row : Option Nat} (h : Sp.Own w base v l) (hg : w.grownBy w' row) (hr : ∀ r, row = some r → ∃ o : Obj, w.heap[r]? = some o ∧ o.isCells = false) : Sp.Own w' base v l := by
  refine ⟨h.1, ?_⟩
  rcases h.2 with h2 | ⟨g, cap, cur, hv, hgb, hh, r⟩
  · exact Or.inl h2
  · refine Or.inr ⟨g, cap, cur, hv, hgb, ?_, r⟩
    rw [hg.block g (Array.getElem?_eq_some_iff.1 hh).1 (fun e => by
      obtain ⟨o, ho, hc⟩ := hr g e.symm
      rw [hh] at ho
      cases ho
      cases hc)]
    exact hh
theorem own_set {w : World} {base g : Nat} {v : Value} {l : List (Int × Int)} (h : Sp.Own w base v l) (hgb : g < base) (u : Value) : Sp.Own (w.setCell ⟨g, 0, none⟩ u) base v l :=
  own_grown h (grownBy_setCell' w g u) (fun r e hv => by cases e; have := (h.lt g hv).1; omega)
theorem BBox.kept {W W' : World} {g : Nat} {x : Bkg} {fo : Option Addr} {fc : Nat} {row : Option Nat} (h : BBox W g x fo fc) (hg : W.grownBy W' row) (hr : ∀ r, row = some r → ∃ o : Obj, W.heap[r]? = some o ∧ o.isCells = false) : BBox W' g x fo fc :=
  ⟨cell_kept h.c0 hg hr, cell_kept h.c1 hg hr, cell_kept h.c2 hg hr, cell_kept h.c3 hg hr, cell_kept h.c4 hg hr, cell_kept h.c5 hg hr, cell_kept h.c6 hg hr, cell_kept h.c7 hg hr, cell_kept h.c8 hg hr, cell_kept h.c9 hg hr, cell_kept h.c10 hg hr⟩

abbrev BkT := {x : BkV // True}
abbrev P.spnT (x : BkT) : Int × Int := P.spn x.1.1
theorem mine_T (cabin : Int) (es : List BkT) : (es.filter (fun x => P.hasC cabin x.1.1)).map P.spnT = P.mine cabin (es.map (fun x => x.1.1)) := by
  induction es with
  | nil => rfl
  | cons x r ih =>
    rw [P.mine] at ih ⊢
    rw [List.map_cons, List.filter_cons, List.filter_cons]
    cases h : P.hasC cabin x.1.1 <;> simp [ih]

abbrev W.sp2 (w : World) (s : Vsl) (a : VslA) (cabin : Int) : World := (w.alloc (.cells #[.int .i64 s.legs, .int .i64 s.souls, .slice a.cao s.cs.length a.cc, .slice a.bao s.bs.length a.bc] 25)).alloc (.cells #[.int .i64 cabin] 3)
abbrev W.sp4 (w : World) (s : Vsl) (a : VslA) (cabin : Int) : World := ((W.sp2 w s a cabin).alloc (.cells #[.slice none 0 0] 79)).alloc (.cells #[.int .i64 0] 39)

set_option maxRecDepth 100000 in
set_option maxHeartbeats 8000000 in
theorem spans_any (s : Vsl) (a : VslA) (ao : Option Addr) (cap : Nat) (l : List Bkg) (cabin : Int) (w : World) (hs : VslAt w s a) (hl : BksAt w ao cap l) :
    Calls Tryz.prog 96 #[V.vsl s a, .slice ao l.length cap, .int .i64 cabin] w fun e w' => ∃ v', e = .returned (.tuple #[v', .int .i64 (P.spE s l cabin)]) ∧ Sp.Own w' w.heap.size v' (P.spL s l cabin) ∧ Below w.heap.size w w' := by
  have hb4 : Below w.heap.size w (W.sp4 w s a cabin) := by go_grown
  have hv4 : VBox (W.sp4 w s a cabin) w.heap.size s a := (VBox.new w s a).below (by go_grown)
  have hc4 : Box1 (W.sp4 w s a cabin) (w.heap.size + 1) (.int .i64 cabin) := by
    have := Box1.new (w.alloc (.cells #[.int .i64 s.legs, .int .i64 s.souls, .slice a.cao s.cs.length a.cc, .slice a.bao s.bs.length a.bc] 25)) (.int .i64 cabin) 3
    rw [World.size_alloc] at this
    exact (this.old _).old _
  have hr4 : Box1 (W.sp4 w s a cabin) (w.heap.size + 1 + 1) (.slice none 0 0) := by
    have := Box1.new (W.sp2 w s a cabin) (.slice none 0 0) 79
    rw [World.size_alloc, World.size_alloc] at this
    exact this.old _
  have he4 : Box1 (W.sp4 w s a cabin) (w.heap.size + 1 + 1 + 1) (.int .i64 0) := by
    have := Box1.new ((W.sp2 w s a cabin).alloc (.cells #[.slice none 0 0] 79)) (.int .i64 0) 39
    rw [World.size_alloc, World.size_alloc, World.size_alloc] at this
    exact this
  refine (callsIn_wide (n := 3)).1 ?_
  refine callsIn_of_wp_marks Tryz.func96 rfl trivial ?_ rfl
  simp only [Tryz.ntmps96, List.size_toArray, List.length_cons, List.length_nil, Nat.reduceAdd, Nat.reduceSub, Array.replicate_succ, Array.replicate_zero, List.push_toArray, List.append_toArray, List.nil_append, List.cons_append]
  gi_wp2_with fail
  refine ⟨trivial, (callsIn_wide.2 (checkAll_any s a ao cap l _ (hs.below hb4) (SlAt.below RBk.mono hl hb4))).mono ?_⟩
  rintro e wA ⟨rfl, hbA⟩
  have hBA := bvia hb4 hbA
  have hvA := hv4.below hbA
  have hcA := hc4.below hbA
  have hrA := hr4.below hbA
  have heA := he4.below hbA
  have h2A : Below (w.heap.size + 1 + 1) (W.sp2 w s a cabin) wA := ((show Below (w.heap.size + 1 + 1) (W.sp2 w s a cabin) (W.sp4 w s a cabin) by go_grown).trans (hbA.mono (by simp)))
  clear hb4 hv4 hc4 hr4 he4 hbA
  have hlt1 := hcA.lt
  have hlt2 := hrA.lt
  have hlt3 := heA.lt
  cases hz : (P.allE s l != 0)
  rotate_left
  · have HE : Aside (P.spE s l cabin = P.allE s l ∧ P.spL s l cabin = []) := by
      have h : ¬ P.allE s l = 0 := by simpa using hz
      exact ⟨by rw [P.spE, if_neg h], by rw [P.spL, if_neg h]⟩
    have HV : Aside (VBox wA w.heap.size s a) := hvA
    have k1 := (hrA.set (.slice none 0 0)).other (g' := w.heap.size + 1 + 1 + 1) (by omega) (.int .i64 (P.allE s l))
    have k2 := (heA.other (g' := w.heap.size + 1 + 1) (by omega) (.slice none 0 0)).set (.int .i64 (P.allE s l))
    obtain ⟨rc, rf⟩ := hrA
    obtain ⟨ec, ef⟩ := heA
    gi_wp2
    refine ⟨.tuple #[.slice none 0 0, .int .i64 (P.allE s l)], by simp [results, Tryz.results96, go_sem, k1.c, k2.c], ?_⟩
    exact ⟨_, ret2_int HE.out.1.symm, by rw [HE.out.2]; exact World.ownsRow_nil _ _ _ _, (hBA.setCell (p := ⟨w.heap.size + 1 + 1, 0, none⟩) (by show _ ≤ w.heap.size + 1 + 1; omega) _).setCell (p := ⟨w.heap.size + 1 + 1 + 1, 0, none⟩) (by show _ ≤ w.heap.size + 1 + 1 + 1; omega) _⟩
  have hz0 : P.allE s l = 0 := by simpa using hz
  obtain ⟨hshp, hbks⟩ := all_ok hz0
  obtain ⟨hl1, hl7, _, _, _, _, _, hbs⟩ := shp_size hshp
  have HZ : Aside (P.allE s l = 0) := hz0
  have HBK : Aside (∀ b ∈ l, P.bkE s b = 0) := hbks
  have HL : Aside (1 ≤ s.legs ∧ s.legs ≤ 7 ∧ s.bs.length ≤ 12) := ⟨hl1, hl7, hbs⟩
  clear hz0 hbks hshp hl1 hl7 hbs
  have HV : Aside (VBox wA w.heap.size s a) := hvA
  obtain ⟨v0, v1, v2, v3⟩ := hvA
  have HCA := hcA.c
  gi_wp2_with fail
  refine ⟨trivial, (callsIn_wide.2 (isCabin_any s a cabin _ (by have := HL.out; omega))).mono ?_⟩
  rintro e wB ⟨rfl, hbB⟩
  have hBB := bvia hBA hbB
  have hcB := hcA.below hbB
  have hrB := hrA.below hbB
  have heB := heA.below hbB
  have h2B : Below (w.heap.size + 1 + 1) (W.sp2 w s a cabin) wB := h2A.trans (hbB.mono (by omega))
  have hsB := hbB.size
  clear HV v0 v1 v2 v3 HCA hBA hcA hrA heA h2A hbB
  cases hc : P.cabB s cabin
  · have HE : Aside (P.spE s l cabin = 3 ∧ P.spL s l cabin = []) := ⟨by rw [P.spE, if_pos HZ.out, if_neg (by simp [hc])], by rw [P.spL, if_pos HZ.out, if_neg (by simp [hc])]⟩
    have k1 := (hrB.set (.slice none 0 0)).other (g' := w.heap.size + 1 + 1 + 1) (by omega) (.int .i64 3)
    have k2 := (heB.other (g' := w.heap.size + 1 + 1) (by omega) (.slice none 0 0)).set (.int .i64 3)
    obtain ⟨rc, rf⟩ := hrB
    obtain ⟨ec, ef⟩ := heB
    gi_wp2
    refine ⟨.tuple #[.slice none 0 0, .int .i64 3], by simp [results, Tryz.results96, go_sem, k1.c, k2.c], ?_⟩
    exact ⟨_, ret2_int HE.out.1.symm, by rw [HE.out.2]; exact World.ownsRow_nil _ _ _ _, (hBB.setCell (p := ⟨w.heap.size + 1 + 1, 0, none⟩) (by show _ ≤ w.heap.size + 1 + 1; omega) _).setCell (p := ⟨w.heap.size + 1 + 1 + 1, 0, none⟩) (by show _ ≤ w.heap.size + 1 + 1 + 1; omega) _⟩
  have HE : Aside (P.spE s l cabin = P.addsE s.legs [] (P.mine cabin l) ∧ P.spL s l cabin = P.addsL s.legs [] (P.mine cabin l)) := ⟨by rw [P.spE, if_pos HZ.out, if_pos hc], by rw [P.spL, if_pos HZ.out, if_pos hc]⟩
  gi_wp2_with (refine ⟨trivial, ?_⟩; gi_at_call 151; refine (callsIn_wide.2 (those_any ao cap l.length 152 #[.pointer (some ⟨w.heap.size + 1, 0, none⟩)] _)).mono ?_; rintro e w' ⟨rfl, rfl⟩)
  obtain ⟨lv, hlv, hlvAt⟩ := BksAt.pick hl
  obtain ⟨es, hes⟩ : ∃ es : List BkT, es.map (·.1) = lv := ⟨lv.map (fun x => ⟨x, trivial⟩), by rw [List.map_map]; exact List.map_id' lv⟩
  subst hes
  have HM : Aside (es.map (fun x => x.1.1) = l) := by show _ = _; rw [← hlv]; simp
  have HN : Aside (l.length = es.length) := by show _ = _; rw [← HM.out]; simp
  clear hlv
  have hesAt : BkVsAt (W.sp2 w s a cabin) ao cap (es.map (·.1)) := SlAt.below RBkV.mono hlvAt (by go_grown)
  obtain ⟨W0, hW0⟩ : ∃ W0, W.seq (wB.alloc (.cells #[.slice none 0 0] 79)) ao cap l.length 152 #[.pointer (some ⟨w.heap.size + 1, 0, none⟩)] = W0 := ⟨_, rfl⟩
  have q9 : Box1 W0 wB.heap.size (.slice none 0 0) := by rw [← hW0]; exact ((Box1.new wB _ _).old _).old _
  have qr : Box1 W0 (w.heap.size + 1 + 1) (.slice none 0 0) := by rw [← hW0]; exact ((hrB.old _).old _).old _
  have qe : Box1 W0 (w.heap.size + 1 + 1 + 1) (.int .i64 0) := by rw [← hW0]; exact ((heB.old _).old _).old _
  have q1 : W0.cell? ⟨wB.heap.size + 1, 0, none⟩ = some (.slice ao es.length cap) := by
    have := Fo.newCell (wB.alloc (.cells #[.slice none 0 0] 79)) (.slice ao l.length cap) 30
    rw [World.size_alloc] at this
    rw [← hW0, ← HN.out]; exact Fo.oldCell _ this.1
  have q2 : W0.cell? ⟨wB.heap.size + 1 + 1, 0, none⟩ = some (.func (.func 152) #[] #[.pointer (some ⟨w.heap.size + 1, 0, none⟩)]) := by
    have := Fo.newCell ((wB.alloc (.cells #[.slice none 0 0] 79)).alloc (.cells #[.slice ao l.length cap] 30)) (.func (.func 152) #[] #[.pointer (some ⟨w.heap.size + 1, 0, none⟩)]) 120
    rw [World.size_alloc, World.size_alloc] at this
    rw [← hW0]; exact this.1
  have hsz : W0.heap.size = wB.heap.size + 1 + 1 + 1 := by rw [← hW0]; simp [W.seq]
  have hB0 : Below w.heap.size w W0 := by rw [← hW0]; exact bvia hBB (by go_grown)
  have h20 : Below (w.heap.size + 1 + 1) (W.sp2 w s a cabin) W0 := by rw [← hW0]; exact h2B.trans ((show Below wB.heap.size wB _ by go_grown).mono (by omega))
  have hcab : (W.sp2 w s a cabin).cell? ⟨w.heap.size + 1, 0, none⟩ = some (.int .i64 cabin) := by
    have := Fo.newCell (w.alloc (.cells #[.int .i64 s.legs, .int .i64 s.souls, .slice a.cao s.cs.length a.cc, .slice a.bao s.bs.length a.bc] 25)) (.int .i64 cabin) 3
    rw [World.size_alloc] at this
    exact this.1
  have hleg : (W.sp2 w s a cabin).cell? ⟨w.heap.size, 0, none⟩ = some (.int .i64 s.legs) := Fo.oldCell _ (VBox.new w s a).c0
  have hp : Hid (∀ (x : BkV) (wx : World), Below (w.heap.size + 1 + 1) (W.sp2 w s a cabin) wx → Calls Tryz.prog 152 (#[V.bkv x] ++ #[.pointer (some ⟨w.heap.size + 1, 0, none⟩)]) wx fun e w' => e = .returned (.bool (P.hasC cabin x.1)) ∧ Below wx.heap.size wx w') := fun x wx hw =>
    spans1_any cabin (w.heap.size + 1) x wx (by rw [hw.cell (p := ⟨w.heap.size + 1, 0, none⟩) (by show w.heap.size + 1 < _; omega)]; exact hcab)
  rw [hW0]
  clear hrB heB hcB hBB h2B hlvAt hl
  refine wpIn_rangeFunc_ownH rfl (by omega) (gf := 194) (lb := #[.pointer (some ⟨wB.heap.size + 1, 0, none⟩), .pointer (some ⟨wB.heap.size + 1 + 1, 0, none⟩)]) rfl trivial (enters_of Tryz.func194 (by kernel_rfl) rfl)
    (those_stops 2 (by omega) (wB.heap.size + 1) (wB.heap.size + 1 + 1) (w.heap.size + 1 + 1) ao cap es 152 #[.pointer (some ⟨w.heap.size + 1, 0, none⟩)] (P.hasC cabin) W0 (W.sp2 w s a cabin) spans1_calls hp (by simp) h20 hesAt q1 q2) Fo.Kept.t (Fo.Kept.b (by omega) (by omega)) (Below.refl _ _) (fun _ => rfl)
    (fun pre X => (∃ v, Box1 X wB.heap.size v ∧ Sp.Own X (w.heap.size + 1 + 1 + 1 + 1) v (P.addsL s.legs [] (pre.map P.spnT)) ∧ P.addsE s.legs [] (pre.map P.spnT) = 0 ∧ Box1 X (w.heap.size + 1 + 1) (.slice none 0 0) ∧ Box1 X (w.heap.size + 1 + 1 + 1) (.int .i64 0)) ∧ Below (w.heap.size + 1 + 1) (W.sp2 w s a cabin) X)
    (fun c pre X => (c = .ret ∧ ¬ P.addsE s.legs [] (pre.map P.spnT) = 0 ∧ Box1 X (w.heap.size + 1 + 1) (.slice none 0 0) ∧ Box1 X (w.heap.size + 1 + 1 + 1) (.int .i64 (P.addsE s.legs [] (pre.map P.spnT)))) ∧ Below (w.heap.size + 1 + 1) (W.sp2 w s a cabin) X)
    (OwnFrom.and (Own.from (fun pre A B row hh hg hr => by obtain ⟨v, h1, h2, h3, h4, h5⟩ := hh; exact ⟨v, h1.kept hg hr, own_kept h2 hg hr, h3, h4.kept hg hr, h5.kept hg hr⟩) _) (ownFrom_below (by simp) (by omega)))
    (fun c => OwnFrom.and (Own.from (fun pre A B row hh hg hr => ⟨hh.1, hh.2.1, hh.2.2.1.kept hg hr, hh.2.2.2.kept hg hr⟩) _) (ownFrom_below (by simp) (by omega)))
    ⟨⟨_, q9, World.ownsRow_nil _ _ _ _, rfl, qr, qe⟩, h20⟩
    (fun x a' W => ∃ G, a' = { tmps := #[V.vsl s a, .slice ao l.length cap, .int .i64 cabin, .pointer (some ⟨w.heap.size, 0, none⟩), undef, .pointer (some ⟨w.heap.size + 1, 0, none⟩), .pointer (some ⟨w.heap.size + 1 + 1, 0, none⟩), .pointer (some ⟨w.heap.size + 1 + 1 + 1, 0, none⟩), .int .i64 (P.allE s l), .pointer (some ⟨wB.heap.size, 0, none⟩), .pointer (some ⟨G, 0, none⟩), undef, undef, .agg #[.int .i64 s.legs, .int .i64 s.souls, .slice a.cao s.cs.length a.cc, .slice a.bao s.bs.length a.bc], .slice ao l.length cap, .int .i64 (P.allE s l), .int .i64 (P.allE s l), .bool false, undef, .agg #[.int .i64 s.legs, .int .i64 s.souls, .slice a.cao s.cs.length a.cc, .slice a.bao s.bs.length a.bc], .int .i64 cabin, .bool true, .bool false, .slice ao l.length cap, .func (.func 152) #[] #[.pointer (some ⟨w.heap.size + 1, 0, none⟩)], V.seq (wB.heap.size + 1) (wB.heap.size + 1 + 1), V.bkv x.1, undef, undef, undef, undef, undef, undef, undef, undef, undef, undef, undef, undef, undef, undef], defers := [] } ∧ BBox W G x.1.1 x.1.2.1 x.1.2.2)
    (fun x a' => Own.from (fun _ A B row hh hg hr => by obtain ⟨G, h1, h2⟩ := hh; exact ⟨G, h1, h2.kept hg hr⟩) _)
    ?assign ?body ?done ?stop
  case assign =>
    rintro lx pre ⟨⟨x, fo, fc⟩, ht⟩ W K ⟨⟨v, h9, hown, hadd, hr, he⟩, hB⟩ hK
    have hWl := h9.lt
    have hba : Below W.heap.size W (W.alloc (.cells #[.int .i64 x.id, .int .i64 x.kind, .int .i64 x.state, .int .i64 x.guests, .bool x.level, .int .i64 x.cabin, .int .i64 x.cat, .int .i64 x.frm, .int .i64 x.to, .int .i64 x.til, .slice fo x.fol.length fc] 37)) := by go_grown
    have hfin := hK { tmps := (fun (x : BkT) (G : Nat) => (#[V.vsl s a, .slice ao l.length cap, .int .i64 cabin, .pointer (some ⟨w.heap.size, 0, none⟩), undef, .pointer (some ⟨w.heap.size + 1, 0, none⟩), .pointer (some ⟨w.heap.size + 1 + 1, 0, none⟩), .pointer (some ⟨w.heap.size + 1 + 1 + 1, 0, none⟩), .int .i64 (P.allE s l), .pointer (some ⟨wB.heap.size, 0, none⟩), .pointer (some ⟨G, 0, none⟩), undef, undef, .agg #[.int .i64 s.legs, .int .i64 s.souls, .slice a.cao s.cs.length a.cc, .slice a.bao s.bs.length a.bc], .slice ao l.length cap, .int .i64 (P.allE s l), .int .i64 (P.allE s l), .bool false, undef, .agg #[.int .i64 s.legs, .int .i64 s.souls, .slice a.cao s.cs.length a.cc, .slice a.bao s.bs.length a.bc], .int .i64 cabin, .bool true, .bool false, .slice ao l.length cap, .func (.func 152) #[] #[.pointer (some ⟨w.heap.size + 1, 0, none⟩)], V.seq (wB.heap.size + 1) (wB.heap.size + 1 + 1), V.bkv x.1, undef, undef, undef, undef, undef, undef, undef, undef, undef, undef, undef, undef, undef, undef] : Array Value)) ⟨(x, fo, fc), ht⟩ W.heap.size, defers := [] } _ (keeps_below _ hba) (kept_below (by omega) hba) ⟨⟨v, h9.below hba, Sp.Own.below hown hba, hadd, hr.below hba, he.below hba⟩, hB.trans (hba.mono (by omega))⟩ ⟨W.heap.size, rfl, BBox.new W x fo fc⟩
    clear hK h9 hown hadd hr he hB hba
    gi_wp2
    exact hfin
  case body =>
    rintro lx pre ⟨⟨x, fo, fc⟩, ht⟩ a' X hlx _ ⟨⟨v, h9, hown, hadd, hr, he⟩, hB⟩ ⟨G, rfl, hbx⟩ _
    have hWl := h9.lt
    have hlgc : X.cell? ⟨w.heap.size, 0, none⟩ = some (.int .i64 s.legs) := by rw [hB.cell (p := ⟨w.heap.size, 0, none⟩) (by show w.heap.size < _; omega)]; exact hleg
    have hsn := adds_snoc (x := P.spn x) hadd
    have hmp : (pre ++ [(⟨(x, fo, fc), ht⟩ : BkT)]).map P.spnT = pre.map P.spnT ++ [P.spn x] := by simp
    rw [← hmp] at hsn
    generalize hacc : P.addsL s.legs [] (pre.map P.spnT) = acc at hown hsn
    have HS : Aside (P.addsE s.legs [] ((pre ++ [(⟨(x, fo, fc), ht⟩ : BkT)]).map P.spnT) = Sp.P.addE acc s.legs x.frm x.to ∧ P.addsL s.legs [] ((pre ++ [(⟨(x, fo, fc), ht⟩ : BkT)]).map P.spnT) = Sp.P.addL acc s.legs x.frm x.to) := hsn
    clear hsn hmp hacc hadd
    obtain ⟨ao2, cap2, rfl, hsp⟩ := Sp.Own.at hown
    obtain ⟨x0, x1, x2, x3, x4, x5, x6, x7, x8, x9, x10⟩ := hbx
    have HB9 : Aside (Box1 X wB.heap.size (.slice ao2 acc.length cap2)) := h9
    obtain ⟨c9, f9⟩ := h9
    simp only [V.bkv]
    gi_wp2_with fail
    refine ⟨trivial, (callsIn_wide.2 (Sp.add_any ao2 cap2 acc s.legs x.frm x.to _ hsp)).mono ?_⟩
    rintro e w1 ⟨v1, rfl, hown1, hb1⟩
    rw [← HS.out.1]
    rw [← HS.out.2] at hown1
    have g9 := HB9.out.below hb1
    have gr := hr.below hb1
    have ge := he.below hb1
    have hB1 : Below (w.heap.size + 1 + 1) (W.sp2 w s a cabin) w1 := hB.trans (hb1.mono (by omega))
    clear x0 x1 x2 x3 x4 x5 x6 x7 x8 x9 x10 c9 f9 HB9 hr he hlgc hown hsp
    cases hz : (P.addsE s.legs [] ((pre ++ [(⟨(x, fo, fc), ht⟩ : BkT)]).map P.spnT) != 0)
    · have H0 : Aside (P.addsE s.legs [] ((pre ++ [(⟨(x, fo, fc), ht⟩ : BkT)]).map P.spnT) = 0) := by show _ = _; simpa using hz
      have hown2 := own_set hown1 hWl v1
      have k9 := g9.set v1
      have kr := gr.other (g' := wB.heap.size) (by omega) v1
      have ke := ge.other (g' := wB.heap.size) (by omega) v1
      have HFin : Aside ((∃ v, Box1 (w1.setCell ⟨wB.heap.size, 0, none⟩ v1) wB.heap.size v ∧ Sp.Own (w1.setCell ⟨wB.heap.size, 0, none⟩ v1) (w.heap.size + 1 + 1 + 1 + 1) v (P.addsL s.legs [] ((pre ++ [(⟨(x, fo, fc), ht⟩ : BkT)]).map P.spnT)) ∧ P.addsE s.legs [] ((pre ++ [(⟨(x, fo, fc), ht⟩ : BkT)]).map P.spnT) = 0 ∧ Box1 (w1.setCell ⟨wB.heap.size, 0, none⟩ v1) (w.heap.size + 1 + 1) (.slice none 0 0) ∧ Box1 (w1.setCell ⟨wB.heap.size, 0, none⟩ v1) (w.heap.size + 1 + 1 + 1) (.int .i64 0)) ∧ Below (w.heap.size + 1 + 1) (W.sp2 w s a cabin) (w1.setCell ⟨wB.heap.size, 0, none⟩ v1)) :=
        ⟨⟨v1, k9, own_ahead hown2 (by omega), H0.out, kr, ke⟩, hB1.setCell (p := ⟨wB.heap.size, 0, none⟩) (by show _ ≤ wB.heap.size; omega) _⟩
      have HKp : Aside (Fo.Kept (w.heap.size + 1 + 1) (wB.heap.size + 1 + 1) X (w1.setCell ⟨wB.heap.size, 0, none⟩ v1)) := (kept_below (by omega) hb1).t (kept_set w1 (by omega) (by omega) v1)
      have HKf : Aside (KeepsFrom W0.heap.size X (w1.setCell ⟨wB.heap.size, 0, none⟩ v1)) := (keeps_below _ hb1).trans ((KeepsOthers.setCell _ _ _).from _)
      obtain ⟨ao3, n3, cap3, hv3⟩ : ∃ ao3 n3 cap3, v1 = .slice ao3 n3 cap3 := by obtain ⟨ao3, cap3, hv3, -⟩ := Sp.Own.at hown1; exact ⟨_, _, _, hv3⟩
      rw [hv3] at HFin HKp HKf ⊢
      rw [H0.out]
      obtain ⟨c9, f9⟩ := g9
      clear k9 kr ke hown2 hown1 hz
      gi_wp2
      exact ⟨HKf.out, HKp.out, HFin.out⟩
    · have H0 : Aside (¬ P.addsE s.legs [] ((pre ++ [(⟨(x, fo, fc), ht⟩ : BkT)]).map P.spnT) = 0) := by show ¬ _; simpa using hz
      generalize hee : P.addsE s.legs [] ((pre ++ [(⟨(x, fo, fc), ht⟩ : BkT)]).map P.spnT) = ee at H0 hz ⊢
      have k1 := (gr.set (.slice none 0 0)).other (g' := w.heap.size + 1 + 1 + 1) (by omega) (.int .i64 ee)
      have k2 := (ge.other (g' := w.heap.size + 1 + 1) (by omega) (.slice none 0 0)).set (.int .i64 ee)
      have HFin : Aside ((¬ P.addsE s.legs [] ((pre ++ [(⟨(x, fo, fc), ht⟩ : BkT)]).map P.spnT) = 0 ∧ Box1 ((w1.setCell ⟨w.heap.size + 1 + 1, 0, none⟩ (.slice none 0 0)).setCell ⟨w.heap.size + 1 + 1 + 1, 0, none⟩ (.int .i64 ee)) (w.heap.size + 1 + 1) (.slice none 0 0) ∧ Box1 ((w1.setCell ⟨w.heap.size + 1 + 1, 0, none⟩ (.slice none 0 0)).setCell ⟨w.heap.size + 1 + 1 + 1, 0, none⟩ (.int .i64 ee)) (w.heap.size + 1 + 1 + 1) (.int .i64 (P.addsE s.legs [] ((pre ++ [(⟨(x, fo, fc), ht⟩ : BkT)]).map P.spnT)))) ∧ Below (w.heap.size + 1 + 1) (W.sp2 w s a cabin) ((w1.setCell ⟨w.heap.size + 1 + 1, 0, none⟩ (.slice none 0 0)).setCell ⟨w.heap.size + 1 + 1 + 1, 0, none⟩ (.int .i64 ee))) :=
        ⟨⟨by rw [hee]; exact H0.out, k1, by rw [hee]; exact k2⟩, (hB1.setCell (p := ⟨w.heap.size + 1 + 1, 0, none⟩) (by show _ ≤ w.heap.size + 1 + 1; omega) _).setCell (p := ⟨w.heap.size + 1 + 1 + 1, 0, none⟩) (by show _ ≤ w.heap.size + 1 + 1 + 1; omega) _⟩
      have HKf : Aside (KeepsFrom W0.heap.size X ((w1.setCell ⟨w.heap.size + 1 + 1, 0, none⟩ (.slice none 0 0)).setCell ⟨w.heap.size + 1 + 1 + 1, 0, none⟩ (.int .i64 ee))) := (keeps_below _ hb1).trans (((KeepsOthers.setCell _ _ _).from _).trans ((KeepsOthers.setCell _ _ _).from _))
      obtain ⟨ao3, n3, cap3, hv3⟩ : ∃ ao3 n3 cap3, v1 = .slice ao3 n3 cap3 := by obtain ⟨ao3, cap3, hv3, -⟩ := Sp.Own.at hown1; exact ⟨_, _, _, hv3⟩
      rw [hv3]
      obtain ⟨rc, rf⟩ := gr
      obtain ⟨ec, ef⟩ := ge
      clear k1 k2 hown1 hee
      gi_wp2
      exact ⟨HKf.out, ⟨rfl, HFin.out.1⟩, HFin.out.2⟩
  case done =>
    rintro D ys X hD rfl ⟨⟨v, h9, hown, hadd, hr, he⟩, hB⟩ hK
    rw [mine_T, HM.out] at hown hadd
    have hWl := h9.lt
    have hDl : D < X.heap.size := (Array.getElem?_eq_some_iff.1 hK).1
    obtain ⟨ao2, cap2, rfl, -⟩ := Sp.Own.at hown
    generalize hL : P.addsL s.legs [] (P.mine cabin l) = L at hown HE
    have hK1 := (KeepsOthers.setCell X ⟨w.heap.size + 1 + 1, 0, none⟩ (.slice ao2 L.length cap2)).same D _ hK rfl
    have hK2 := (KeepsOthers.setCell (X.setCell ⟨w.heap.size + 1 + 1, 0, none⟩ (.slice ao2 L.length cap2)) ⟨w.heap.size + 1 + 1 + 1, 0, none⟩ (.int .i64 0)).same D _ hK1 rfl
    have k1 := (hr.set (.slice ao2 L.length cap2)).other (g' := w.heap.size + 1 + 1 + 1) (by omega) (.int .i64 0)
    have k2 := (he.other (g' := w.heap.size + 1 + 1) (by omega) (.slice ao2 L.length cap2)).set (.int .i64 0)
    have m1 := k1.kept (grownBy_putObj' _ D (.deferred none)) (fun r e => by cases e; exact ⟨_, hK2, rfl⟩)
    have m2 := k2.kept (grownBy_putObj' _ D (.deferred none)) (fun r e => by cases e; exact ⟨_, hK2, rfl⟩)
    have hb : Below (w.heap.size + 1 + 1) (W.sp2 w s a cabin) ((X.setCell ⟨w.heap.size + 1 + 1, 0, none⟩ (.slice ao2 L.length cap2)).setCell ⟨w.heap.size + 1 + 1 + 1, 0, none⟩ (.int .i64 0)) := (hB.setCell (p := ⟨w.heap.size + 1 + 1, 0, none⟩) (by show _ ≤ w.heap.size + 1 + 1; omega) _).setCell (p := ⟨w.heap.size + 1 + 1 + 1, 0, none⟩) (by show _ ≤ w.heap.size + 1 + 1 + 1; omega) _
    have HFb : Aside (Below w.heap.size w (((X.setCell ⟨w.heap.size + 1 + 1, 0, none⟩ (.slice ao2 L.length cap2)).setCell ⟨w.heap.size + 1 + 1 + 1, 0, none⟩ (.int .i64 0)).putObj D (.deferred none))) :=
      ((show Below w.heap.size w (W.sp2 w s a cabin) by go_grown).trans (hb.mono (by omega))).trans (belowK_b (w := w) (Nat.le_refl _) _ D _ _ (by omega) hK2 rfl rfl)
    have HFo : Aside (Sp.Own (((X.setCell ⟨w.heap.size + 1 + 1, 0, none⟩ (.slice ao2 L.length cap2)).setCell ⟨w.heap.size + 1 + 1 + 1, 0, none⟩ (.int .i64 0)).putObj D (.deferred none)) w.heap.size (.slice ao2 L.length cap2) L) := by
      have o1 := own_kept (own_grown (own_grown hown (grownBy_setCell' X (w.heap.size + 1 + 1) (.slice ao2 L.length cap2)) ?_) (grownBy_setCell' _ (w.heap.size + 1 + 1 + 1) (.int .i64 0)) ?_) (grownBy_putObj' _ D (.deferred none)) (fun r e => by cases e; exact ⟨_, hK2, rfl⟩)
      · exact own_ahead o1 (by omega)
      · intro r e hv; cases e; have := (hown.lt _ hv).1; omega
      · intro r e hv; cases e; have := (hown.lt _ hv).1; omega
    have HE0 : Aside (P.spE s l cabin = 0 ∧ P.spL s l cabin = L) := ⟨HE.out.1.trans hadd, HE.out.2⟩
    obtain ⟨c9, f9⟩ := h9
    obtain ⟨rc, rf⟩ := hr
    obtain ⟨ec, ef⟩ := he
    clear hK1 k1 k2 hown hadd HE hb hB
    gi_wp2
    refine ⟨by simp, .inl ⟨_, _, rfl, run_takeDeferred hK2, ?_⟩⟩
    refine ⟨.tuple #[.slice ao2 L.length cap2, .int .i64 0], by simp [results, Tryz.results96, go_sem, m1.c, m2.c], ?_⟩
    exact ⟨_, ret2_int HE0.out.1.symm, by rw [HE0.out.2]; exact HFo.out, HFb.out⟩
  case stop =>
    rintro D c pre X hD ⟨t, ht⟩ ⟨⟨rfl, hne, hr, he⟩, hB⟩ hK
    have e1 : P.mine cabin l = pre.map P.spnT ++ t.map P.spnT := by rw [← HM.out, ← mine_T, ← ht, List.map_append]
    have HE0 : Aside (P.spE s l cabin = P.addsE s.legs [] (pre.map P.spnT) ∧ P.spL s l cabin = []) := by
      have e2 : P.addsE s.legs [] (P.mine cabin l) = P.addsE s.legs [] (pre.map P.spnT) := by rw [e1, adds_pre hne]
      exact ⟨HE.out.1.trans e2, HE.out.2.trans (addsL_of (by rw [e2]; exact hne))⟩
    generalize P.addsE s.legs [] (pre.map P.spnT) = ee at he HE0
    have m1 := hr.kept (grownBy_putObj' _ D (.deferred none)) (fun r e => by cases e; exact ⟨_, hK, rfl⟩)
    have m2 := he.kept (grownBy_putObj' _ D (.deferred none)) (fun r e => by cases e; exact ⟨_, hK, rfl⟩)
    have HFb : Aside (Below w.heap.size w (X.putObj D (.deferred none))) :=
      ((show Below w.heap.size w (W.sp2 w s a cabin) by go_grown).trans (hB.mono (by omega))).trans (belowK_b (w := w) (Nat.le_refl _) _ D _ _ (by omega) hK rfl rfl)
    clear e1 hne HE hB ht
    gi_wp2
    refine ⟨by simp, .inl ⟨_, _, rfl, run_takeDeferred hK, ?_⟩⟩
    refine ⟨.tuple #[.slice none 0 0, .int .i64 ee], by simp [results, Tryz.results96, go_sem, m1.c, m2.c], ?_⟩
    exact ⟨_, ret2_int HE0.out.1.symm, by rw [HE0.out.2]; exact World.ownsRow_nil _ _ _ _, HFb.out⟩

end Go.Proofs.YtlamhfbdeinkkaeGreat.Bk

/- The reference: SoulsOf. -/
namespace Go.Proofs.YtlamhfbdeinkkaeGreat.Bk
open Go.RowKit
set_option linter.unusedSimpArgs false
set_option linter.unusedVariables false

theorem soul_take {k : Int} {l : List Bkg} {x : Bkg} {i : Nat} (hi : i < l.length) (hd : l.drop i = x :: l.drop (i + 1)) : P.soul k (l.take (i + 1)) = P.soul k (l.take i) + P.onLeg k x := by
  have h1 := List.drop_eq_getElem_cons hi
  rw [hd] at h1
  simp only [List.cons.injEq] at h1
  rw [List.take_succ_eq_append_getElem hi, ← h1.1, soul_snoc]
theorem mem_drop1 {α : Type} {l : List α} {x : α} {k : Nat} (hd : l.drop k = x :: l.drop (k + 1)) : x ∈ l := by
  have : x ∈ l.drop k := by rw [hd]; simp
  exact List.mem_of_mem_drop this
theorem souls_get {n : Nat} {l : List Bkg} {i : Nat} (hi : i < n) : (P.soulsL n l).getD i 0 = P.soul (i : Nat) l := by simp [P.soulsL, List.getD, hi]
theorem souls_len (n : Nat) (l : List Bkg) : (P.soulsL n l).length = n := by simp [P.soulsL]

theorem between_is (n a b : Int) (w : World) (v : Bool) (h : P.btw n a b = v) :
    Calls Tryz.prog 74 #[.int .i64 n, .int .i64 a, .int .i64 b] w fun e w' => e = .returned (.bool v) ∧ Below w.heap.size w w' := by
  subst h
  exact (between_any n a b w).mono fun e w' h => ⟨h.1, by rw [← h.2]; exact Below.refl _ _⟩

set_option maxRecDepth 4000 in
set_option maxHeartbeats 2000000 in
theorem soulsOf_any (s : Vsl) (n : Nat) (ao : Option Addr) (cap : Nat) (l : List Bkg) (w : World) (hl : BksAt w ao cap l) (hL : l.length ≤ 1353245080300) (hn : n ≤ 7) (hs : s.legs = n) (hbk : ∀ b ∈ l, P.bkE s b = 0) :
    Calls Tryz.prog 130 #[.int .i64 n, .slice ao l.length cap] w fun e w' => ∃ v', e = .returned v' ∧ Ma.OwnI w' w.heap.size v' (P.soulsL n l) ∧ Below w.heap.size w w' := by
  have hle := hl.le
  have hmx := hl.max
  unfold maxLen at hmx
  have HBK : Aside (∀ b ∈ l, P.bkE s b = 0) := hbk
  have HSL : Aside (s.legs = n) := hs
  clear hbk hs
  obtain ⟨i0, hi, hi0, hi1, hi2⟩ := info_parts Ma.Tryz.infoInt
  have HI : Aside (Tryz.prog.info? 3 = some i0 ∧ i0.zero = some (.int .i64 0) ∧ i0.size = 1 ∧ i0.bytes = 8) := ⟨hi, hi0, hi1, hi2⟩
  clear hi hi0 hi1 hi2
  go_enter Tryz.func130, Tryz.ntmps130
  go_wp2_with (at_make; refine wpList_make_full _ (by rfl) _ _ 47 (by rfl) w.heap.size 3 i0 _ 1 Tryz.underlying47 HI.out.1 HI.out.2.1 HI.out.2.2.1 _ _ _ _ n (by rfl) (by rfl) rfl rfl (by rw [HI.out.2.2.2]; omega) (by unfold maxLen; omega) (by simp) ?_; intro w1 hrow1 hgr1; have hb1 := Ma.below_grown hgr1; have HR1 : Aside (w1.rowIs w.heap.size 3 n (fun _ => .int .i64 0)) := (by show World.rowIs _ _ _ _ _; have := Ma.row_of_made hrow1; simpa using this); clear hrow1 hgr1)
  go_loopg [6] l.length (fun g i wr => ∃ (k : Nat), k ≤ l.length ∧ g = l.length - k ∧ i = .int .i64 k ∧ wr.rowIs w.heap.size 3 n (fun j => .int .i64 (P.soul (j : Nat) (l.take k))) ∧ Below w.heap.size w wr)
  case atStart => exact ⟨0, Nat.zero_le _, rfl, rfl, HR1.out, hb1⟩
  case round =>
    clear HR1 hb1
    obtain ⟨k, hk, rfl, rfl, hR, hB⟩ := hrel
    have HR : Aside (wr.rowIs w.heap.size 3 n (fun j => .int .i64 (P.soul (j : Nat) (l.take k)))) := hR
    clear hR
    by_cases hlt : k < l.length
    · obtain ⟨b, off, x, fo, fc, rfl, hbw, hd, hx, hfx⟩ := BksAt.get hl (Below.refl _ w) k hlt
      have HT : Aside (∀ j : Int, P.soul j (l.take (k + 1)) = P.soul j (l.take k) + P.onLeg j x) := fun j => soul_take hlt hd
      obtain ⟨hchk, hg1, hg4, _⟩ := bk_ok (HBK.out x (mem_drop1 hd))
      have hz := Sp.chk_zero hchk
      have HBD : Aside (∀ j : Int, 0 ≤ P.soul j (l.take k) ∧ P.soul j (l.take k) ≤ 4 * (l.length : Int)) := fun j => by
        have h1 := soul_bd (k := j) (l := l.take k) (s := s) (fun b hb => HBK.out b (List.mem_of_mem_take hb))
        have h2 : (l.take k).length ≤ l.length := List.length_take_le' k l
        omega
      obtain ⟨hz0, hz1, hz2, hz3, _, _⟩ := hz
      rw [HSL.out] at hz2
      clear hd hfx hchk hz3
      have HX : Aside (BkAt w b (off + k * 11) x fo fc) := hx
      have hkl : (k : Int) < l.length := by omega
      have HW : Aside (IntKind.i64.wrap (x.to - 1) = x.to - 1) := by show _ = _; rw [IntKind.wrap_i64]; omega
      clear hx
      go_wp2
      go_loopg [7] n (fun g i wx => ∃ (m : Nat), m ≤ n ∧ g = n - m ∧ i = .int .i64 m ∧ wx.rowIs w.heap.size 3 n (fun j => .int .i64 (P.soul (j : Nat) (l.take k) + if j < m then P.onLeg (j : Nat) x else 0)) ∧ Below w.heap.size w wx)
      case atStart => exact ⟨0, Nat.zero_le _, rfl, rfl, HR.out.congr (fun j _ => by simp), hB⟩
      case round =>
        clear HR
        obtain ⟨m, hm, rfl, rfl, hR, hBx⟩ := hrel
        by_cases hml : m < n
        · have hRl := hR.lt
          have HR : Aside (wr.rowIs w.heap.size 3 n (fun j => .int .i64 (P.soul (j : Nat) (l.take k) + if j < m then P.onLeg (j : Nat) x else 0))) := hR
          have hmn : (m : Int) < n := by omega
          have hsk : P.onLeg m x = 0 → wr.rowIs w.heap.size 3 n (fun j => .int .i64 (P.soul (j : Nat) (l.take k) + if j < m + 1 then P.onLeg (j : Nat) x else 0)) := fun h => hR.congr (fun j hj => by
            by_cases e : j = m
            · subst e; simp [h]
            · have e2 : (j < m + 1) = (j < m) := by rw [eq_iff_iff]; omega
              simp only [e2])
          have HSK : Aside (P.onLeg m x = 0 → wr.rowIs w.heap.size 3 n (fun j => .int .i64 (P.soul (j : Nat) (l.take k) + if j < m + 1 then P.onLeg (j : Nat) x else 0))) := hsk
          have hce : wr.cell? ⟨w.heap.size, m, none⟩ = some (.int .i64 (P.soul (m : Nat) (l.take k))) := by rw [hR.cell hml]; simp
          have hfr := hR.frozen m
          obtain ⟨y1, y2⟩ := HBD.out m
          clear hR hsk
          obtain ⟨x0, x1, x2, x3, x4, x5, x6, x7, x8, x9, x10⟩ := HX.out.below hBx
          have hbl : b < wr.heap.size := World.block_lt_of_cell? wr _ x0
          have r2 := cell_regrown x2
          have r7 := cell_regrown x7
          have r8 := cell_regrown x8
          cases hst : (x.state != 3)
          · have H0 : Aside (P.onLeg m x = 0) := onLeg_gone (by simp at hst; simp [P.live, hst])
            clear x0 x1 x2 x3 x4 x5 x6 x7 x8 x9 x10
            go_wp2
            refine wp_region_quiet_below (by kernel_rfl) (by kernel_rfl) (Qt.out ?_)
            repeat (refine Qt.step (fun K hK => ?_); go_simp; first | (refine hK _ ?_; clear hK K) | fail)
            refine Qt.fin ?_
            intro w2 hw2
            obtain ⟨⟨dq, osq⟩, hw2⟩ := hw2
            have hb2 := below_regrown wr dq osq
            rw [← hw2] at hb2
            clear hw2 r2 r7 r8
            go_wp2
            go_roundg (n - (m + 1))
            case measure => omega
            case rel => exact ⟨m + 1, by omega, rfl, by go_num, (HSK.out H0.out).of_block (hb2.block _ hRl), bvia hBx hb2⟩
          · cases hbt : P.btw m x.frm (x.to - 1)
            · have H0 : Aside (P.onLeg m x = 0) := by show _ = _; simp [P.onLeg, hbt]
              clear x0 x1 x2 x3 x4 x5 x6 x7 x8 x9 x10
              go_wp2
              refine wp_region_quiet_below (by kernel_rfl) (by kernel_rfl) (Qt.out ?_)
              repeat (refine Qt.step (fun K hK => ?_); go_simp; first | (refine hK _ ?_; clear hK K) | (apply Exists.intro; refine ⟨fun _ => ?_, hK _ ?_⟩; (go_at_call 74; exact Calls.regrown_of (v := .bool false) ((by rw [HW.out]; exact between_is _ _ _ _ _ hbt))); clear hK K))
              refine Qt.fin ?_
              intro w2 hw2
              obtain ⟨⟨dq, osq⟩, hw2⟩ := hw2
              have hb2 := below_regrown wr dq osq
              rw [← hw2] at hb2
              clear hw2 r2 r7 r8
              go_wp2
              go_roundg (n - (m + 1))
              case measure => omega
              case rel => exact ⟨m + 1, by omega, rfl, by go_num, (HSK.out H0.out).of_block (hb2.block _ hRl), bvia hBx hb2⟩
            · have H0 : Aside (P.onLeg m x = x.guests) := by show _ = _; rw [P.onLeg, if_pos (by simp at hst; simp [P.live, hst, hbt])]
              clear x0 x1 x4 x5 x6 x9 x10
              go_wp2
              refine wp_region_quiet_below (by kernel_rfl) (by kernel_rfl) (Qt.out ?_)
              repeat (refine Qt.step (fun K hK => ?_); go_simp; first | (refine hK _ ?_; clear hK K) | (apply Exists.intro; refine ⟨fun _ => ?_, hK _ ?_⟩; (go_at_call 74; exact Calls.regrown_of (v := .bool true) ((by rw [HW.out]; exact between_is _ _ _ _ _ hbt))); clear hK K))
              refine Qt.fin ?_
              intro w2 hw2
              obtain ⟨⟨dq, osq⟩, hw2⟩ := hw2
              have hb2 := below_regrown wr dq osq
              rw [← hw2] at hb2
              have hR2 := HR.out.of_block (hb2.block _ hRl)
              have c3 := cellIn hb2 x3
              have ce := cellIn hb2 hce
              have cf := hR2.frozen m
              have hB2 := bvia hBx hb2
              have hl2 := hR2.lt
              have HR2 : Aside (w2.rowIs w.heap.size 3 n (fun j => .int .i64 (P.soul (j : Nat) (l.take k) + if j < m then P.onLeg (j : Nat) x else 0))) := hR2
              clear hw2 r2 r7 r8 x2 x3 x7 x8 hce hfr hR2 hb2 HR HSK
              generalize hy : P.soul (m : Nat) (l.take k) = y at ce y1 y2
              have HY : Aside (P.soul (m : Nat) (l.take k) = y) := hy
              clear hy
              go_wp2
              go_region
              all_goals
                go_wp2
                go_roundg (n - (m + 1))
                case measure => omega
                case rel =>
                  refine ⟨m + 1, by omega, rfl, by go_num, ?_, (hB2.setCell (p := ⟨w.heap.size, m, none⟩) (Nat.le_refl _) _).drew⟩
                  have hfin : (w2.setCell ⟨w.heap.size, m, none⟩ (.int .i64 (y + x.guests))).rowIs w.heap.size 3 n (fun j => .int .i64 (P.soul (j : Nat) (l.take k) + if j < m + 1 then P.onLeg (j : Nat) x else 0)) :=
                    (HR2.out.set m (.int .i64 (y + x.guests))).congr (fun j hj => by
                      by_cases e : j = m
                      · subst e; rw [if_pos rfl, HY.out, H0.out]; simp
                      · have e2 : (j < m + 1) = (j < m) := by rw [eq_iff_iff]; omega
                        rw [if_neg e]; simp only [e2])
                  exact hfin
        · obtain rfl : m = n := by omega
          go_wp2
          go_roundg (l.length - (k + 1))
          case measure => omega
          case rel => exact ⟨k + 1, by omega, rfl, by go_num, hR.congr (fun j hj => by rw [HT.out, if_pos hj]), hBx⟩
    · obtain rfl : k = l.length := by omega
      go_wp2
      go_ret
      refine ⟨_, rfl, ?_, hB⟩
      refine Ma.own_of_row (n := n) (HR.out.congr fun i hi => ?_) (Nat.le_refl _) (souls_len n l) (by unfold maxLen; omega)
      rw [souls_get hi, List.take_of_length_le (Nat.le_refl _)]

end Go.Proofs.YtlamhfbdeinkkaeGreat.Bk

/- The walk of Souls. -/
namespace Go.Proofs.YtlamhfbdeinkkaeGreat.Bk
open Go.RowKit Go.Shelf
set_option linter.unusedSimpArgs false
set_option linter.unusedVariables false
attribute [local go_sem] Oper.semAt_some

theorem isLive_calls : ∀ (args : Array Value) (wx : World), (callFunc 153 args).run Tryz.prog wx = .ok (.enter 153 args) wx := enters_of Tryz.func153 (by kernel_rfl) rfl
theorem souls1_calls : ∀ (args : Array Value) (wx : World), (callFunc 173 args).run Tryz.prog wx = .ok (.enter 173 args) wx := enters_of Tryz.func173 (by kernel_rfl) rfl
set_option maxHeartbeats 400000 in
theorem souls1_any (x : Int) (w : World) : Calls Tryz.prog 173 #[.int .i64 x] w fun e w' => e = .returned (.bool (decide (60 < x))) ∧ Below w.heap.size w w' := by
  go_enter Tryz.func173, Tryz.ntmps173
  go_wp2
  go_ret
  exact ⟨rfl, Below.refl _ _⟩

theorem row_kept {w w' : World} {b : Nat} {t : TypeId} {n : Nat} {f : Nat → Value} {row : Option Nat} (h : w.rowIs b t n f) (hg : w.grownBy w' row) (hr : ∀ r, row = some r → ∃ o : Obj, w.heap[r]? = some o ∧ o.isCells = false) : w'.rowIs b t n f := by
  refine h.of_block (hg.block b h.lt (fun e => ?_))
  obtain ⟨o, ho, hc⟩ := hr b e.symm
  obtain ⟨c, h1, _⟩ := h
  rw [h1] at ho
  cases ho
  cases hc

theorem owns_kept {w w' : World} {base : Nat} {e : TypeId} {size : Nat} {v : Value} {n : Nat} {xs : List Value} {row : Option Nat} (h : w.ownsRow base e size v n xs) (hg : w.grownBy w' row) (hr : ∀ r, row = some r → ∃ o : Obj, w.heap[r]? = some o ∧ o.isCells = false) : w'.ownsRow base e size v n xs := by
  refine ⟨h.1, ?_⟩
  rcases h.2 with h2 | ⟨g, cap, cur, hv, hgb, hh, r⟩
  · exact Or.inl h2
  · refine Or.inr ⟨g, cap, cur, hv, hgb, ?_, r⟩
    rw [hg.block g (Array.getElem?_eq_some_iff.1 hh).1 (fun e => by
      obtain ⟨o, ho, hc⟩ := hr g e.symm
      rw [hh] at ho
      cases ho
      cases hc)]
    exact hh
theorem owns_ahead {w : World} {base base' : Nat} {e : TypeId} {size : Nat} {v : Value} {n : Nat} {xs : List Value} (h : w.ownsRow base e size v n xs) (hb : base' ≤ base) : w.ownsRow base' e size v n xs := by
  refine ⟨h.1, ?_⟩
  rcases h.2 with h2 | ⟨g, cap, cur, hv, hg, r⟩
  · exact Or.inl h2
  · exact Or.inr ⟨g, cap, cur, hv, Nat.le_trans hb hg, r⟩

/-- On a leg, live or not. -/
def P.onAny (k : Int) (b : Bkg) : Int := if P.btw k b.frm (b.to - 1) = true then b.guests else 0
def P.soulA (k : Int) : List Bkg → Int
  | [] => 0
  | b :: t => P.onAny k b + P.soulA k t
theorem soulA_snoc (k : Int) (l : List Bkg) (b : Bkg) : P.soulA k (l ++ [b]) = P.soulA k l + P.onAny k b := by
  induction l with
  | nil => simp [P.soulA]
  | cons x t ih => rw [List.cons_append, P.soulA, P.soulA, ih]; omega
theorem soulA_live (k : Int) (l : List Bkg) : P.soulA k (l.filter P.live) = P.soul k l := by
  induction l with
  | nil => rfl
  | cons b t ih =>
    rw [List.filter_cons]
    cases hb : P.live b
    · simp [P.soul, onLeg_gone hb, ih]
    · simp [P.soul, P.soulA, ih, P.onAny, P.onLeg, hb]
abbrev BkO (s : Vsl) := {x : BkV // P.bkE s x.1 = 0}
abbrev P.bkO {s : Vsl} (x : BkO s) : Bkg := x.1.1
theorem soulA_bd {s : Vsl} (k : Int) (l : List (BkO s)) : 0 ≤ P.soulA k (l.map P.bkO) ∧ P.soulA k (l.map P.bkO) ≤ 4 * (l.length : Int) := by
  induction l with
  | nil => simp [P.soulA]
  | cons x t ih =>
    obtain ⟨_, h1, h2, _⟩ := bk_ok x.2
    have e : 0 ≤ P.onAny k x.1.1 ∧ P.onAny k x.1.1 ≤ 4 := by unfold P.onAny; split <;> omega
    rw [List.map_cons, P.soulA, List.length_cons]
    show 0 ≤ P.onAny k x.1.1 + _ ∧ P.onAny k x.1.1 + _ ≤ _
    push_cast
    omega
theorem filter_O {s : Vsl} (es : List (BkO s)) : (es.filter (fun x => P.live x.1.1)).map P.bkO = (es.map P.bkO).filter P.live := by
  induction es with
  | nil => rfl
  | cons x r ih =>
    rw [List.map_cons, List.filter_cons, List.filter_cons]
    cases h : P.live x.1.1 <;> simp [ih]
theorem kept_row {n₀ B g : Nat} (W : World) (o : Nat) (hn : n₀ ≤ g) (hB : B ≠ g) (u : Value) : Fo.Kept n₀ B W (W.setCell ⟨g, o, none⟩ u) :=
  ⟨(Below.refl n₀ W).setCell (p := ⟨g, o, none⟩) hn _, fun v hv => by rw [World.cell?_setCell_other (h := by simp [hB])]; exact hv⟩
theorem Box1.far {W : World} {g g' : Nat} {v : Value} (h : Box1 W g v) (hne : g' ≠ g) (o : Nat) (u : Value) : Box1 (W.setCell ⟨g', o, none⟩ u) g v :=
  ⟨(Ma.cell_far hne).trans h.c, by rw [World.frozen?_setCell]; exact h.f⟩
theorem BBox.far {W : World} {g g' : Nat} {x : Bkg} {fo : Option Addr} {fc : Nat} (h : BBox W g x fo fc) (hne : g' ≠ g) (o : Nat) (u : Value) : BBox (W.setCell ⟨g', o, none⟩ u) g x fo fc :=
  ⟨(Ma.cell_far hne).trans h.c0, (Ma.cell_far hne).trans h.c1, (Ma.cell_far hne).trans h.c2, (Ma.cell_far hne).trans h.c3, (Ma.cell_far hne).trans h.c4, (Ma.cell_far hne).trans h.c5, (Ma.cell_far hne).trans h.c6, (Ma.cell_far hne).trans h.c7, (Ma.cell_far hne).trans h.c8, (Ma.cell_far hne).trans h.c9, (Ma.cell_far hne).trans h.c10⟩

set_option maxRecDepth 100000 in
set_option maxHeartbeats 8000000 in
theorem souls_any (s : Vsl) (a : VslA) (ao : Option Addr) (cap : Nat) (l : List Bkg) (w : World) (hs : VslAt w s a) (hl : BksAt w ao cap l) (hL : l.length ≤ 1353245080300) :
    Calls Tryz.prog 110 #[V.vsl s a, .slice ao l.length cap] w fun e w' => ∃ v', e = .returned (.tuple #[v', .int .i64 (P.soE s l)]) ∧ Ma.OwnI w' w.heap.size v' (P.soL s l) ∧ Below w.heap.size w w' := by
  have hv1 := VBox.new w s a
  have hb1 : Below w.heap.size w (w.alloc (.cells #[.int .i64 s.legs, .int .i64 s.souls, .slice a.cao s.cs.length a.cc, .slice a.bao s.bs.length a.bc] 25)) := by go_grown
  refine (callsIn_wide (n := 3)).1 ?_
  refine callsIn_of_wp_marks Tryz.func110 rfl trivial ?_ rfl
  simp only [Tryz.ntmps110, List.size_toArray, List.length_cons, List.length_nil, Nat.reduceAdd, Nat.reduceSub, Array.replicate_succ, Array.replicate_zero, List.push_toArray, List.append_toArray, List.nil_append, List.cons_append]
  gi_wp2_with fail
  refine ⟨trivial, (callsIn_wide.2 (checkAll_any s a ao cap l _ (hs.below hb1) (SlAt.below RBk.mono hl hb1))).mono ?_⟩
  rintro e wA ⟨rfl, hbA⟩
  have hBA := bvia hb1 hbA
  have hvA := hv1.below hbA
  cases hz : (P.allE s l != 0)
  rotate_left
  · have HE : Aside (P.soE s l = P.allE s l ∧ P.soL s l = []) := by
      have h : ¬ P.allE s l = 0 := by simpa using hz
      have e : P.soE s l = P.allE s l := by rw [P.soE, if_neg h]
      exact ⟨e, by rw [P.soL, if_neg (by rw [e]; exact h)]⟩
    gi_wp2
    refine ⟨.tuple #[.slice none 0 0, .int .i64 (P.allE s l)], by simp [results, Tryz.results110, go_sem], ?_⟩
    exact ⟨_, ret2_int HE.out.1.symm, by rw [HE.out.2]; exact World.ownsRow_nil _ _ _ _, hBA⟩
  have hz0 : P.allE s l = 0 := by simpa using hz
  obtain ⟨hshp, hbks⟩ := all_ok hz0
  obtain ⟨hl1, hl7, _⟩ := shp_size hshp
  obtain ⟨n, hn⟩ : ∃ n : Nat, s.legs = n := ⟨s.legs.toNat, by omega⟩
  have HZ : Aside (P.allE s l = 0) := hz0
  have HBK : Aside (∀ b ∈ l, P.bkE s b = 0) := hbks
  have HNL : Aside (s.legs = n) := hn
  have hn7 : n ≤ 7 := by omega
  have hn1 : 1 ≤ n := by omega
  clear hz0 hbks hshp hl1 hl7 hn
  obtain ⟨v0, v1, v2, v3⟩ := hvA
  rw [HNL.out] at v0
  have hmk := fun (wx : World) => run_make_row' (P := Tryz.prog) 47 3 (.int .i64 0) 8 Tryz.underlying47 Ma.Tryz.infoInt rfl .i64 .i64 n (by omega) (by omega) wx
  gi_wp2_with (refine ⟨trivial, ?_⟩; gi_at_call 151; refine (callsIn_wide.2 (those_any ao cap l.length 153 #[] _)).mono ?_; rintro e w' ⟨rfl, rfl⟩)
  obtain ⟨lv, hlv, hlvAt⟩ := BksAt.pick hl
  obtain ⟨es, hes⟩ : ∃ es : List (BkO s), es.map (·.1) = lv := by
    have h : ∀ x ∈ lv, P.bkE s x.1 = 0 := fun x hx => HBK.out x.1 (by rw [← hlv]; exact List.mem_map_of_mem hx)
    exact ⟨lv.attach.map (fun x => ⟨x.1, h x.1 x.2⟩), by rw [List.map_map]; exact List.attach_map_subtype_val lv⟩
  subst hes
  have HM : Aside (es.map P.bkO = l) := by show _ = _; rw [← hlv, List.map_map]; rfl
  have HN : Aside (l.length = es.length) := by show _ = _; rw [← HM.out]; simp
  have hLe : es.length ≤ 1353245080300 := by have := HN.out; omega
  clear hlv
  have hesAt : BkVsAt wA ao cap (es.map (·.1)) := SlAt.below RBkV.mono hlvAt hBA
  obtain ⟨W0, hW0⟩ : ∃ W0, W.seq ((wA.alloc (.cells (madeCells #[.int .i64 0] n) 3)).alloc (.cells #[.slice (some ⟨wA.heap.size, 0, none⟩) n n] 47)) ao cap l.length 153 #[] = W0 := ⟨_, rfl⟩
  have q7 : Box1 W0 (wA.heap.size + 1) (.slice (some ⟨wA.heap.size, 0, none⟩) n n) := by
    have := Box1.new (wA.alloc (.cells (madeCells #[.int .i64 0] n) 3)) (.slice (some ⟨wA.heap.size, 0, none⟩) n n) 47
    rw [World.size_alloc] at this
    rw [← hW0]; exact (this.old _).old _
  have qR : W0.rowIs wA.heap.size 3 n (fun _ => .int .i64 0) := by
    rw [← hW0]
    exact (World.rowIs_made wA (.int .i64 0) n 3).of_block (((Below.heap_alloc _ _ _ (by simp; omega)).trans (Below.heap_alloc _ _ _ (by simp; omega))).trans (Below.heap_alloc _ _ _ (by simp)))
  have q1 : W0.cell? ⟨wA.heap.size + 1 + 1, 0, none⟩ = some (.slice ao es.length cap) := by
    have := Fo.newCell ((wA.alloc (.cells (madeCells #[.int .i64 0] n) 3)).alloc (.cells #[.slice (some ⟨wA.heap.size, 0, none⟩) n n] 47)) (.slice ao l.length cap) 30
    rw [World.size_alloc, World.size_alloc] at this
    rw [← hW0, ← HN.out]; exact Fo.oldCell _ this.1
  have q2 : W0.cell? ⟨wA.heap.size + 1 + 1 + 1, 0, none⟩ = some (.func (.func 153) #[] #[]) := by
    have := Fo.newCell (((wA.alloc (.cells (madeCells #[.int .i64 0] n) 3)).alloc (.cells #[.slice (some ⟨wA.heap.size, 0, none⟩) n n] 47)).alloc (.cells #[.slice ao l.length cap] 30)) (.func (.func 153) #[] #[]) 120
    rw [World.size_alloc, World.size_alloc, World.size_alloc] at this
    rw [← hW0]; exact this.1
  have hsz : W0.heap.size = wA.heap.size + 1 + 1 + 1 + 1 := by rw [← hW0]; simp [W.seq]
  have h20 : Below wA.heap.size wA W0 := by rw [← hW0]; go_grown
  have hp : Hid (∀ (x : BkV) (wx : World), Below wA.heap.size wA wx → Calls Tryz.prog 153 (#[V.bkv x] ++ #[]) wx fun e w' => e = .returned (.bool (P.live x.1)) ∧ Below wx.heap.size wx w') := fun x wx _ => isLive_any x.1 x.2.1 x.2.2 wx
  rw [hW0]
  clear hlvAt hl hmk v0 v1 v2 v3
  refine wpIn_rangeFunc_ownH rfl (by omega) (gf := 194) (lb := #[.pointer (some ⟨wA.heap.size + 1 + 1, 0, none⟩), .pointer (some ⟨wA.heap.size + 1 + 1 + 1, 0, none⟩)]) rfl trivial (enters_of Tryz.func194 (by kernel_rfl) rfl)
    (those_stops 2 (by omega) (wA.heap.size + 1 + 1) (wA.heap.size + 1 + 1 + 1) wA.heap.size ao cap es 153 #[] P.live W0 wA isLive_calls hp rfl h20 hesAt q1 q2) Fo.Kept.t (Fo.Kept.b (by omega) (by omega)) (Below.refl _ _) (fun _ => rfl)
    (fun pre X => (X.rowIs wA.heap.size 3 n (fun j => .int .i64 (P.soulA (j : Nat) (pre.map P.bkO))) ∧ Box1 X (wA.heap.size + 1) (.slice (some ⟨wA.heap.size, 0, none⟩) n n)) ∧ Below wA.heap.size wA X)
    (fun _ _ _ => False)
    (OwnFrom.and (Own.from (fun pre A B row hh hg hr => ⟨row_kept hh.1 hg hr, hh.2.kept hg hr⟩) _) (ownFrom_below (Nat.le_refl _) (by omega)))
    (fun _ _ _ _ _ hh _ _ => hh)
    ⟨⟨qR, q7⟩, h20⟩
    (fun x a' X => ∃ G, a' = { tmps := #[V.vsl s a, .slice ao l.length cap, .pointer (some ⟨w.heap.size, 0, none⟩), undef, .slice none 0 0, .int .i64 0, .int .i64 (P.allE s l), .pointer (some ⟨wA.heap.size + 1, 0, none⟩), .pointer (some ⟨G, 0, none⟩), undef, .agg #[.int .i64 s.legs, .int .i64 s.souls, .slice a.cao s.cs.length a.cc, .slice a.bao s.bs.length a.bc], .slice ao l.length cap, .int .i64 (P.allE s l), .int .i64 (P.allE s l), .bool false, undef, .pointer (some ⟨w.heap.size, 0, none⟩), .int .i64 n, .slice (some ⟨wA.heap.size, 0, none⟩) n n, .slice ao l.length cap, V.seq (wA.heap.size + 1 + 1) (wA.heap.size + 1 + 1 + 1), V.bkv x.1, undef, undef, undef, undef, undef, undef, undef, undef, undef, undef, undef, undef, undef, undef, undef, undef, undef, undef, undef, undef, undef], defers := [] } ∧ BBox X G x.1.1 x.1.2.1 x.1.2.2 ∧ wA.heap.size < G)
    (fun x a' => Own.from (fun _ A B row hh hg hr => by obtain ⟨G, h1, h2, h3⟩ := hh; exact ⟨G, h1, h2.kept hg hr, h3⟩) _)
    ?assign ?body ?done ?stop
  case assign =>
    rintro lx pre ⟨⟨x, fo, fc⟩, ht⟩ X K ⟨⟨hR, h7⟩, hB⟩ hK
    have hXl := h7.lt
    have hba : Below X.heap.size X (X.alloc (.cells #[.int .i64 x.id, .int .i64 x.kind, .int .i64 x.state, .int .i64 x.guests, .bool x.level, .int .i64 x.cabin, .int .i64 x.cat, .int .i64 x.frm, .int .i64 x.to, .int .i64 x.til, .slice fo x.fol.length fc] 37)) := by go_grown
    have hfin := hK { tmps := (fun (x : BkO s) (G : Nat) => (#[V.vsl s a, .slice ao l.length cap, .pointer (some ⟨w.heap.size, 0, none⟩), undef, .slice none 0 0, .int .i64 0, .int .i64 (P.allE s l), .pointer (some ⟨wA.heap.size + 1, 0, none⟩), .pointer (some ⟨G, 0, none⟩), undef, .agg #[.int .i64 s.legs, .int .i64 s.souls, .slice a.cao s.cs.length a.cc, .slice a.bao s.bs.length a.bc], .slice ao l.length cap, .int .i64 (P.allE s l), .int .i64 (P.allE s l), .bool false, undef, .pointer (some ⟨w.heap.size, 0, none⟩), .int .i64 n, .slice (some ⟨wA.heap.size, 0, none⟩) n n, .slice ao l.length cap, V.seq (wA.heap.size + 1 + 1) (wA.heap.size + 1 + 1 + 1), V.bkv x.1, undef, undef, undef, undef, undef, undef, undef, undef, undef, undef, undef, undef, undef, undef, undef, undef, undef, undef, undef, undef, undef] : Array Value)) ⟨(x, fo, fc), ht⟩ X.heap.size, defers := [] } _ (keeps_below _ hba) (kept_below (by omega) hba) ⟨⟨hR.of_block (hba.block _ hR.lt), h7.below hba⟩, hB.trans (hba.mono (by omega))⟩ ⟨X.heap.size, rfl, BBox.new X x fo fc, by omega⟩
    clear hK h7 hR hB hba
    gi_wp2
    exact hfin
  case body =>
    rintro lx pre ⟨⟨x, fo, fc⟩, ht⟩ a' X hlx _ ⟨⟨hR, h7⟩, hB⟩ ⟨G, rfl, hbx, hG⟩ hpl
    have HBD : Aside (∀ j : Int, 0 ≤ P.soulA j (pre.map P.bkO) ∧ P.soulA j (pre.map P.bkO) ≤ 4 * (pre.length : Int)) := fun j => soulA_bd j pre
    have HMP : Aside (∀ j : Int, P.soulA j ((pre ++ [(⟨(x, fo, fc), ht⟩ : BkO s)]).map P.bkO) = P.soulA j (pre.map P.bkO) + P.onAny j x) := fun j => by rw [List.map_append]; exact soulA_snoc j _ x
    obtain ⟨hchk, hg1, hg4, _⟩ := bk_ok ht
    simp only at hchk hg1 hg4 hbx
    have hz := Sp.chk_zero hchk
    obtain ⟨f, hf⟩ : ∃ f : Nat, x.frm = f := ⟨x.frm.toNat, by omega⟩
    obtain ⟨t, htt⟩ : ∃ t : Nat, x.to = t := ⟨x.to.toNat, by omega⟩
    have hft : f < t := by omega
    have htn : t ≤ n := by have := HNL.out; omega
    have HON : Aside (∀ j : Nat, P.onAny j x = if f ≤ j ∧ j < t then x.guests else 0) := fun j => by
      unfold P.onAny
      by_cases e : f ≤ j ∧ j < t
      · rw [if_pos e, if_pos (by rw [hf, htt]; simp [P.btw]; omega)]
      · rw [if_neg e, if_neg (by rw [hf, htt]; simp [P.btw]; omega)]
    have HBX : Aside (BBox X G x fo fc) := hbx
    have HF : Aside (x.frm = f ∧ x.to = t) := ⟨hf, htt⟩
    have hXl := h7.lt
    obtain ⟨x0, x1, x2, x3, x4, x5, x6, x7, x8, x9, x10⟩ := hbx
    rw [hf] at x7
    rw [htt] at x8
    clear hf htt hz hchk
    gi_wp2
    gi_loopw [9] (fun i wr => ∃ (k : Nat), f ≤ k ∧ k ≤ t ∧ i = .int .i64 k ∧ wr.rowIs wA.heap.size 3 n (fun j => .int .i64 (P.soulA (j : Nat) (pre.map P.bkO) + if f ≤ j ∧ j < k then x.guests else 0)) ∧ Box1 wr (wA.heap.size + 1) (.slice (some ⟨wA.heap.size, 0, none⟩) n n) ∧ BBox wr G x fo fc ∧ Fo.Kept wA.heap.size (wA.heap.size + 1 + 1 + 1) X wr ∧ KeepsFrom W0.heap.size X wr ∧ Below wA.heap.size wA wr)
      (fun i _ => t - (intOf i).toNat)
    case atStart => exact ⟨f, Nat.le_refl _, by omega, rfl, hR.congr (fun j _ => by rw [if_neg (by omega)]; simp), h7, HBX.out, ⟨Below.refl _ _, fun v hv => hv⟩, KeepsFrom.refl _ _, hB⟩
    case round =>
      clear x0 x1 x2 x3 x4 x5 x6 x7 x8 x9 x10 hR h7 HBX hB
      obtain ⟨k, hfk, hkt, rfl, hR, h7, hbx, hKp, hKf, hB⟩ := hrel
      have HBX : Aside (BBox wr G x fo fc) := hbx
      have HR : Aside (wr.rowIs wA.heap.size 3 n (fun j => .int .i64 (P.soulA (j : Nat) (pre.map P.bkO) + if f ≤ j ∧ j < k then x.guests else 0))) := hR
      have H7 : Aside (Box1 wr (wA.heap.size + 1) (.slice (some ⟨wA.heap.size, 0, none⟩) n n)) := h7
      have hRl := hR.lt
      obtain ⟨x0, x1, x2, x3, x4, x5, x6, x7, x8, x9, x10⟩ := hbx
      rw [HF.out.2] at x8
      obtain ⟨c7, f7⟩ := h7
      by_cases hlt : k < t
      · have hkn : k < n := by omega
        have hkn' : (k : Int) < n := by omega
        have hce : wr.cell? ⟨wA.heap.size, k, none⟩ = some (.int .i64 (P.soulA (k : Nat) (pre.map P.bkO))) := by rw [hR.cell hkn, if_neg (by omega)]; simp
        have hfr := hR.frozen k
        obtain ⟨y1, y2⟩ := HBD.out k
        generalize hy : P.soulA (k : Nat) (pre.map P.bkO) = y at hce y1 y2
        have HY : Aside (P.soulA (k : Nat) (pre.map P.bkO) = y) := hy
        have b7 := H7.out.far (g' := wA.heap.size) (by omega) k (.int .i64 (y + x.guests))
        have bX := HBX.out.far (g' := wA.heap.size) (by omega) k (.int .i64 (y + x.guests))
        have HN7 : Aside (Box1 (wr.setCell ⟨wA.heap.size, k, none⟩ (.int .i64 (y + x.guests))).drew (wA.heap.size + 1) (.slice (some ⟨wA.heap.size, 0, none⟩) n n)) := ⟨b7.c, b7.f⟩
        have HNX : Aside (BBox (wr.setCell ⟨wA.heap.size, k, none⟩ (.int .i64 (y + x.guests))).drew G x fo fc) := ⟨bX.c0, bX.c1, bX.c2, bX.c3, bX.c4, bX.c5, bX.c6, bX.c7, bX.c8, bX.c9, bX.c10⟩
        clear hy hR x0 x1 x2 x4 x5 x6 x7 x9 x10 b7 bX
        gi_wp2
        gi_region
        all_goals
          gi_wp2
          go_roundw
          case rel =>
            refine ⟨k + 1, by omega, by omega, by go_num, ?_, HN7.out, HNX.out, hKp.t ((kept_row wr k (Nat.le_refl _) (by omega) _).t ⟨(Below.refl _ _).drew, fun v hv => hv⟩), hKf.trans (((KeepsOthers.setCell _ _ _).trans (KeepsOthers.drew _)).from _), (hB.setCell (p := ⟨wA.heap.size, k, none⟩) (Nat.le_refl _) _).drew⟩
            have hfin : (wr.setCell ⟨wA.heap.size, k, none⟩ (.int .i64 (y + x.guests))).rowIs wA.heap.size 3 n (fun j => .int .i64 (P.soulA (j : Nat) (pre.map P.bkO) + if f ≤ j ∧ j < k + 1 then x.guests else 0)) :=
              (HR.out.set k (.int .i64 (y + x.guests))).congr (fun j hj => by
                by_cases e : j = k
                · subst e; rw [if_pos rfl, HY.out, if_pos (by omega)]
                · have e2 : (f ≤ j ∧ j < k + 1) = (f ≤ j ∧ j < k) := by rw [eq_iff_iff]; omega
                  rw [if_neg e]; simp only [e2])
            exact hfin
          case measure => simp [intOf]; omega
      · obtain rfl : k = t := by omega
        have hfin : wr.rowIs wA.heap.size 3 n (fun j => .int .i64 (P.soulA (j : Nat) ((pre ++ [(⟨(x, fo, fc), ht⟩ : BkO s)]).map P.bkO))) := hR.congr (fun j hj => by rw [HMP.out, HON.out])
        have HFin : Aside (wr.rowIs wA.heap.size 3 n (fun j => .int .i64 (P.soulA (j : Nat) ((pre ++ [(⟨(x, fo, fc), ht⟩ : BkO s)]).map P.bkO)))) := hfin
        clear hfin hR
        gi_wp2
        exact ⟨hKf, hKp, ⟨HFin.out, H7.out⟩, hB⟩
  case done =>
    rintro D ys X hD rfl ⟨⟨hR, h7⟩, hB⟩ hK
    have hDl : D < X.heap.size := (Array.getElem?_eq_some_iff.1 hK).1
    have hR' : X.rowIs wA.heap.size 3 n (fun j => .int .i64 (P.soul (j : Nat) l)) := hR.congr (fun j _ => by rw [filter_O, HM.out, soulA_live])
    have hown : Ma.OwnI X wA.heap.size (.slice (some ⟨wA.heap.size, 0, none⟩) n n) (P.soulsL n l) := Ma.own_of_row (n := n) (hR'.congr fun i hi => by rw [souls_get hi]) (Nat.le_refl _) (souls_len n l) (by unfold maxLen; omega)
    have hints : IntsAt X (some ⟨wA.heap.size, 0, none⟩) n (P.soulsL n l) := by
      obtain ⟨ao2, cap2, e2, hh⟩ := Ma.OwnI.at hown
      rw [souls_len] at e2
      simp only [Value.slice.injEq] at e2
      obtain ⟨rfl, -, rfl⟩ := e2
      exact hh
    have hcf := Ma.containsFunc_any (some ⟨wA.heap.size, 0, none⟩) n (P.soulsL n l) 173 #[] (fun x => decide (60 < x)) X hints souls1_calls (fun x wx _ _ => souls1_any x wx)
    rw [souls_len] at hcf
    have HCF : Aside (Calls Tryz.prog 111 #[.slice (some ⟨wA.heap.size, 0, none⟩) n n, .func (.func 173) #[] #[]] X fun e w' => e = .returned (.bool (P.over (P.soulsL n l))) ∧ Below X.heap.size X w') := hcf
    have HO : Aside (Ma.OwnI X wA.heap.size (.slice (some ⟨wA.heap.size, 0, none⟩) n n) (P.soulsL n l)) := hown
    have HTN : Aside (s.legs.toNat = n) := by show _ = _; rw [HNL.out]; simp
    clear hR hR' hown hints hcf
    obtain ⟨c7, f7⟩ := h7
    have hsA := hBA.size
    gi_wp2_with fail
    refine ⟨trivial, (callsIn_wide.2 HCF.out).mono ?_⟩
    rintro e w2 ⟨rfl, hb2⟩
    have hK2 : w2.heap[D]? = some (.deferred (some [])) := (hb2.block D hDl).trans hK
    have c72 := cellIn hb2 c7
    have HB2 : Aside (Below w.heap.size w (w2.putObj D (.deferred none))) :=
      (hBA.trans ((hB.trans (hb2.mono (by have := hB.size; omega))).mono hsA)).trans (belowK_b (w := w) (Nat.le_refl _) _ D _ _ (by omega) hK2 rfl rfl)
    have HO2 : Aside (Ma.OwnI (w2.putObj D (.deferred none)) wA.heap.size (.slice (some ⟨wA.heap.size, 0, none⟩) n n) (P.soulsL n l)) := by
      have h1 : Ma.OwnI w2 wA.heap.size (.slice (some ⟨wA.heap.size, 0, none⟩) n n) (P.soulsL n l) := Ma.OwnI.below HO.out hb2
      exact owns_kept h1 (grownBy_putObj' _ D (.deferred none)) (fun r e => by cases e; exact ⟨_, hK2, rfl⟩)
    cases ho : P.over (P.soulsL n l)
    · have HE : Aside (P.soE s l = 0 ∧ P.soL s l = P.soulsL n l) := by
        have e : P.soE s l = 0 := by rw [P.soE, if_pos HZ.out, HTN.out, if_neg (by simp [ho])]
        exact ⟨e, by rw [P.soL, if_pos e, HTN.out]⟩
      gi_wp2
      refine ⟨by simp, .inl ⟨_, _, rfl, run_takeDeferred hK2, ?_⟩⟩
      refine ⟨.tuple #[.slice (some ⟨wA.heap.size, 0, none⟩) n n, .int .i64 0], by simp [results, Tryz.results110, go_sem], ?_⟩
      exact ⟨_, ret2_int HE.out.1.symm, by rw [HE.out.2]; exact owns_ahead HO2.out hsA, HB2.out⟩
    · have HE : Aside (P.soE s l = 2 ∧ P.soL s l = []) := by
        have e : P.soE s l = 2 := by rw [P.soE, if_pos HZ.out, HTN.out, if_pos ho]
        exact ⟨e, by rw [P.soL, if_neg (by rw [e]; decide)]⟩
      gi_wp2
      refine ⟨by simp, .inl ⟨_, _, rfl, run_takeDeferred hK2, ?_⟩⟩
      refine ⟨.tuple #[.slice none 0 0, .int .i64 2], by simp [results, Tryz.results110, go_sem], ?_⟩
      exact ⟨_, ret2_int HE.out.1.symm, by rw [HE.out.2]; exact World.ownsRow_nil _ _ _ _, HB2.out⟩
  case stop =>
    rintro D c pre X _ _ h _
    exact h.elim

end Go.Proofs.YtlamhfbdeinkkaeGreat.Bk

/- Walks of named, promised, bookBegun. -/
namespace Go.Proofs.YtlamhfbdeinkkaeGreat.Bk
open Go.RowKit
set_option linter.unusedSimpArgs false
set_option linter.unusedVariables false

def T.N : Bkg := ⟨7, 1, 2, 3, false, 1, 0, 1, 3, 0, []⟩
def T.Q : Bkg := ⟨9, 2, 1, 2, false, -1, 0, 0, 3, 4, []⟩
def T.V : Vsl := ⟨3, 6, Sh.vcats, Sh.vcabs⟩
def T.L : List Bkg := [T.N, T.Q]

set_option maxHeartbeats 400000 in
theorem named_any (w : World) : Calls Tryz.prog 41 #[] w fun e w' => e = .returned (V.bk T.N none 0) ∧ Below w.heap.size w w' := by
  go_enter Tryz.func41, Tryz.ntmps41
  go_wp2
  exact bodyPost_ret (v := V.bk T.N none 0) (by simp [results, Tryz.results41, go_sem, T.N]) rfl ⟨rfl, by go_grown⟩
set_option maxHeartbeats 400000 in
theorem promised_any (w : World) : Calls Tryz.prog 43 #[] w fun e w' => e = .returned (V.bk T.Q none 0) ∧ Below w.heap.size w w' := by
  go_enter Tryz.func43, Tryz.ntmps43
  go_wp2
  exact bodyPost_ret (v := V.bk T.Q none 0) (by simp [results, Tryz.results43, go_sem, T.Q]) rfl ⟨rfl, by go_grown⟩
end Go.Proofs.YtlamhfbdeinkkaeGreat.Bk
