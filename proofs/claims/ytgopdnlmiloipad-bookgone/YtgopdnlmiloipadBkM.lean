/- The walk of Souls. -/
import Derived.Test.YtgopdnlmiloipadBkL
import Derived.Test.YtgopdnlmiloipadBkN
import Derived.BigRegionIn
namespace Go.Proofs.Ytgopdnlmiloipad.Bk
open Go.RowKit Go.Shelf
set_option linter.unusedSimpArgs false
set_option linter.unusedVariables false
attribute [local go_sem] Oper.semAt_some

theorem isLive_calls : ∀ (args : Array Value) (wx : World), (callFunc 22 args).run Try.prog wx = .ok (.enter 22 args) wx := enters_of Try.func22 (by kernel_rfl) rfl
theorem souls1_calls : ∀ (args : Array Value) (wx : World), (callFunc 25 args).run Try.prog wx = .ok (.enter 25 args) wx := enters_of Try.func25 (by kernel_rfl) rfl
set_option maxHeartbeats 400000 in
theorem souls1_any (x : Int) (w : World) : Calls Try.prog 25 #[.int .i64 x] w fun e w' => e = .returned (.bool (decide (60 < x))) ∧ Below w.heap.size w w' := by
  go_enter Try.func25, Try.ntmps25
  go_wp2
  go_ret
  exact ⟨rfl, Below.refl _ _⟩

theorem row_kept {w w' : World} {b : Nat} {t : TypeId} {n : Nat} {f : Nat → Value} {row : Option Nat} (h : w.rowIs b t n f) (hg : w.grownBy w' row) (hr : ∀ r, row = some r → ∃ o : Obj, w.heap[r]? = some o ∧ o.isCells = false) : w'.rowIs b t n f := by
  refine h.of_block (hg.block b h.lt (fun e => ?_))
  obtain ⟨o, ho, hc⟩ := hr b e.symm
  obtain ⟨c, h1, _⟩ := h
  rw [h1] at ho
  cases ho
  cases hc

theorem owns_kept {w w' : World} {base : Nat} {e : TypeId} {size : Nat} {v : Value} {n : Nat} {xs : List Value} {row : Option Nat} (h : w.ownsRow base e size v n xs) (hg : w.grownBy w' row) (hr : ∀ r, row = some r → ∃ o : Obj, w.heap[r]? = some o ∧ o.isCells = false) : w'.ownsRow base e size v n xs := by
  refine ⟨h.1, ?_⟩
  rcases h.2 with h2 | ⟨g, cap, cur, hv, hgb, hh, r⟩
  · exact Or.inl h2
  · refine Or.inr ⟨g, cap, cur, hv, hgb, ?_, r⟩
    rw [hg.block g (Array.getElem?_eq_some_iff.1 hh).1 (fun e => by
      obtain ⟨o, ho, hc⟩ := hr g e.symm
      rw [hh] at ho
      cases ho
      cases hc)]
    exact hh
theorem owns_ahead {w : World} {base base' : Nat} {e : TypeId} {size : Nat} {v : Value} {n : Nat} {xs : List Value} (h : w.ownsRow base e size v n xs) (hb : base' ≤ base) : w.ownsRow base' e size v n xs := by
  refine ⟨h.1, ?_⟩
  rcases h.2 with h2 | ⟨g, cap, cur, hv, hg, r⟩
  · exact Or.inl h2
  · exact Or.inr ⟨g, cap, cur, hv, Nat.le_trans hb hg, r⟩

/-- On a leg, live or not. -/
def P.onAny (k : Int) (b : Bkg) : Int := if P.btw k b.frm (b.to - 1) = true then b.guests else 0
def P.soulA (k : Int) : List Bkg → Int
  | [] => 0
  | b :: t => P.onAny k b + P.soulA k t
theorem soulA_snoc (k : Int) (l : List Bkg) (b : Bkg) : P.soulA k (l ++ [b]) = P.soulA k l + P.onAny k b := by
  induction l with
  | nil => simp [P.soulA]
  | cons x t ih => rw [List.cons_append, P.soulA, P.soulA, ih]; omega
theorem soulA_live (k : Int) (l : List Bkg) : P.soulA k (l.filter P.live) = P.soul k l := by
  induction l with
  | nil => rfl
  | cons b t ih =>
    rw [List.filter_cons]
    cases hb : P.live b
    · simp [P.soul, onLeg_gone hb, ih]
    · simp [P.soul, P.soulA, ih, P.onAny, P.onLeg, hb]
abbrev BkO (s : Vsl) := {x : BkV // P.bkE s x.1 = 0}
abbrev P.bkO {s : Vsl} (x : BkO s) : Bkg := x.1.1
theorem soulA_bd {s : Vsl} (k : Int) (l : List (BkO s)) : 0 ≤ P.soulA k (l.map P.bkO) ∧ P.soulA k (l.map P.bkO) ≤ 4 * (l.length : Int) := by
  induction l with
  | nil => simp [P.soulA]
  | cons x t ih =>
    obtain ⟨_, h1, h2, _⟩ := bk_ok x.2
    have e : 0 ≤ P.onAny k x.1.1 ∧ P.onAny k x.1.1 ≤ 4 := by unfold P.onAny; split <;> omega
    rw [List.map_cons, P.soulA, List.length_cons]
    show 0 ≤ P.onAny k x.1.1 + _ ∧ P.onAny k x.1.1 + _ ≤ _
    push_cast
    omega
theorem filter_O {s : Vsl} (es : List (BkO s)) : (es.filter (fun x => P.live x.1.1)).map P.bkO = (es.map P.bkO).filter P.live := by
  induction es with
  | nil => rfl
  | cons x r ih =>
    rw [List.map_cons, List.filter_cons, List.filter_cons]
    cases h : P.live x.1.1 <;> simp [ih]
theorem kept_row {n₀ B g : Nat} (W : World) (o : Nat) (hn : n₀ ≤ g) (hB : B ≠ g) (u : Value) : Fo.Kept n₀ B W (W.setCell ⟨g, o, none⟩ u) :=
  ⟨(Below.refl n₀ W).setCell (p := ⟨g, o, none⟩) hn _, fun v hv => by rw [World.cell?_setCell_other (h := by simp [hB])]; exact hv⟩
theorem Box1.far {W : World} {g g' : Nat} {v : Value} (h : Box1 W g v) (hne : g' ≠ g) (o : Nat) (u : Value) : Box1 (W.setCell ⟨g', o, none⟩ u) g v :=
  ⟨(Ma.cell_far hne).trans h.c, by rw [World.frozen?_setCell]; exact h.f⟩
theorem BBox.far {W : World} {g g' : Nat} {x : Bkg} {fo : Option Addr} {fc : Nat} (h : BBox W g x fo fc) (hne : g' ≠ g) (o : Nat) (u : Value) : BBox (W.setCell ⟨g', o, none⟩ u) g x fo fc :=
  ⟨(Ma.cell_far hne).trans h.c0, (Ma.cell_far hne).trans h.c1, (Ma.cell_far hne).trans h.c2, (Ma.cell_far hne).trans h.c3, (Ma.cell_far hne).trans h.c4, (Ma.cell_far hne).trans h.c5, (Ma.cell_far hne).trans h.c6, (Ma.cell_far hne).trans h.c7, (Ma.cell_far hne).trans h.c8, (Ma.cell_far hne).trans h.c9, (Ma.cell_far hne).trans h.c10⟩

set_option maxRecDepth 100000 in
set_option maxHeartbeats 8000000 in
theorem souls_any (s : Vsl) (a : VslA) (ao : Option Addr) (cap : Nat) (l : List Bkg) (w : World) (hs : VslAt w s a) (hl : BksAt w ao cap l) (hL : l.length ≤ 1353245080300) :
    Calls Try.prog 6 #[V.vsl s a, .slice ao l.length cap] w fun e w' => ∃ v', e = .returned (.tuple #[v', .int .i64 (P.soE s l)]) ∧ Ma.OwnI w' w.heap.size v' (P.soL s l) ∧ Below w.heap.size w w' := by
  have hv1 := VBox.new w s a
  have hb1 : Below w.heap.size w (w.alloc (.cells #[.int .i64 s.legs, .int .i64 s.souls, .slice a.cao s.cs.length a.cc, .slice a.bao s.bs.length a.bc] 25)) := by go_grown
  refine (callsIn_wide (n := 3)).1 ?_
  refine callsIn_of_wp_marks Try.func6 rfl trivial ?_ rfl
  simp only [Try.ntmps6, List.size_toArray, List.length_cons, List.length_nil, Nat.reduceAdd, Nat.reduceSub, Array.replicate_succ, Array.replicate_zero, List.push_toArray, List.append_toArray, List.nil_append, List.cons_append]
  gi_wp2_with fail
  refine ⟨trivial, (callsIn_wide.2 (checkAll_any s a ao cap l _ (hs.below hb1) (SlAt.below RBk.mono hl hb1))).mono ?_⟩
  rintro e wA ⟨rfl, hbA⟩
  have hBA := bvia hb1 hbA
  have hvA := hv1.below hbA
  cases hz : (P.allE s l != 0)
  rotate_left
  · have HE : Aside (P.soE s l = P.allE s l ∧ P.soL s l = []) := by
      have h : ¬ P.allE s l = 0 := by simpa using hz
      have e : P.soE s l = P.allE s l := by rw [P.soE, if_neg h]
      exact ⟨e, by rw [P.soL, if_neg (by rw [e]; exact h)]⟩
    gi_wp2
    refine ⟨.tuple #[.slice none 0 0, .int .i64 (P.allE s l)], by simp [results, Try.results6, go_sem], ?_⟩
    exact ⟨_, ret2_int HE.out.1.symm, by rw [HE.out.2]; exact World.ownsRow_nil _ _ _ _, hBA⟩
  have hz0 : P.allE s l = 0 := by simpa using hz
  obtain ⟨hshp, hbks⟩ := all_ok hz0
  obtain ⟨hl1, hl7, _⟩ := shp_size hshp
  obtain ⟨n, hn⟩ : ∃ n : Nat, s.legs = n := ⟨s.legs.toNat, by omega⟩
  have HZ : Aside (P.allE s l = 0) := hz0
  have HBK : Aside (∀ b ∈ l, P.bkE s b = 0) := hbks
  have HNL : Aside (s.legs = n) := hn
  have hn7 : n ≤ 7 := by omega
  have hn1 : 1 ≤ n := by omega
  clear hz0 hbks hshp hl1 hl7 hn
  obtain ⟨v0, v1, v2, v3⟩ := hvA
  rw [HNL.out] at v0
  have hmk := fun (wx : World) => run_make_row' (P := Try.prog) 36 3 (.int .i64 0) 8 Try.underlying36 Ma.Try.infoInt rfl .i64 .i64 n (by omega) (by omega) wx
  gi_wp2_with (refine ⟨trivial, ?_⟩; gi_at_call 20; refine (callsIn_wide.2 (those_any ao cap l.length 22 #[] _)).mono ?_; rintro e w' ⟨rfl, rfl⟩)
  obtain ⟨lv, hlv, hlvAt⟩ := BksAt.pick hl
  obtain ⟨es, hes⟩ : ∃ es : List (BkO s), es.map (·.1) = lv := by
    have h : ∀ x ∈ lv, P.bkE s x.1 = 0 := fun x hx => HBK.out x.1 (by rw [← hlv]; exact List.mem_map_of_mem hx)
    exact ⟨lv.attach.map (fun x => ⟨x.1, h x.1 x.2⟩), by rw [List.map_map]; exact List.attach_map_subtype_val lv⟩
  subst hes
  have HM : Aside (es.map P.bkO = l) := by show _ = _; rw [← hlv, List.map_map]; rfl
  have HN : Aside (l.length = es.length) := by show _ = _; rw [← HM.out]; simp
  have hLe : es.length ≤ 1353245080300 := by have := HN.out; omega
  clear hlv
  have hesAt : BkVsAt wA ao cap (es.map (·.1)) := SlAt.below RBkV.mono hlvAt hBA
  obtain ⟨W0, hW0⟩ : ∃ W0, W.seq ((wA.alloc (.cells (madeCells #[.int .i64 0] n) 3)).alloc (.cells #[.slice (some ⟨wA.heap.size, 0, none⟩) n n] 36)) ao cap l.length 22 #[] = W0 := ⟨_, rfl⟩
  have q7 : Box1 W0 (wA.heap.size + 1) (.slice (some ⟨wA.heap.size, 0, none⟩) n n) := by
    have := Box1.new (wA.alloc (.cells (madeCells #[.int .i64 0] n) 3)) (.slice (some ⟨wA.heap.size, 0, none⟩) n n) 36
    rw [World.size_alloc] at this
    rw [← hW0]; exact (this.old _).old _
  have qR : W0.rowIs wA.heap.size 3 n (fun _ => .int .i64 0) := by
    rw [← hW0]
    exact (World.rowIs_made wA (.int .i64 0) n 3).of_block (((Below.heap_alloc _ _ _ (by simp; omega)).trans (Below.heap_alloc _ _ _ (by simp; omega))).trans (Below.heap_alloc _ _ _ (by simp)))
  have q1 : W0.cell? ⟨wA.heap.size + 1 + 1, 0, none⟩ = some (.slice ao es.length cap) := by
    have := Fo.newCell ((wA.alloc (.cells (madeCells #[.int .i64 0] n) 3)).alloc (.cells #[.slice (some ⟨wA.heap.size, 0, none⟩) n n] 36)) (.slice ao l.length cap) 31
    rw [World.size_alloc, World.size_alloc] at this
    rw [← hW0, ← HN.out]; exact Fo.oldCell _ this.1
  have q2 : W0.cell? ⟨wA.heap.size + 1 + 1 + 1, 0, none⟩ = some (.func (.func 22) #[] #[]) := by
    have := Fo.newCell (((wA.alloc (.cells (madeCells #[.int .i64 0] n) 3)).alloc (.cells #[.slice (some ⟨wA.heap.size, 0, none⟩) n n] 36)).alloc (.cells #[.slice ao l.length cap] 31)) (.func (.func 22) #[] #[]) 56
    rw [World.size_alloc, World.size_alloc, World.size_alloc] at this
    rw [← hW0]; exact this.1
  have hsz : W0.heap.size = wA.heap.size + 1 + 1 + 1 + 1 := by rw [← hW0]; simp [W.seq]
  have h20 : Below wA.heap.size wA W0 := by rw [← hW0]; go_grown
  have hp : Hid (∀ (x : BkV) (wx : World), Below wA.heap.size wA wx → Calls Try.prog 22 (#[V.bkv x] ++ #[]) wx fun e w' => e = .returned (.bool (P.live x.1)) ∧ Below wx.heap.size wx w') := fun x wx _ => isLive_any x.1 x.2.1 x.2.2 wx
  rw [hW0]
  clear hlvAt hl hmk v0 v1 v2 v3
  refine wpIn_rangeFunc_ownH rfl (by omega) (gf := 40) (lb := #[.pointer (some ⟨wA.heap.size + 1 + 1, 0, none⟩), .pointer (some ⟨wA.heap.size + 1 + 1 + 1, 0, none⟩)]) rfl trivial (enters_of Try.func40 (by kernel_rfl) rfl)
    (those_stops 2 (by omega) (wA.heap.size + 1 + 1) (wA.heap.size + 1 + 1 + 1) wA.heap.size ao cap es 22 #[] P.live W0 wA isLive_calls hp rfl h20 hesAt q1 q2) Fo.Kept.t (Fo.Kept.b (by omega) (by omega)) (Below.refl _ _) (fun _ => rfl)
    (fun pre X => (X.rowIs wA.heap.size 3 n (fun j => .int .i64 (P.soulA (j : Nat) (pre.map P.bkO))) ∧ Box1 X (wA.heap.size + 1) (.slice (some ⟨wA.heap.size, 0, none⟩) n n)) ∧ Below wA.heap.size wA X)
    (fun _ _ _ => False)
    (OwnFrom.and (Own.from (fun pre A B row hh hg hr => ⟨row_kept hh.1 hg hr, hh.2.kept hg hr⟩) _) (ownFrom_below (Nat.le_refl _) (by omega)))
    (fun _ _ _ _ _ hh _ _ => hh)
    ⟨⟨qR, q7⟩, h20⟩
    (fun x a' X => ∃ G, a' = { tmps := #[V.vsl s a, .slice ao l.length cap, .pointer (some ⟨w.heap.size, 0, none⟩), undef, .slice none 0 0, .int .i64 0, .int .i64 (P.allE s l), .pointer (some ⟨wA.heap.size + 1, 0, none⟩), .pointer (some ⟨G, 0, none⟩), undef, .agg #[.int .i64 s.legs, .int .i64 s.souls, .slice a.cao s.cs.length a.cc, .slice a.bao s.bs.length a.bc], .slice ao l.length cap, .int .i64 (P.allE s l), .int .i64 (P.allE s l), .bool false, undef, .pointer (some ⟨w.heap.size, 0, none⟩), .int .i64 n, .slice (some ⟨wA.heap.size, 0, none⟩) n n, .slice ao l.length cap, V.seq (wA.heap.size + 1 + 1) (wA.heap.size + 1 + 1 + 1), V.bkv x.1, undef, undef, undef, undef, undef, undef, undef, undef, undef, undef, undef, undef, undef, undef, undef, undef, undef, undef, undef, undef, undef], defers := [] } ∧ BBox X G x.1.1 x.1.2.1 x.1.2.2 ∧ wA.heap.size < G)
    (fun x a' => Own.from (fun _ A B row hh hg hr => by obtain ⟨G, h1, h2, h3⟩ := hh; exact ⟨G, h1, h2.kept hg hr, h3⟩) _)
    ?assign ?body ?done ?stop
  case assign =>
    rintro lx pre ⟨⟨x, fo, fc⟩, ht⟩ X K ⟨⟨hR, h7⟩, hB⟩ hK
    have hXl := h7.lt
    have hba : Below X.heap.size X (X.alloc (.cells #[.int .i64 x.id, .int .i64 x.kind, .int .i64 x.state, .int .i64 x.guests, .bool x.level, .int .i64 x.cabin, .int .i64 x.cat, .int .i64 x.frm, .int .i64 x.to, .int .i64 x.til, .slice fo x.fol.length fc] 30)) := by go_grown
    have hfin := hK { tmps := (fun (x : BkO s) (G : Nat) => (#[V.vsl s a, .slice ao l.length cap, .pointer (some ⟨w.heap.size, 0, none⟩), undef, .slice none 0 0, .int .i64 0, .int .i64 (P.allE s l), .pointer (some ⟨wA.heap.size + 1, 0, none⟩), .pointer (some ⟨G, 0, none⟩), undef, .agg #[.int .i64 s.legs, .int .i64 s.souls, .slice a.cao s.cs.length a.cc, .slice a.bao s.bs.length a.bc], .slice ao l.length cap, .int .i64 (P.allE s l), .int .i64 (P.allE s l), .bool false, undef, .pointer (some ⟨w.heap.size, 0, none⟩), .int .i64 n, .slice (some ⟨wA.heap.size, 0, none⟩) n n, .slice ao l.length cap, V.seq (wA.heap.size + 1 + 1) (wA.heap.size + 1 + 1 + 1), V.bkv x.1, undef, undef, undef, undef, undef, undef, undef, undef, undef, undef, undef, undef, undef, undef, undef, undef, undef, undef, undef, undef, undef] : Array Value)) ⟨(x, fo, fc), ht⟩ X.heap.size, defers := [] } _ (keeps_below _ hba) (kept_below (by omega) hba) ⟨⟨hR.of_block (hba.block _ hR.lt), h7.below hba⟩, hB.trans (hba.mono (by omega))⟩ ⟨X.heap.size, rfl, BBox.new X x fo fc, by omega⟩
    clear hK h7 hR hB hba
    gi_wp2
    exact hfin
  case body =>
    rintro lx pre ⟨⟨x, fo, fc⟩, ht⟩ a' X hlx _ ⟨⟨hR, h7⟩, hB⟩ ⟨G, rfl, hbx, hG⟩ hpl
    have HBD : Aside (∀ j : Int, 0 ≤ P.soulA j (pre.map P.bkO) ∧ P.soulA j (pre.map P.bkO) ≤ 4 * (pre.length : Int)) := fun j => soulA_bd j pre
    have HMP : Aside (∀ j : Int, P.soulA j ((pre ++ [(⟨(x, fo, fc), ht⟩ : BkO s)]).map P.bkO) = P.soulA j (pre.map P.bkO) + P.onAny j x) := fun j => by rw [List.map_append]; exact soulA_snoc j _ x
    obtain ⟨hchk, hg1, hg4, _⟩ := bk_ok ht
    simp only at hchk hg1 hg4 hbx
    have hz := Sp.chk_zero hchk
    obtain ⟨f, hf⟩ : ∃ f : Nat, x.frm = f := ⟨x.frm.toNat, by omega⟩
    obtain ⟨t, htt⟩ : ∃ t : Nat, x.to = t := ⟨x.to.toNat, by omega⟩
    have hft : f < t := by omega
    have htn : t ≤ n := by have := HNL.out; omega
    have HON : Aside (∀ j : Nat, P.onAny j x = if f ≤ j ∧ j < t then x.guests else 0) := fun j => by
      unfold P.onAny
      by_cases e : f ≤ j ∧ j < t
      · rw [if_pos e, if_pos (by rw [hf, htt]; simp [P.btw]; omega)]
      · rw [if_neg e, if_neg (by rw [hf, htt]; simp [P.btw]; omega)]
    have HBX : Aside (BBox X G x fo fc) := hbx
    have HF : Aside (x.frm = f ∧ x.to = t) := ⟨hf, htt⟩
    have hXl := h7.lt
    obtain ⟨x0, x1, x2, x3, x4, x5, x6, x7, x8, x9, x10⟩ := hbx
    rw [hf] at x7
    rw [htt] at x8
    clear hf htt hz hchk
    gi_wp2
    gi_loopw [9] (fun i wr => ∃ (k : Nat), f ≤ k ∧ k ≤ t ∧ i = .int .i64 k ∧ wr.rowIs wA.heap.size 3 n (fun j => .int .i64 (P.soulA (j : Nat) (pre.map P.bkO) + if f ≤ j ∧ j < k then x.guests else 0)) ∧ Box1 wr (wA.heap.size + 1) (.slice (some ⟨wA.heap.size, 0, none⟩) n n) ∧ BBox wr G x fo fc ∧ Fo.Kept wA.heap.size (wA.heap.size + 1 + 1 + 1) X wr ∧ KeepsFrom W0.heap.size X wr ∧ Below wA.heap.size wA wr)
      (fun i _ => t - (intOf i).toNat)
    case atStart => exact ⟨f, Nat.le_refl _, by omega, rfl, hR.congr (fun j _ => by rw [if_neg (by omega)]; simp), h7, HBX.out, ⟨Below.refl _ _, fun v hv => hv⟩, KeepsFrom.refl _ _, hB⟩
    case round =>
      clear x0 x1 x2 x3 x4 x5 x6 x7 x8 x9 x10 hR h7 HBX hB
      obtain ⟨k, hfk, hkt, rfl, hR, h7, hbx, hKp, hKf, hB⟩ := hrel
      have HBX : Aside (BBox wr G x fo fc) := hbx
      have HR : Aside (wr.rowIs wA.heap.size 3 n (fun j => .int .i64 (P.soulA (j : Nat) (pre.map P.bkO) + if f ≤ j ∧ j < k then x.guests else 0))) := hR
      have H7 : Aside (Box1 wr (wA.heap.size + 1) (.slice (some ⟨wA.heap.size, 0, none⟩) n n)) := h7
      have hRl := hR.lt
      obtain ⟨x0, x1, x2, x3, x4, x5, x6, x7, x8, x9, x10⟩ := hbx
      rw [HF.out.2] at x8
      obtain ⟨c7, f7⟩ := h7
      by_cases hlt : k < t
      · have hkn : k < n := by omega
        have hkn' : (k : Int) < n := by omega
        have hce : wr.cell? ⟨wA.heap.size, k, none⟩ = some (.int .i64 (P.soulA (k : Nat) (pre.map P.bkO))) := by rw [hR.cell hkn, if_neg (by omega)]; simp
        have hfr := hR.frozen k
        obtain ⟨y1, y2⟩ := HBD.out k
        generalize hy : P.soulA (k : Nat) (pre.map P.bkO) = y at hce y1 y2
        have HY : Aside (P.soulA (k : Nat) (pre.map P.bkO) = y) := hy
        have b7 := H7.out.far (g' := wA.heap.size) (by omega) k (.int .i64 (y + x.guests))
        have bX := HBX.out.far (g' := wA.heap.size) (by omega) k (.int .i64 (y + x.guests))
        have HN7 : Aside (Box1 (wr.setCell ⟨wA.heap.size, k, none⟩ (.int .i64 (y + x.guests))).drew (wA.heap.size + 1) (.slice (some ⟨wA.heap.size, 0, none⟩) n n)) := ⟨b7.c, b7.f⟩
        have HNX : Aside (BBox (wr.setCell ⟨wA.heap.size, k, none⟩ (.int .i64 (y + x.guests))).drew G x fo fc) := ⟨bX.c0, bX.c1, bX.c2, bX.c3, bX.c4, bX.c5, bX.c6, bX.c7, bX.c8, bX.c9, bX.c10⟩
        clear hy hR x0 x1 x2 x4 x5 x6 x7 x9 x10 b7 bX
        gi_wp2
        gi_region
        all_goals
          gi_wp2
          go_roundw
          case rel =>
            refine ⟨k + 1, by omega, by omega, by go_num, ?_, HN7.out, HNX.out, hKp.t ((kept_row wr k (Nat.le_refl _) (by omega) _).t ⟨(Below.refl _ _).drew, fun v hv => hv⟩), hKf.trans (((KeepsOthers.setCell _ _ _).trans (KeepsOthers.drew _)).from _), (hB.setCell (p := ⟨wA.heap.size, k, none⟩) (Nat.le_refl _) _).drew⟩
            have hfin : (wr.setCell ⟨wA.heap.size, k, none⟩ (.int .i64 (y + x.guests))).rowIs wA.heap.size 3 n (fun j => .int .i64 (P.soulA (j : Nat) (pre.map P.bkO) + if f ≤ j ∧ j < k + 1 then x.guests else 0)) :=
              (HR.out.set k (.int .i64 (y + x.guests))).congr (fun j hj => by
                by_cases e : j = k
                · subst e; rw [if_pos rfl, HY.out, if_pos (by omega)]
                · have e2 : (f ≤ j ∧ j < k + 1) = (f ≤ j ∧ j < k) := by rw [eq_iff_iff]; omega
                  rw [if_neg e]; simp only [e2])
            exact hfin
          case measure => simp [intOf]; omega
      · obtain rfl : k = t := by omega
        have hfin : wr.rowIs wA.heap.size 3 n (fun j => .int .i64 (P.soulA (j : Nat) ((pre ++ [(⟨(x, fo, fc), ht⟩ : BkO s)]).map P.bkO))) := hR.congr (fun j hj => by rw [HMP.out, HON.out])
        have HFin : Aside (wr.rowIs wA.heap.size 3 n (fun j => .int .i64 (P.soulA (j : Nat) ((pre ++ [(⟨(x, fo, fc), ht⟩ : BkO s)]).map P.bkO)))) := hfin
        clear hfin hR
        gi_wp2
        exact ⟨hKf, hKp, ⟨HFin.out, H7.out⟩, hB⟩
  case done =>
    rintro D ys X hD rfl ⟨⟨hR, h7⟩, hB⟩ hK
    have hDl : D < X.heap.size := (Array.getElem?_eq_some_iff.1 hK).1
    have hR' : X.rowIs wA.heap.size 3 n (fun j => .int .i64 (P.soul (j : Nat) l)) := hR.congr (fun j _ => by rw [filter_O, HM.out, soulA_live])
    have hown : Ma.OwnI X wA.heap.size (.slice (some ⟨wA.heap.size, 0, none⟩) n n) (P.soulsL n l) := Ma.own_of_row (n := n) (hR'.congr fun i hi => by rw [souls_get hi]) (Nat.le_refl _) (souls_len n l) (by unfold maxLen; omega)
    have hints : IntsAt X (some ⟨wA.heap.size, 0, none⟩) n (P.soulsL n l) := by
      obtain ⟨ao2, cap2, e2, hh⟩ := Ma.OwnI.at hown
      rw [souls_len] at e2
      simp only [Value.slice.injEq] at e2
      obtain ⟨rfl, -, rfl⟩ := e2
      exact hh
    have hcf := Ma.containsFunc_any (some ⟨wA.heap.size, 0, none⟩) n (P.soulsL n l) 25 #[] (fun x => decide (60 < x)) X hints souls1_calls (fun x wx _ _ => souls1_any x wx)
    rw [souls_len] at hcf
    have HCF : Aside (Calls Try.prog 24 #[.slice (some ⟨wA.heap.size, 0, none⟩) n n, .func (.func 25) #[] #[]] X fun e w' => e = .returned (.bool (P.over (P.soulsL n l))) ∧ Below X.heap.size X w') := hcf
    have HO : Aside (Ma.OwnI X wA.heap.size (.slice (some ⟨wA.heap.size, 0, none⟩) n n) (P.soulsL n l)) := hown
    have HTN : Aside (s.legs.toNat = n) := by show _ = _; rw [HNL.out]; simp
    clear hR hR' hown hints hcf
    obtain ⟨c7, f7⟩ := h7
    have hsA := hBA.size
    gi_wp2_with fail
    refine ⟨trivial, (callsIn_wide.2 HCF.out).mono ?_⟩
    rintro e w2 ⟨rfl, hb2⟩
    have hK2 : w2.heap[D]? = some (.deferred (some [])) := (hb2.block D hDl).trans hK
    have c72 := cellIn hb2 c7
    have HB2 : Aside (Below w.heap.size w (w2.putObj D (.deferred none))) :=
      (hBA.trans ((hB.trans (hb2.mono (by have := hB.size; omega))).mono hsA)).trans (belowK_b (w := w) (Nat.le_refl _) _ D _ _ (by omega) hK2 rfl rfl)
    have HO2 : Aside (Ma.OwnI (w2.putObj D (.deferred none)) wA.heap.size (.slice (some ⟨wA.heap.size, 0, none⟩) n n) (P.soulsL n l)) := by
      have h1 : Ma.OwnI w2 wA.heap.size (.slice (some ⟨wA.heap.size, 0, none⟩) n n) (P.soulsL n l) := Ma.OwnI.below HO.out hb2
      exact owns_kept h1 (grownBy_putObj' _ D (.deferred none)) (fun r e => by cases e; exact ⟨_, hK2, rfl⟩)
    cases ho : P.over (P.soulsL n l)
    · have HE : Aside (P.soE s l = 0 ∧ P.soL s l = P.soulsL n l) := by
        have e : P.soE s l = 0 := by rw [P.soE, if_pos HZ.out, HTN.out, if_neg (by simp [ho])]
        exact ⟨e, by rw [P.soL, if_pos e, HTN.out]⟩
      gi_wp2
      refine ⟨by simp, .inl ⟨_, _, rfl, run_takeDeferred hK2, ?_⟩⟩
      refine ⟨.tuple #[.slice (some ⟨wA.heap.size, 0, none⟩) n n, .int .i64 0], by simp [results, Try.results6, go_sem], ?_⟩
      exact ⟨_, ret2_int HE.out.1.symm, by rw [HE.out.2]; exact owns_ahead HO2.out hsA, HB2.out⟩
    · have HE : Aside (P.soE s l = 2 ∧ P.soL s l = []) := by
        have e : P.soE s l = 2 := by rw [P.soE, if_pos HZ.out, HTN.out, if_pos ho]
        exact ⟨e, by rw [P.soL, if_neg (by rw [e]; decide)]⟩
      gi_wp2
      refine ⟨by simp, .inl ⟨_, _, rfl, run_takeDeferred hK2, ?_⟩⟩
      refine ⟨.tuple #[.slice none 0 0, .int .i64 2], by simp [results, Try.results6, go_sem], ?_⟩
      exact ⟨_, ret2_int HE.out.1.symm, by rw [HE.out.2]; exact World.ownsRow_nil _ _ _ _, HB2.out⟩
  case stop =>
    rintro D c pre X _ _ h _
    exact h.elim

end Go.Proofs.Ytgopdnlmiloipad.Bk
