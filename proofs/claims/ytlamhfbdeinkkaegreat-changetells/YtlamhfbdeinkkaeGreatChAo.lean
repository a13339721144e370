/- Package change, the reference: liveAt, setBooking. -/
import Derived.Test.YtlamhfbdeinkkaeGreatSeYo
import Derived.Test.YtlamhfbdeinkkaeGreatAnCo
import Derived.Test.YtlamhfbdeinkkaeGreatStXo
import Derived.Test.YtlamhfbdeinkkaeGreatSeAo
import Derived.Deep.MidRow
import Derived.Test.YtlamhfbdeinkkaeGreatTwAo
namespace Go.Proofs.YtlamhfbdeinkkaeGreat.St
open Go.RowKit Bk
set_option linter.unusedSimpArgs false
set_option linter.unusedVariables false
set_option maxRecDepth 10000

/-- The place of a live booking of a number. -/
def P.LiveIs (l : List Bkg) (id n : Int) : Prop := (∃ (k : Nat) (b : Bkg), n = k ∧ l[k]? = some b ∧ b.id = id ∧ b.state ≠ 3) ∨ (n = -1 ∧ ∀ b ∈ l, b.id = id → b.state = 3)
theorem LiveIs.one {l : List Bkg} {id n m : Int} (hr : l.Pairwise (fun a b => a.id < b.id)) (h : P.LiveIs l id n) (h' : P.LiveIs l id m) : n = m := by
  rcases h with ⟨k, b, rfl, h1, h2, h3⟩ | ⟨rfl, h1⟩ <;> rcases h' with ⟨k', b', rfl, g1, g2, g3⟩ | ⟨rfl, g1⟩
  · obtain ⟨hk, e1⟩ := List.getElem?_eq_some_iff.1 h1
    obtain ⟨hk', e2⟩ := List.getElem?_eq_some_iff.1 g1
    have hp := List.pairwise_iff_getElem.1 hr
    rcases Nat.lt_trichotomy k k' with hlt | rfl | hlt
    · have := hp k k' hk hk' hlt
      rw [e1, e2] at this
      omega
    · rfl
    · have := hp k' k hk' hk hlt
      rw [e1, e2] at this
      omega
  · exact absurd (g1 b (List.mem_of_getElem? h1) h2) h3
  · exact absurd (h1 b' (List.mem_of_getElem? g1) g2) g3
  · rfl

set_option maxHeartbeats 2000000 in
theorem liveAt_any (x : Sail) (a : SailA) (id : Int) (w : World) (hs : SailAt w x a) (hr : x.bks.Pairwise (fun a b => a.id < b.id)) (h16 : x.bks.length ≤ 16) :
    Calls Tryz.prog 77 #[V.sail x a, .int .i64 id] w fun e w' => ∃ n, e = .returned (.int .i64 n) ∧ P.LiveIs x.bks id n ∧ Below w.heap.size w w' := by
  have hle := hs.bks.le
  have hmx := hs.bks.max
  unfold maxLen at hmx
  have HS : Aside (SailAt w x a) := hs
  have HR : Aside (x.bks.Pairwise (fun a b => a.id < b.id)) := hr
  have hb0 := sail_below w x a
  have HX0 : Aside (SRow (W.sail w x a) w.heap.size x a) := RowIs.new w _ _
  clear hs hr
  obtain ⟨d0, d1, d2, d3, d4, d5, d6, d7, d8, d9, d10, d11, d12⟩ := SRow.box HX0.out
  go_enter Tryz.func77, Tryz.ntmps77
  go_wp2_with fail
  refine (bookingAt_any x a id _ (HS.out.below hb0)).mono ?_
  rintro e w1 ⟨rfl, hb1⟩
  have hB1 := bvia hb0 hb1
  have HX1 : Aside (SRow w1 w.heap.size x a) := HX0.out.below hb1
  clear d0 d1 d2 d3 d4 d5 d6 d7 d8 d9 d10 d11 d12 HX0 hb0 hb1
  by_cases hex : ∃ b ∈ x.bks, b.id = id
  · obtain ⟨k, hk, hkl, b, hget, hid⟩ := bat_at 0 hex
    have hk' : P.bat id 0 x.bks = (k : Int) := by simpa using hk
    rw [hk']
    obtain ⟨b2, o2, y, fo2, fc2, hao2, hbw2, hd2, ⟨y0, y1, y2, y3, y4, y5, y6, y7, y8, y9, y10⟩, hfy2⟩ := BksAt.get HS.out.bks hB1 k hkl
    have hyy : y = b := by
      have h0 : x.bks[k]? = some y := by
        have := congrArg (fun l => l[0]?) hd2
        simpa using this
      rw [hget] at h0
      exact (Option.some.inj h0).symm
    subst hyy
    have d11 : w1.cell? ⟨w.heap.size, 11, none⟩ = some (.slice a.ao x.bks.length a.cap) := HX1.out.cell 11
    rw [hao2] at d11
    have hkl2 : (k : Int) < x.bks.length := by omega
    have HG : Aside (x.bks[k]? = some y ∧ y.id = id) := ⟨hget, hid⟩
    clear hex hk hget hid hd2 hao2 hfy2 hk'
    cases hst : (y.state == 3)
    · have HN : Aside (¬ y.state = 3) := by show ¬ _; simpa using hst
      go_wp2
      go_ret
      exact ⟨k, rfl, .inl ⟨k, y, rfl, HG.out.1, HG.out.2, HN.out⟩, hB1⟩
    · have HN : Aside (y.state = 3) := by show _ = _; simpa using hst
      go_wp2
      go_ret
      exact ⟨-1, rfl, .inr ⟨rfl, fun b' hb' hid' => by
        have := id_one HR.out hb' (List.mem_of_getElem? HG.out.1) (hid'.trans HG.out.2.symm)
        rw [this]
        exact HN.out⟩, hB1⟩
  · have hba : P.bat id 0 x.bks = -1 := bat_neg.2 (fun b hb e => hex ⟨b, hb, e⟩)
    have HNE : Aside (¬ ∃ b ∈ x.bks, b.id = id) := hex
    rw [hba]
    clear hba hex
    go_wp2
    go_ret
    exact ⟨-1, rfl, .inr ⟨rfl, fun b hb e => absurd ⟨b, hb, e⟩ HNE.out⟩, hB1⟩

end Go.Proofs.YtlamhfbdeinkkaeGreat.St
namespace Go.Proofs.YtlamhfbdeinkkaeGreat.St
open Go.RowKit Bk
set_option linter.unusedSimpArgs false
set_option linter.unusedVariables false
set_option maxRecDepth 10000

theorem wpList_stQ {ops : Array Oper} {rest : List Oper} {act : Act} {Q : Exit → Act → World → Prop} {w : World} {ty tt : TypeId} {x y : Operand} {pos : String} {af : Array Edge}
    (g : Nat) (old cells : Array Value) (hty : (Tryz.prog.info? ty).map (·.size) = some cells.size) (hx : act.eval x = .pointer (some ⟨g, 0, none⟩)) (hy : act.eval y = .agg cells) (hb : RowIs w g old) (hsz : old.size = cells.size) (h1 : cells.all (·.oneCell') = true)
    (h : ∀ w', RowIs w' g cells → w.grownBy w' (some g) → wpList Tryz.prog ops Q rest (act.put none undef) w') : wpList Tryz.prog ops Q ({ dst := none, op := .store ty x y, type := tt, pos := pos, after := af, guard := none } :: rest) act w :=
  wpList_stC rfl ty x y rfl g old cells hty hx hy hb hsz h1 h
theorem own_row {w : World} {base G cap n : Nat} {lv : List BkV} (h : OwnB w base (.slice (some ⟨G, 0, none⟩) n cap) lv) (hn : lv.length = n) (h0 : 0 < n) : ∃ cur, w.heap[G]? = some (.cells cur 37 (0, 0)) ∧ cur.size = cap * 11 ∧ n ≤ cap ∧ base ≤ G := by
  obtain ⟨hx, h2⟩ := h
  rcases h2 with ⟨h3, _⟩ | ⟨g', cap', cur, hv, hgb, hh, hn', hcm, hsz, htk⟩
  · simp at h3
  · simp only [Value.slice.injEq, Option.some.injEq, Addr.mk.injEq, and_true] at hv
    obtain ⟨rfl, rfl, rfl⟩ := hv
    exact ⟨cur, hh, hsz, hn', hgb⟩
theorem own_there {w : World} {base G cap n k : Nat} {lv : List BkV} (h : OwnB w base (.slice (some ⟨G, 0, none⟩) n cap) lv) (hn : lv.length = n) (hk : k < n) : w.there G (k * 11) 11 := by
  obtain ⟨cur, h1, h2, h3, _⟩ := own_row h hn (by omega)
  intro j hj
  have hlt : k * 11 + j < cur.size := by omega
  refine ⟨?_, by simp [World.frozen?, h1]⟩
  rw [cell_of_row w G (k * 11 + j) cur _ (0, 0) h1, Array.getElem?_eq_getElem hlt]
  rfl
theorem own_form {w : World} {base n : Nat} {v : Value} {lv : List BkV} (h : OwnB w base v lv) (hn : lv.length = n) (h0 : 0 < n) : ∃ G cap, v = .slice (some ⟨G, 0, none⟩) n cap ∧ base ≤ G ∧ G < w.heap.size := by
  obtain ⟨hx, h2⟩ := h
  rcases h2 with ⟨h3, h4⟩ | ⟨g', cap', cur, hv, hgb, hh, hn', hcm, hsz, htk⟩
  · simp at h4
    subst h4
    simp at hn
    omega
  · exact ⟨g', cap', by rw [hv, hn], hgb, (Array.getElem?_eq_some_iff.1 hh).1⟩
/-- A store of one element. -/
theorem wpList_stE {ops : Array Oper} {rest : List Oper} {act : Act} {Q : Exit → Act → World → Prop} {w : World} {ty tt : TypeId} {x y : Operand} {pos : String} {af : Array Edge}
    (G k n cap base : Nat) (lv : List BkV) (z : BkV) (hty : (Tryz.prog.info? ty).map (·.size) = some 11) (hx : act.eval x = .pointer (some ⟨G, k * 11, none⟩)) (hy : act.eval y = .agg (cellsV z).toArray) (hO : OwnB w base (.slice (some ⟨G, 0, none⟩) n cap) lv) (hn : lv.length = n) (hk : k < n)
    (h : ∀ w', OwnB w' base (.slice (some ⟨G, 0, none⟩) n cap) (lv.set k z) → w.grownBy w' (some G) → wpList Tryz.prog ops Q rest (act.put none undef) w') : wpList Tryz.prog ops Q ({ dst := none, op := .store ty x y, type := tt, pos := pos, after := af, guard := none } :: rest) act w := by
  have hl : (cellsV z).toArray.size = 11 := by rw [List.size_toArray]; exact cellsV_len z
  subst hn
  have hp := own_put cellsV_len cellsV_one hO k z hk
  rw [List.length_set] at hp
  refine wpList_store_mid rfl ty x y rfl G (k * 11) (cellsV z).toArray hx hy (by rw [hl]; exact own_there hO rfl hk) (by rw [hl]; exact hty) (all_oneCell_toArray (cellsV_one z)) ?_
  exact h _ hp.1 hp.2

theorem setB_row {w1 : World} {g G cap i : Nat} {x : Sail} {a : SailA} {b : Bkg} (h : SRow w1 g x a) (hl : (x.bks.set i b).length = x.bks.length) : SRow (w1.setCell ⟨g, 11, none⟩ (.slice (some ⟨G, 0, none⟩) x.bks.length cap)) g (P.setB x (x.bks.set i b)) ⟨a.v, a.lo, a.bo, a.lc, a.bc, some ⟨G, 0, none⟩, cap⟩ := by
  have h2 := RowIs.set (k := 11) h (.slice (some ⟨G, 0, none⟩) x.bks.length cap)
  have e : (C.sail x a).setIfInBounds 11 (.slice (some ⟨G, 0, none⟩) x.bks.length cap) = C.sail (P.setB x (x.bks.set i b)) ⟨a.v, a.lo, a.bo, a.lc, a.bc, some ⟨G, 0, none⟩, cap⟩ := by
    show _ = #[_, _, _, _, _, _, _, _, _, _, _, Value.slice _ (x.bks.set i b).length _, _]
    rw [hl]
    rfl
  rwa [e] at h2
set_option maxHeartbeats 8000000 in
theorem setBooking_own (x : Sail) (a : SailA) (lv : List BkV) (i : Nat) (b : Bkg) (fo : Option Addr) (fc : Nat) (w : World) (hlv : lv.map (·.1) = x.bks) (hl : SlAt (RC cellsV) 11 w a.ao a.cap lv) (h16 : x.bks.length ≤ 16) (hi : i < x.bks.length) :
    Calls Tryz.prog 78 #[V.sail x a, .int .i64 i, V.bk b fo fc] w fun e w' => ∃ G cap, e = .returned (V.sail (P.setB x (x.bks.set i b)) ⟨a.v, a.lo, a.bo, a.lc, a.bc, some ⟨G, 0, none⟩, cap⟩) ∧ OwnB w' w.heap.size (.slice (some ⟨G, 0, none⟩) x.bks.length cap) (lv.set i (b, fo, fc)) ∧ Below w.heap.size w w' := by
  have hn : lv.length = x.bks.length := by rw [← hlv]; simp
  have HN : Aside (lv.length = x.bks.length) := hn
  have HPL : Aside (SlAt (RC cellsV) 11 w a.ao a.cap lv) := hl
  have hb0 : Below w.heap.size w ((W.bk (W.sail w x a) b fo fc).alloc O.zs) := bvia (sail_below w x a) (bvia (bk_below _ b fo fc) (al _ _))
  have HX0 : Aside (SRow ((W.bk (W.sail w x a) b fo fc).alloc O.zs) w.heap.size x a) := ((RowIs.new w _ _ : SRow (W.sail w x a) w.heap.size x a).below (bk_below _ b fo fc)).below (al _ _)
  have HY0 : Aside (RowIs ((W.bk (W.sail w x a) b fo fc).alloc O.zs) (w.heap.size + 1) (C.bk b fo fc)) := by
    have := (RowIs.new (W.sail w x a) (C.bk b fo fc) 37).below (al _ O.zs)
    rwa [World.size_alloc] at this
  have HZ0 : Aside (RowIs ((W.bk (W.sail w x a) b fo fc).alloc O.zs) (w.heap.size + 1 + 1) C.zs) := by
    have := RowIs.new (W.bk (W.sail w x a) b fo fc) C.zs 32
    rwa [World.size_alloc, World.size_alloc] at this
  clear hlv hl hn
  obtain ⟨d0, d1, d2, d3, d4, d5, d6, d7, d8, d9, d10, d11, d12⟩ := SRow.box HX0.out
  obtain ⟨z0, z1, z2, z3, z4, z5, z6, z7, z8, z9, z10⟩ := HY0.out.bbox
  go_enter Tryz.func78, Tryz.ntmps78
  have hOE : Aside (OwnB (((W.bk (W.sail w x a) b fo fc).alloc O.zs).alloc (.cells #[] 37)) (w.heap.size + 1 + 1 + 1) (.slice (some ⟨w.heap.size + 1 + 1 + 1, 0, none⟩) 0 0) []) := by
    have := OwnC.empty (cells := cellsV) (size := 11) (e := 37) ((W.bk (W.sail w x a) b fo fc).alloc O.zs) (w.heap.size + 1 + 1 + 1) (by simp)
    have hz : ((W.bk (W.sail w x a) b fo fc).alloc O.zs).heap.size = w.heap.size + 1 + 1 + 1 := by simp
    rw [hz] at this
    exact this
  have hE4 : Below w.heap.size w (((W.bk (W.sail w x a) b fo fc).alloc O.zs).alloc (.cells #[] 37)) := bvia hb0 (al _ _)
  have HPL4 : Aside (SlAt (RC cellsV) 11 (((W.bk (W.sail w x a) b fo fc).alloc O.zs).alloc (.cells #[] 37)) a.ao a.cap lv) := SlAt.below (RC.mono _) HPL.out hE4
  have HLS : Aside ((x.bks.set i b).length = x.bks.length) := by show _ = _; simp
  go_wp2_with (first
    | (at_builtin; refine wpList_app_many Tryz.infoBk Tryz.underlying30 rfl (by decide) cellsV_len cellsV_one (by decide) rfl _ _ (by rfl) (w.heap.size + 1 + 1 + 1) (.slice (some ⟨w.heap.size + 1 + 1 + 1, 0, none⟩) 0 0) [] a.ao a.cap lv (by rfl) hOE.out (by show _ = Value.slice _ lv.length _; rw [HN.out]; rfl) HPL4.out (by simp) (by simp) (by rw [HN.out]; omega) ?_; intro v1 w1 own1 gr1; obtain ⟨G, cap, hv1, hG1, hG2⟩ := own_form own1 (by simpa using HN.out) (show 0 < x.bks.length by omega); subst hv1; have HX1 : Aside (SRow w1 w.heap.size x a) := (HX0.out.below (al _ _)).gr gr1 (fun e => by have h : some (w.heap.size) = some (w.heap.size + 1 + 1 + 1) := e; have := Option.some.inj h; omega); have HY1 : Aside (RowIs w1 (w.heap.size + 1) (C.bk b fo fc)) := (HY0.out.below (al _ _)).gr gr1 (fun e => by have h : some (w.heap.size + 1) = some (w.heap.size + 1 + 1 + 1) := e; have := Option.some.inj h; omega); have HZ1 : Aside (RowIs w1 (w.heap.size + 1 + 1) C.zs) := (HZ0.out.below (al _ _)).gr gr1 (fun e => by have h : some (w.heap.size + 1 + 1) = some (w.heap.size + 1 + 1 + 1) := e; have := Option.some.inj h; omega); have HO1 : Aside (OwnB w1 (w.heap.size + 1 + 1 + 1) (.slice (some ⟨G, 0, none⟩) x.bks.length cap) lv) := own1; have hB1 : Below w.heap.size w w1 := hE4.grown gr1 hE4.size (fun j hj => (by have h : some (w.heap.size + 1 + 1 + 1) = some j := hj; have := Option.some.inj h; omega)); have HO2 : Aside (OwnB (w1.setCell ⟨w.heap.size, 11, none⟩ (.slice (some ⟨G, 0, none⟩) x.bks.length cap)) (w.heap.size + 1 + 1 + 1) (.slice (some ⟨G, 0, none⟩) x.bks.length cap) lv) := OwnC.apart HO1.out (grown_set w1 w.heap.size 11 _) (fun r e hv => (by cases e; have := (HO1.out.lt _ hv).1; omega)); clear d0 d1 d2 d3 d4 d5 d6 d7 d8 d9 d10 d11 d12 z0 z1 z2 z3 z4 z5 z6 z7 z8 z9 z10 own1 gr1; obtain ⟨d0, d1, d2, d3, d4, d5, d6, d7, d8, d9, d10, d11, d12⟩ := SRow.box HX1.out; obtain ⟨z0, z1, z2, z3, z4, z5, z6, z7, z8, z9, z10⟩ := HY1.out.bbox; have f11 := HX1.out.free 11; have hx1 : w.heap.size < w1.heap.size := HX1.out.lt; have hGw : G ≠ w.heap.size := (by omega))
    | ((with_reducible refine wpList_stE G i x.bks.length cap (w.heap.size + 1 + 1 + 1) lv (b, fo, fc) ?_ ?_ ?_ ?_ ?_ ?_ ?_); exact Tryz.sizeBg; rfl; rfl; exact HO2.out; exact HN.out; exact hi; intro w3 own3 gr3; have HX3 : Aside (SRow w3 w.heap.size (P.setB x (x.bks.set i b)) ⟨a.v, a.lo, a.bo, a.lc, a.bc, some ⟨G, 0, none⟩, cap⟩) := (setB_row HX1.out HLS.out).gr gr3 (by simp; omega); have HZ3 : Aside (RowIs w3 (w.heap.size + 1 + 1) C.zs) := (HZ1.out.gr (grown_set w1 w.heap.size 11 _) (by simp; omega)).gr gr3 (by simp; omega); have hB3 : Below w.heap.size w w3 := below_gr (below_gr hB1 hB1.size (grown_set w1 w.heap.size 11 _) (by omega)) (by have := hB1.size; simp [World.setCell]; omega) gr3 (by omega); clear d0 d1 d2 d3 d4 d5 d6 d7 d8 d9 d10 d11 d12 z0 z1 z2 z3 z4 z5 z6 z7 z8 z9 z10 f11; obtain ⟨k0, k1, k2, k3, k4, k5, k6, k7, k8, k9, k10, k11, k12⟩ := SRow.box HX3.out)
    | ((with_reducible refine wpList_stQ (w.heap.size + 1 + 1) C.zs (C.sail (P.setB x (x.bks.set i b)) ⟨a.v, a.lo, a.bo, a.lc, a.bc, some ⟨G, 0, none⟩, cap⟩) ?_ ?_ ?_ HZ3.out ?_ ?_ ?_); exact Tryz.sizeSail; rfl; rfl; rfl; exact sail_one _ _; intro w9 hr9 hg9))
  exact bodyPost_ret (res1 rfl hr9 _ rfl Tryz.underlying32 rfl Tryz.sizeSail) rfl ⟨G, cap, rfl, OwnC.ahead (OwnC.apart own3 hg9 (fun r e hv => by cases e; have := (own3.lt _ hv).1; omega)) (by omega), below_gr hB3 hB3.size hg9 (by omega)⟩

end Go.Proofs.YtlamhfbdeinkkaeGreat.St
namespace Go.Proofs.YtlamhfbdeinkkaeGreat.St
open Go.RowKit Bk
set_option linter.unusedSimpArgs false
set_option linter.unusedVariables false
set_option maxRecDepth 10000

/-- One booking is changed as T says: the errno and the sailing. -/
def P.Ch (x : Sail) (id : Int) (T : Bkg → Int → Bkg → Prop) (r : Int) (y : Sail) : Prop :=
  (P.LiveIs x.bks id (-1) ∧ r = 5 ∧ y = P.zeroS) ∨
  ∃ (k : Nat) (b : Bkg), P.LiveIs x.bks id k ∧ x.bks[k]? = some b ∧ ∃ e b', T b e b' ∧ ((¬ e = 0 ∧ r = e ∧ y = P.zeroS) ∨ (e = 0 ∧ r = 0 ∧ y = P.setB x (x.bks.set k b')))
theorem Ch.one {x : Sail} {id : Int} {T : Bkg → Int → Bkg → Prop} {r r' : Int} {y y' : Sail} (hr : x.bks.Pairwise (fun a b => a.id < b.id)) (hT : ∀ b e b' e' b'', T b e b' → T b e' b'' → e = e' ∧ (e = 0 → b' = b'')) (h : P.Ch x id T r y) (h' : P.Ch x id T r' y') : r = r' ∧ y = y' := by
  rcases h with ⟨h1, rfl, rfl⟩ | ⟨k, b, h1, h2, e, b', h3, h4⟩ <;> rcases h' with ⟨g1, rfl, rfl⟩ | ⟨k', c, g1, g2, e', c', g3, g4⟩
  · exact ⟨rfl, rfl⟩
  · have := LiveIs.one hr h1 g1; omega
  · have := LiveIs.one hr h1 g1; omega
  · have hk := LiveIs.one hr h1 g1
    obtain rfl : k = k' := by omega
    rw [h2] at g2
    obtain rfl := Option.some.inj g2
    obtain ⟨e1, e2⟩ := hT _ _ _ _ _ h3 g3
    subst e1
    rcases h4 with ⟨a1, rfl, rfl⟩ | ⟨rfl, rfl, rfl⟩ <;> rcases g4 with ⟨c1, rfl, rfl⟩ | ⟨c1, rfl, rfl⟩
    · exact ⟨rfl, rfl⟩
    · exact absurd c1 a1
    · exact absurd rfl c1
    · rw [e2 rfl]; exact ⟨rfl, rfl⟩
/-- What setBooking answers lies there, whatever is written between. -/
theorem setB_tw {w0 w w9 : World} {x : Sail} {a : SailA} {lv : List BkV} {k G cap N : Nat} {b : Bkg} {fo : Option Addr} {fc : Nat} (hs : SailAt w0 x a) (h0 : Below w0.heap.size w0 w) (hlv : lv.map (·.1) = x.bks) (hle : BkVsAt w0 a.ao a.cap lv) (own : OwnB w9 N (.slice (some ⟨G, 0, none⟩) x.bks.length cap) (lv.set k (b, fo, fc))) (hN : w.heap.size ≤ N) (hB : Below w.heap.size w w9)
    (he : ∀ U, Twixt w0.heap.size w.heap.size w9 U → Fo.EntsAt U fo fc b.fol) : SailTw w0.heap.size w.heap.size w9 (P.setB x (x.bks.set k b)) ⟨a.v, a.lo, a.bo, a.lc, a.bc, some ⟨G, 0, none⟩, cap⟩ := by
  intro U hU
  have hBU : Below w0.heap.size w0 U := (bvia h0 hB).trans hU.1
  have ownU := OwnC.up own (w' := U) ⟨hU.1.size, fun c h1 h2 => hU.2 c (by omega) h2⟩
  refine ⟨(hs.below hBU).ship, (hs.below hBU).fare, ?_⟩
  have := BkVsAt.all (bkvs_of (own_at cellsV_len ownU) (fun y hy => by
    rcases List.mem_or_eq_of_mem_set hy with h | rfl
    · exact SlAt.below Fo.REnt.mono (hle.ents y h) hBU
    · exact he U hU))
  rw [List.map_set, hlv] at this
  exact this
def P.sureB (b : Bkg) : Bkg := ⟨b.id, b.kind, 2, b.guests, b.level, b.cabin, b.cat, b.frm, b.to, 0, b.fol⟩
def P.sureT (b : Bkg) (e : Int) (b' : Bkg) : Prop := e = (if b.state = 1 then 0 else 4) ∧ (e = 0 → b' = P.sureB b)
theorem sureT_one (b : Bkg) (e : Int) (b' : Bkg) (e' : Int) (b'' : Bkg) (h : P.sureT b e b') (h' : P.sureT b e' b'') : e = e' ∧ (e = 0 → b' = b'') := by
  obtain ⟨h1, h2⟩ := h
  obtain ⟨g1, g2⟩ := h'
  have : e = e' := by rw [h1, g1]
  exact ⟨this, fun h0 => by rw [h2 h0, g2 (by omega)]⟩

set_option maxHeartbeats 8000000 in
theorem sureOf_any (x : Sail) (a : SailA) (id : Int) (w0 w : World) (hb00 : Below w0.heap.size w0 w) (hs0 : SailAt w0 x a) (hE : P.SailE x 0) :
    Calls Tryz.prog 23 #[V.sail x a, .int .i64 id] w fun e w' => ∃ r y a', e = .returned (.tuple #[V.sail y a', .int .i64 r]) ∧ P.Ch x id P.sureT r y ∧ SailTw w0.heap.size w.heap.size w' y a' ∧ Below w.heap.size w w' := by
  have hs : SailAt w x a := hs0.below hb00
  obtain ⟨hp, _, _, _, h16, _⟩ := sail_ok hE
  have hrise := (bksI_rise (pre_zero hp).2.1).2
  have hle := hs.bks.le
  have hmx := hs.bks.max
  unfold maxLen at hmx
  obtain ⟨lv, hlv, hl⟩ := BksAt.pick hs0.bks
  have hln : lv.length = x.bks.length := by rw [← hlv]; simp
  have HS0 : Aside (SailAt w0 x a) := hs0
  have HB00 : Aside (Below w0.heap.size w0 w) := hb00
  have HS : Aside (SailAt w x a) := hs
  have HLV : Aside (lv.map (·.1) = x.bks) := hlv
  have HLE : Aside (BkVsAt w0 a.ao a.cap lv) := hl
  have HLN : Aside (lv.length = x.bks.length) := hln
  have hb0 : Below w.heap.size w ((W.sail w x a).alloc O.zs) := bvia (sail_below w x a) (al _ _)
  have HX0 : Aside (SRow ((W.sail w x a).alloc O.zs) w.heap.size x a) := (RowIs.new w _ _ : SRow (W.sail w x a) w.heap.size x a).below (al _ _)
  have HZ0 : Aside (RowIs ((W.sail w x a).alloc O.zs) (w.heap.size + 1) C.zs) := by
    have := RowIs.new (W.sail w x a) C.zs 32
    rwa [World.size_alloc] at this
  have HR : Aside (x.bks.Pairwise (fun a b => a.id < b.id)) := hrise
  clear hs hs0 hb00 hE hp hrise hlv hl hln
  obtain ⟨d0, d1, d2, d3, d4, d5, d6, d7, d8, d9, d10, d11, d12⟩ := SRow.box HX0.out
  go_enter Tryz.func23, Tryz.ntmps23
  go_wp2_with fail
  refine (liveAt_any x a id _ (HS.out.below hb0) HR.out h16).mono ?_
  rintro e w1 ⟨n, rfl, hn, hb1⟩
  have hB1 := bvia hb0 hb1
  have HX1 : Aside (SRow w1 w.heap.size x a) := HX0.out.below hb1
  have HZ1 : Aside (RowIs w1 (w.heap.size + 1) C.zs) := HZ0.out.below hb1
  have HN : Aside (P.LiveIs x.bks id n) := hn
  clear d0 d1 d2 d3 d4 d5 d6 d7 d8 d9 d10 d11 d12 HX0 HZ0 hb0 hb1
  rcases hn with ⟨k, b, rfl, hget, hid, hst⟩ | ⟨rfl, hno⟩
  rotate_left
  · clear hno
    go_wp2_with ((with_reducible refine wpList_stO (w.heap.size + 1) C.zs (C.sail P.zeroS A.zeroS) ?_ ?_ ?_ HZ1.out ?_ ?_ ?_); exact Tryz.sizeSail; rfl; rfl; rfl; exact sail_one _ _; intro w9 hr9 hg9)
    exact bodyPost_ret (res2 rfl hr9 _ rfl rfl Tryz.underlying32 rfl Tryz.sizeSail) rfl ⟨5, P.zeroS, A.zeroS, rfl, .inl ⟨HN.out, rfl, rfl⟩, SailTw.zero _ _ _, below_gr hB1 hB1.size hg9 (by omega)⟩
  have hkl : k < x.bks.length := (List.getElem?_eq_some_iff.1 hget).1
  obtain ⟨b2, o2, v, hao2, hbw2, hd2, ⟨y0, y1, y2, y3, y4, y5, y6, y7, y8, y9, y10⟩, hfy2⟩ := BkVsAt.get HLE.out (bvia HB00.out hB1) k (by rw [HLN.out]; exact hkl)
  have HVM : Aside (v ∈ lv) := List.mem_of_mem_drop (i := k) (by rw [hd2]; exact List.mem_cons.2 (.inl rfl))
  have hyy : v.1 = b := by
    have h0 : lv[k]? = some v := by
      have := congrArg (fun l => l[0]?) hd2
      simpa using this
    have h1 : (lv.map (·.1))[k]? = some v.1 := by rw [List.getElem?_map, h0]; rfl
    rw [HLV.out, hget] at h1
    exact (Option.some.inj h1).symm
  obtain ⟨vb, fo, fc⟩ := v
  have hyy : vb = b := hyy
  subst hyy
  have HG : Aside (x.bks[k]? = some vb) := hget
  have HST : Aside (vb.state ≠ 3) := hst
  have d11 : w1.cell? ⟨w.heap.size, 11, none⟩ = some (.slice a.ao x.bks.length a.cap) := HX1.out.cell 11
  rw [hao2] at d11
  have hkl2 : (k : Int) < x.bks.length := by omega
  have hx1 : w.heap.size < w1.heap.size := HX1.out.lt
  have hx2 : w.heap.size + 1 < w1.heap.size := HZ1.out.lt
  have HBA : Aside (Below w1.heap.size w1 (W.bk w1 vb fo fc)) := bk_below w1 vb fo fc
  have HAO : Aside (a.ao = some ⟨b2, o2, none⟩) := hao2
  clear hget hid hst hd2 hfy2 hao2
  cases hs1 : (vb.state != 1)
  rotate_left
  · have HNS : Aside (¬ vb.state = 1) := by show ¬ _; simpa using hs1
    have HZ2 : Aside (RowIs (W.bk w1 vb fo fc) (w.heap.size + 1) C.zs) := HZ1.out.below HBA.out
    have hB2 := bvia hB1 HBA.out
    go_wp2_with ((with_reducible refine wpList_stO (w.heap.size + 1) C.zs (C.sail P.zeroS A.zeroS) ?_ ?_ ?_ HZ2.out ?_ ?_ ?_); exact Tryz.sizeSail; rfl; rfl; rfl; exact sail_one _ _; intro w9 hr9 hg9)
    exact bodyPost_ret (res2 rfl hr9 _ rfl rfl Tryz.underlying32 rfl Tryz.sizeSail) rfl ⟨4, P.zeroS, A.zeroS, rfl, .inr ⟨k, vb, HN.out, HG.out, 4, vb, ⟨by rw [if_neg HNS.out], fun h => absurd h (by decide)⟩, .inl ⟨by decide, rfl, rfl⟩⟩, SailTw.zero _ _ _, below_gr hB2 hB2.size hg9 (by omega)⟩
  have HNS : Aside (vb.state = 1) := by show _ = _; simpa using hs1
  have HBB : Aside (Below w1.heap.size w1 (W.bk w1 (P.sureB vb) fo fc)) := bk_below w1 (P.sureB vb) fo fc
  have HX2 : Aside (SRow (W.bk w1 (P.sureB vb) fo fc) w.heap.size x a) := HX1.out.below HBB.out
  have HZ2 : Aside (RowIs (W.bk w1 (P.sureB vb) fo fc) (w.heap.size + 1) C.zs) := HZ1.out.below HBB.out
  have HB2 : Aside (Below w.heap.size w (W.bk w1 (P.sureB vb) fo fc)) := bvia hB1 HBB.out
  clear HBA hB1
  obtain ⟨d0, d1, d2, d3, d4, d5, d6, d7, d8, d9, d10, d11, d12⟩ := SRow.box HX1.out
  go_wp2_with fail
  rw [← HAO.out]
  have HPL : Aside (SlAt (RC cellsV) 11 (W.bk w1 (P.sureB vb) fo fc) a.ao a.cap lv) := BkVsAt.plain (SlAt.below RBkV.mono HLE.out (bvia HB00.out HB2.out))
  refine (setBooking_own x a lv k (P.sureB vb) fo fc (W.bk w1 (P.sureB vb) fo fc) HLV.out HPL.out h16 hkl).mono ?_
  rintro e w3 ⟨G, cap, rfl, own3, hb3⟩
  have HO3 : Aside (OwnB w3 (W.bk w1 (P.sureB vb) fo fc).heap.size (.slice (some ⟨G, 0, none⟩) x.bks.length cap) (lv.set k (P.sureB vb, fo, fc))) := own3
  have HZ3 : Aside (RowIs w3 (w.heap.size + 1) C.zs) := HZ2.out.below hb3
  have hB3 := bvia HB2.out hb3
  have hz3 : w.heap.size + 1 < (W.bk w1 (P.sureB vb) fo fc).heap.size := HZ2.out.lt
  clear d0 d1 d2 d3 d4 d5 d6 d7 d8 d9 d10 d11 d12 y0 y1 y2 y3 y4 y5 y6 y7 y8 y9 y10 own3 hb3 HX1 HX2 HZ1 HZ2
  go_wp2_with ((with_reducible refine wpList_stO (w.heap.size + 1) C.zs (C.sail (P.setB x (x.bks.set k (P.sureB vb))) ⟨a.v, a.lo, a.bo, a.lc, a.bc, some ⟨G, 0, none⟩, cap⟩) ?_ ?_ ?_ HZ3.out ?_ ?_ ?_); exact Tryz.sizeSail; rfl; rfl; rfl; exact sail_one _ _; intro w9 hr9 hg9)
  have hB9 := below_gr hB3 hB3.size hg9 (by omega)
  have own9 := OwnC.apart HO3.out hg9 (fun r e hv => by cases e; have := (HO3.out.lt _ hv).1; omega)
  exact bodyPost_ret (res2 rfl hr9 _ rfl rfl Tryz.underlying32 rfl Tryz.sizeSail) rfl ⟨0, (P.setB x (x.bks.set k (P.sureB vb))), ⟨a.v, a.lo, a.bo, a.lc, a.bc, some ⟨G, 0, none⟩, cap⟩, rfl, .inr ⟨k, vb, HN.out, HG.out, 0, P.sureB vb, ⟨by rw [if_pos HNS.out], fun _ => rfl⟩, .inr ⟨rfl, rfl, rfl⟩⟩,
    setB_tw HS0.out HB00.out HLV.out HLE.out own9 (by omega) hB9 (fun U hU => SlAt.below Fo.REnt.mono (HLE.out.ents _ HVM.out) ((bvia HB00.out hB9).trans hU.1)), hB9⟩

end Go.Proofs.YtlamhfbdeinkkaeGreat.St
