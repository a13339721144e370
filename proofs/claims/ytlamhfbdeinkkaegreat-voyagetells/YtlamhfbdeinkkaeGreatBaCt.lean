import Derived.Test.YtlamhfbdeinkkaeGreatBaAt
import Derived.Deep.AppendSrc
import Derived.Deep.Upon
import Derived.Deep.AppendLies
import Derived.Deep.RegionHeld3
import Derived.Test.YtlamhfbdeinkkaeGreatBoDt
import Derived.Test.YtlamhfbdeinkkaeGreatOpenFt
import Derived.Test.YtlamhfbdeinkkaeGreatStCt
import Derived.Test.YtlamhfbdeinkkaeGreatStFt
import Derived.Laws.OwnMore
set_option maxRecDepth 10000
/- Appends inside a statement whose order is open, of whatever elements. -/
namespace Go.Proofs.YtlamhfbdeinkkaeGreat
open Go.RowKit
set_option linter.unusedSimpArgs false
set_option linter.unusedVariables false
set_option linter.unnecessarySimpa false

section
variable {α : Type} {cells : α → List Value} {size : Nat} {e : TypeId}

/-- 'append(v, y)': L is what comes. -/
theorem wpC_app3 {t : TypeId} {z : Value} {bytes : Nat} (hinfo : (Tryz.prog.info? e).map (fun i => (i.zero, i.size, i.bytes)) = some (some z, size, bytes)) (hu : Tryz.prog.underlying t = some (.slice e)) (hzs : z.cells.size = size) (hs0 : 0 < size) (hc : ∀ x, (cells x).length = size) (h1c : ∀ x, ∀ u ∈ cells x, u.oneCell' = true) (hby : bytes ≤ 1000)
    {o : Oper} {a : Act} {K : Act → World → Prop} {Q : Exit → Act → World → Prop} {u : World} {base : Nat} (s x : Operand) (ho : o.op = .call { callee := .builtin .append, args := #[s, x], argTypes := #[t, t] }) (v : Value) (B : Nat) (l L : List α) (y : α) (hL : l ++ [y] = L)
    (hv : a.eval s = v) (hown : OwnC cells size e u base v l) (hx : a.eval x = .slice (some ⟨B, 0, none⟩) 1 1) (hy : ∀ j c, (cells y)[j]? = some c → u.cell? ⟨B, j, none⟩ = some c) (hl : l.length ≤ 1000) (hbase : base ≤ u.heap.size)
    (h : ∀ g cap u', OwnC cells size e u' base (.slice (some ⟨g, 0, none⟩) L.length cap) L → u.grownBy u' v.ownBlock → K (a.put o.dst (.slice (some ⟨g, 0, none⟩) L.length cap)) u') : o.wp Tryz.prog a u K Q := by
  subst hL
  obtain ⟨i0, hi, hi0, hi1, hi2⟩ := info_parts hinfo
  have hmb : (l.length + 1) * bytes ≤ 1001 * 1000 := Nat.mul_le_mul (by omega) hby
  refine wp_append_lies u s x t ho base e i0 z size bytes hu hi hi0 hi1 hi2 hzs hs0 v l.length (l.flatMap cells) hv hown ⟨B, 0, none⟩ 1 1 (cells y) hx (by rw [hc]; omega) (fun j c hj => ?_) (h1c y) (by omega) (by simp only [maxLen]; omega) (by omega) hbase _ rfl ?_
  · rw [Go.WideShapes.add_plain, Nat.zero_add]
    exact hy j c hj
  · intro g cap u' h1 h2 _ _
    have h6 : OwnC cells size e u' base (.slice (some ⟨g, 0, none⟩) (l ++ [y]).length cap) (l ++ [y]) := by
      show u'.ownsRow base e size _ (l ++ [y]).length _
      rw [List.flatMap_append, List.length_append]
      simpa using h1
    have := h g cap u' h6 h2
    rw [List.length_append] at this
    simpa using this
end

section
variable {ops : Array Oper} {o : Oper} {a : Act} {K : Act → World → Prop} {Q : Exit → Act → World → Prop} {E : Prop}
theorem step_of' (hgd : o.guard = none) {P : Program} {u : World} (h : o.wp P a u K Q) : if Region.wanted o (yielded ops a.tmps) = true then Oper.wp P o a u K Q else E := by
  have hw : Region.wanted o (yielded ops a.tmps) = true := by simp [Region.wanted, hgd]
  rw [if_pos hw]
  exact h
end

end Go.Proofs.YtlamhfbdeinkkaeGreat
namespace Go.Proofs.YtlamhfbdeinkkaeGreat.Bk
open Go.RowKit
set_option linter.unusedSimpArgs false
set_option linter.unusedVariables false

section
variable {α : Type} {cells : α → List Value} {size : Nat} {e : TypeId}
theorem SlAt.part {R : World → α → List Value → Prop} {w : World} {ao : Option Addr} {cap : Nat} {A B : List α} (h : SlAt R size w ao cap (A ++ B)) : SlAt R size w ao cap A := by
  have hle := h.le
  rw [List.length_append] at hle
  refine ⟨by omega, h.max, h.nil, fun h0 => ?_⟩
  obtain ⟨b, off, rfl, hlt, hc⟩ := h.cells (by rw [List.length_append]; omega)
  refine ⟨b, off, rfl, hlt, fun i hi => ?_⟩
  have := hc i (by rw [List.length_append]; omega)
  rwa [List.getElem_append_left hi] at this
def tailOf (size : Nat) (ao : Option Addr) (cap k : Nat) : Option Addr := if cap = k then ao else ao.map fun x => x.add (k * size)
theorem SlAt.rest {R : World → α → List Value → Prop} {w : World} {ao : Option Addr} {cap : Nat} {A B : List α} (h : SlAt R size w ao cap (A ++ B)) : SlAt R size w (tailOf size ao cap A.length) (cap - A.length) B := by
  have hle := h.le
  have hmx := h.max
  rw [List.length_append] at hle
  refine ⟨by omega, by omega, fun hn => ?_, fun h0 => ?_⟩
  · have : ao = none := by
      unfold tailOf at hn
      split at hn
      · exact hn
      · simpa using hn
    have := h.nil this
    omega
  · obtain ⟨b, off, rfl, hlt, hc⟩ := h.cells (by rw [List.length_append]; omega)
    refine ⟨b, off + A.length * size, by rw [tailOf, if_neg (by omega)]; simp [Addr.add], hlt, fun i hi => ?_⟩
    obtain ⟨cs, h1, h2, h3⟩ := hc (A.length + i) (by rw [List.length_append]; omega)
    rw [List.getElem_append_right (by omega)] at h1
    refine ⟨cs, by simpa using h1, h2, fun j u hj => ?_⟩
    have := h3 j u hj
    rw [Nat.add_mul] at this
    rw [show off + A.length * size + i * size + j = off + (A.length * size + i * size) + j by omega]
    exact this
end

theorem cellsV_len (x : BkV) : (cellsV x).length = 11 := rfl
theorem cellsV_one (x : BkV) : ∀ u ∈ cellsV x, u.oneCell' = true := by
  intro u hu
  simp [cellsV, cellsBk] at hu
  rcases hu with rfl | rfl | rfl | rfl | rfl | rfl | rfl | rfl | rfl | rfl | rfl <;> rfl
theorem Tryz.infoBk : (Tryz.prog.info? 37).map (fun i => (i.zero, i.size, i.bytes)) = some (some (.agg #[.int .i64 0, .int .i64 0, .int .i64 0, .int .i64 0, .bool false, .int .i64 0, .int .i64 0, .int .i64 0, .int .i64 0, .int .i64 0, .slice none 0 0]), 11, 104) := by kernel_rfl
abbrev OwnB (w : World) (base : Nat) (v : Value) (l : List BkV) : Prop := OwnC cellsV 11 37 w base v l

theorem BkVsAt.plain {w : World} {ao : Option Addr} {cap : Nat} {l : List BkV} (h : BkVsAt w ao cap l) : SlAt (RC cellsV) 11 w ao cap l := by
  refine ⟨h.le, h.max, h.nil, fun h0 => ?_⟩
  obtain ⟨b, off, rfl, hlt, hc⟩ := h.cells h0
  refine ⟨b, off, rfl, hlt, fun i hi => ?_⟩
  obtain ⟨cs, h1, h2, h3⟩ := hc i hi
  exact ⟨cs, h1.1, h2, h3⟩
theorem BkVsAt.ents {w : World} {ao : Option Addr} {cap : Nat} {l : List BkV} (h : BkVsAt w ao cap l) : ∀ x ∈ l, Fo.EntsAt w x.2.1 x.2.2 x.1.fol := by
  intro x hx
  obtain ⟨i, hi, rfl⟩ := List.getElem_of_mem hx
  obtain ⟨b, off, _, _, hc⟩ := h.cells (by omega)
  obtain ⟨cs, h1, _⟩ := hc i hi
  exact h1.2
theorem bkvs_of {w : World} {ao : Option Addr} {cap : Nat} {l : List BkV} (h : SlAt (RC cellsV) 11 w ao cap l) (he : ∀ x ∈ l, Fo.EntsAt w x.2.1 x.2.2 x.1.fol) : BkVsAt w ao cap l := by
  refine ⟨h.le, h.max, h.nil, fun h0 => ?_⟩
  obtain ⟨b, off, rfl, hlt, hc⟩ := h.cells h0
  refine ⟨b, off, rfl, hlt, fun i hi => ?_⟩
  obtain ⟨cs, h1, h2, h3⟩ := hc i hi
  exact ⟨cs, ⟨h1, he _ (List.getElem_mem hi)⟩, h2, h3⟩

theorem mine_gone {cabin : Int} {A B : List Bkg} {x : Bkg} (h : P.live x = false) : P.mine cabin (A ++ x :: B) = P.mine cabin (A ++ B) := by
  rw [P.mine, P.mine, List.filter_append, List.filter_append, List.filter_cons, if_neg (by simp [P.hasC, h])]
theorem soul_gone {k : Int} {A B : List Bkg} {x : Bkg} (h : P.live x = false) : P.soul k (A ++ x :: B) = P.soul k (A ++ B) := by
  rw [soul_append, soul_append, P.soul, onLeg_gone h]; omega
end Go.Proofs.YtlamhfbdeinkkaeGreat.Bk
namespace Go.Proofs.YtlamhfbdeinkkaeGreat.St
open Go.RowKit Bk
set_option linter.unusedSimpArgs false
set_option linter.unusedVariables false
set_option maxRecDepth 10000

def cellsC (c : Sh.Cab) : List Value := [.string c.1, .int .i64 c.2.1, .int .i64 c.2.2.1, .bool c.2.2.2]
theorem cellsC_len (c : Sh.Cab) : (cellsC c).length = 4 := rfl
theorem cellsC_one (c : Sh.Cab) : ∀ u ∈ cellsC c, u.oneCell' = true := by simp [cellsC]; exact ⟨rfl, rfl, rfl, rfl⟩
/-- A category, and where its list lies; a row of fares likewise. -/
abbrev CatV := Sh.Cat × Option Addr × Nat
abbrev RowV := List Int × Option Addr × Nat
abbrev V.cat (x : CatV) : Value := .agg #[.string x.1.1, .slice x.2.1 x.1.2.length x.2.2]
def cellsK (x : CatV) : List Value := [.string x.1.1, .slice x.2.1 x.1.2.length x.2.2]
def cellsR (x : RowV) : List Value := [.slice x.2.1 x.1.length x.2.2]
theorem cellsK_len (c : CatV) : (cellsK c).length = 2 := rfl
theorem cellsK_one (c : CatV) : ∀ u ∈ cellsK c, u.oneCell' = true := by simp [cellsK]; exact ⟨rfl, rfl⟩
theorem cellsR_len (c : RowV) : (cellsR c).length = 1 := rfl
theorem cellsR_one (c : RowV) : ∀ u ∈ cellsR c, u.oneCell' = true := by simp [cellsR]; rfl
theorem Tryz.infoCab : (Tryz.prog.info? 135).map (fun i => (i.zero, i.size, i.bytes)) = some (some (.agg #[.string ⟨#[]⟩, .int .i64 0, .int .i64 0, .bool false]), 4, 40) := by kernel_rfl
theorem Tryz.infoCat : (Tryz.prog.info? 141).map (fun i => (i.zero, i.size, i.bytes)) = some (some (.agg #[.string ⟨#[]⟩, .slice none 0 0]), 2, 40) := by kernel_rfl
theorem Tryz.infoRow : (Tryz.prog.info? 47).map (fun i => (i.zero, i.size, i.bytes)) = some (some (.slice none 0 0), 1, 24) := by kernel_rfl
theorem Tryz.infoBand : (Tryz.prog.info? 143).map (fun i => (i.zero, i.size, i.bytes)) = some (some (.agg #[.int .i64 0, .int .i64 0]), 2, 16) := by kernel_rfl

set_option maxHeartbeats 400000 in
theorem listI_own (ao : Option Addr) (cap : Nat) (l : List Int) (w : World) (hl : IntsAt w ao cap l) (hn : l.length ≤ 1000) :
    Calls Tryz.prog 226 #[.slice ao l.length cap] w fun e w' => ∃ v, e = .returned v ∧ OwnC cellsI 1 3 w' w.heap.size v l ∧ Below w.heap.size w w' := by
  go_enter Tryz.func226, Tryz.ntmps226
  go_wp2_with (at_builtin; refine wpList_app_many Tryz.infoI Tryz.underlying47 rfl (by decide) cellsI_len cellsI_one (by decide) rfl _ _ (by rfl) w.heap.size (.slice none 0 0) [] ao cap l (by rfl) (OwnC.nil _ _) (by rfl) hl (Nat.le_refl _) (by simp) (by omega) ?_; intro v1 w1 own1 gr1)
  go_ret
  exact ⟨v1, rfl, by simpa using own1, OwnC.grown (cells := cellsI) (size := 1) (e := 3) (l := []) (Below.refl _ _) (OwnC.nil _ _) (Nat.le_refl _) gr1⟩
set_option maxHeartbeats 400000 in
theorem listC_own (ao : Option Addr) (cap : Nat) (l : List Sh.Cab) (w : World) (hl : SlAt (RC cellsC) 4 w ao cap l) (hn : l.length ≤ 1000) :
    Calls Tryz.prog 227 #[.slice ao l.length cap] w fun e w' => ∃ v, e = .returned v ∧ OwnC cellsC 4 135 w' w.heap.size v l ∧ Below w.heap.size w w' := by
  go_enter Tryz.func227, Tryz.ntmps227
  go_wp2_with (at_builtin; refine wpList_app_many Tryz.infoCab Tryz.underlying23 rfl (by decide) cellsC_len cellsC_one (by decide) rfl _ _ (by rfl) w.heap.size (.slice none 0 0) [] ao cap l (by rfl) (OwnC.nil _ _) (by rfl) hl (Nat.le_refl _) (by simp) (by omega) ?_; intro v1 w1 own1 gr1)
  go_ret
  exact ⟨v1, rfl, by simpa using own1, OwnC.grown (cells := cellsC) (size := 4) (e := 135) (l := []) (Below.refl _ _) (OwnC.nil _ _) (Nat.le_refl _) gr1⟩
set_option maxHeartbeats 400000 in
theorem listP_own (ao : Option Addr) (cap : Nat) (l : List (Int × Int)) (w : World) (hl : SlAt (RC cellsG) 2 w ao cap l) (hn : l.length ≤ 1000) :
    Calls Tryz.prog 229 #[.slice ao l.length cap] w fun e w' => ∃ v, e = .returned v ∧ OwnC cellsG 2 143 w' w.heap.size v l ∧ Below w.heap.size w w' := by
  go_enter Tryz.func229, Tryz.ntmps229
  go_wp2_with (at_builtin; refine wpList_app_many Tryz.infoBand Tryz.underlying27 rfl (by decide) cellsG_len cellsG_one (by decide) rfl _ _ (by rfl) w.heap.size (.slice none 0 0) [] ao cap l (by rfl) (OwnC.nil _ _) (by rfl) hl (Nat.le_refl _) (by simp) (by omega) ?_; intro v1 w1 own1 gr1)
  go_ret
  exact ⟨v1, rfl, by simpa using own1, OwnC.grown (cells := cellsG) (size := 2) (e := 143) (l := []) (Below.refl _ _) (OwnC.nil _ _) (Nat.le_refl _) gr1⟩
set_option maxHeartbeats 400000 in
theorem listN_own (ao : Option Addr) (cap : Nat) (l : List Fo.Ent) (w : World) (hl : Fo.EntsAt w ao cap l) (hn : l.length ≤ 1000) :
    Calls Tryz.prog 232 #[.slice ao l.length cap] w fun e w' => ∃ v, e = .returned v ∧ Fo.OwnN w' w.heap.size v l ∧ Below w.heap.size w w' := by
  go_enter Tryz.func232, Tryz.ntmps232
  go_wp2_with (at_builtin; refine Fo.wpList_app_ents rfl _ _ (by rfl) w.heap.size (.slice none 0 0) [] ao cap l (by rfl) (OwnC.nil _ _) (by rfl) hl (Nat.le_refl _) (by simp) (by omega) ?_; intro v1 w1 own1 gr1)
  go_ret
  exact ⟨v1, rfl, by simpa using own1, OwnC.grown (cells := Fo.cellsN) (size := 3) (e := 59) (l := []) (Below.refl _ _) (OwnC.nil _ _) (Nat.le_refl _) gr1⟩

/-- A slice that owns something, or nothing, is a slice. -/
theorem OwnC.form {α : Type} {cells : α → List Value} {size : Nat} {e : TypeId} {w : World} {base : Nat} {v : Value} {l : List α} (h : OwnC cells size e w base v l) : ∃ ao cap, v = .slice ao l.length cap := by
  rcases h.2 with ⟨rfl, h0⟩ | ⟨g, cap, cur, rfl, _⟩
  · exact ⟨none, 0, by rw [h0]⟩
  · exact ⟨_, _, rfl⟩

theorem RowIs.set {w : World} {g k : Nat} {cs : Array Value} (h : RowIs w g cs) (v : Value) : RowIs (w.setCell ⟨g, k, none⟩ v) g (cs.setIfInBounds k v) := by
  obtain ⟨t, h⟩ := h
  have hl := (Array.getElem?_eq_some_iff.1 h).1
  refine ⟨t, ?_⟩
  have e : w.heap[g] = .cells cs t (0, 0) := (Array.getElem?_eq_some_iff.1 h).2
  unfold World.setCell
  rw [Array.getElem?_eq_getElem (by simpa using hl), Array.getElem_modify]
  simp [e]
theorem grown_st (W : World) (b i : Nat) (v : Value) : W.grownBy (W.setCell ⟨b, i, none⟩ v) (some b) :=
  ⟨rfl, rfl, rfl, by simp [World.setCell], fun k _ hk => Below.heap_setCell _ _ _ _ (fun e => hk (by simp [e]))⟩
theorem Tryz.sizeCat : (Tryz.prog.info? 141).map (·.size) = some 2 := by kernel_rfl

theorem catsGet {w w' : World} {ao : Option Addr} {cap : Nat} {l : List Sh.Cat} (h : Sh.CatsAt w ao cap l) (hb : Below w.heap.size w w') (k : Nat) (hk : k < l.length) :
    ∃ b off x hao hcap, ao = some ⟨b, off, none⟩ ∧ b < w.heap.size ∧ l.drop k = x :: l.drop (k + 1) ∧ w'.cell? ⟨b, off + k * 2, none⟩ = some (.string x.1) ∧ w'.cell? ⟨b, off + k * 2 + 1, none⟩ = some (.slice hao x.2.length hcap) ∧ IntsAt w' hao hcap x.2 ∧ x.1.size ≤ maxLen := by
  obtain ⟨b, off, nm, hs, hao, hcap, h1, h2, h3, h4⟩ := Sh.CatsAt.get h hb k hk
  exact ⟨b, off, (nm, hs), hao, hcap, h1, h2, h3, h4⟩
/-- The literals of 'copied'. -/
theorem lit_fin {w w1 w9 : World} {α : Type} {cells : α → List Value} {size k : Nat} {e : TypeId} {v : Value} {l : List α} (hB : Below w.heap.size w w1) (hO : OwnC cells size e w1 (w.heap.size + 1 + 1) v l) (hg : (w1.setCell ⟨w.heap.size, k, none⟩ v).grownBy w9 (some (w.heap.size + 1))) :
    OwnC cells size e w9 w.heap.size v l ∧ Below w.heap.size w w9 := by
  have o2 : OwnC cells size e (w1.setCell ⟨w.heap.size, k, none⟩ v) (w.heap.size + 1 + 1) v l := OwnC.apart hO (grown_st w1 w.heap.size k _) (fun r e hv => by cases e; have := (hO.lt _ hv).1; omega)
  have o3 := OwnC.apart o2 hg (fun r e hv => by cases e; have := (o2.lt _ hv).1; omega)
  exact ⟨OwnC.ahead o3 (by omega), below_gr (hB.setCell (p := ⟨w.heap.size, k, none⟩) (Nat.le_refl _) _) (by have := hB.size; simpa [World.setCell] using this) hg (by omega)⟩
set_option maxHeartbeats 1000000 in
theorem copied1_own (c : Sh.Cat) (ao : Option Addr) (cap : Nat) (w : World) (hl : IntsAt w ao cap c.2) (hn : c.2.length ≤ 1000) :
    Calls Tryz.prog 225 #[V.cat (c, ao, cap)] w fun e w' => ∃ ao' cap', e = .returned (V.cat (c, ao', cap')) ∧ OwnC cellsI 1 3 w' w.heap.size (.slice ao' c.2.length cap') c.2 ∧ Below w.heap.size w w' := by
  have hb0 : Below w.heap.size w ((w.alloc (.cells #[.string c.1, .slice ao c.2.length cap] 141)).alloc (.cells #[.string ⟨#[]⟩, .slice none 0 0] 141)) := by go_grown
  have HA : Aside (RowIs ((w.alloc (.cells #[.string c.1, .slice ao c.2.length cap] 141)).alloc (.cells #[.string ⟨#[]⟩, .slice none 0 0] 141)) w.heap.size #[.string c.1, .slice ao c.2.length cap]) := (RowIs.new w _ _).below (by go_grown)
  have HZ : Aside (RowIs ((w.alloc (.cells #[.string c.1, .slice ao c.2.length cap] 141)).alloc (.cells #[.string ⟨#[]⟩, .slice none 0 0] 141)) (w.heap.size + 1) #[.string ⟨#[]⟩, .slice none 0 0]) := by
    have := RowIs.new (w.alloc (.cells #[.string c.1, .slice ao c.2.length cap] 141)) #[.string ⟨#[]⟩, .slice none 0 0] 141
    rwa [World.size_alloc] at this
  go_enter Tryz.func225, Tryz.ntmps225
  go_wp2_with fail
  refine (listI_own ao cap c.2 _ (SlAt.below RInt.mono hl hb0) hn).mono ?_
  rintro e w1 ⟨v, rfl, own1, hb1⟩
  obtain ⟨ao1, cap1, rfl⟩ := OwnC.form own1
  have h1 : RowIs w1 w.heap.size #[.string c.1, .slice ao c.2.length cap] := HA.out.below hb1
  have q0 : w1.cell? ⟨w.heap.size, 0, none⟩ = some (.string c.1) := h1.cell 0
  have q1 : w1.cell? ⟨w.heap.size, 1, none⟩ = some (.slice ao c.2.length cap) := h1.cell 1
  have f1 : w1.frozen? ⟨w.heap.size, 1, none⟩ = false := h1.free 1
  have hB := bvia hb0 hb1
  have HZ1 : Aside (RowIs (w1.setCell ⟨w.heap.size, 1, none⟩ (.slice ao1 c.2.length cap1)) (w.heap.size + 1) #[.string ⟨#[]⟩, .slice none 0 0]) := (HZ.out.below hb1).gr (grown_st w1 w.heap.size 1 _) (by simp)
  have HO : Aside (OwnC cellsI 1 3 w1 (w.heap.size + 1 + 1) (.slice ao1 c.2.length cap1) c.2) := by
    rw [World.size_alloc, World.size_alloc] at own1
    exact own1
  clear own1 h1 HA HZ hb0
  go_wp2_with (refine wpList_stC rfl 141 _ _ (by rfl) (w.heap.size + 1) #[.string ⟨#[]⟩, .slice none 0 0] #[.string c.1, .slice ao1 c.2.length cap1] Tryz.sizeCat (by rfl) (by rfl) HZ1.out rfl (all_one rfl) ?_; intro w9 hr9 hg9)
  exact bodyPost_ret (res1 rfl hr9 _ rfl Tryz.underlying141 rfl Tryz.sizeCat) rfl ⟨ao1, cap1, rfl, lit_fin hB HO.out hg9⟩
abbrev O.bk0 : Obj := .cells #[.int .i64 0, .int .i64 0, .int .i64 0, .int .i64 0, .bool false, .int .i64 0, .int .i64 0, .int .i64 0, .int .i64 0, .int .i64 0, .slice none 0 0] 37
abbrev C.bk (b : Bkg) (fo : Option Addr) (fc : Nat) : Array Value := #[.int .i64 b.id, .int .i64 b.kind, .int .i64 b.state, .int .i64 b.guests, .bool b.level, .int .i64 b.cabin, .int .i64 b.cat, .int .i64 b.frm, .int .i64 b.to, .int .i64 b.til, .slice fo b.fol.length fc]
abbrev C.bk0 : Array Value := #[.int .i64 0, .int .i64 0, .int .i64 0, .int .i64 0, .bool false, .int .i64 0, .int .i64 0, .int .i64 0, .int .i64 0, .int .i64 0, .slice none 0 0]
theorem RowIs.bbox {w : World} {g : Nat} {b : Bkg} {fo : Option Addr} {fc : Nat} (h : RowIs w g (C.bk b fo fc)) : BBox w g b fo fc :=
  ⟨h.cell 0, h.cell 1, h.cell 2, h.cell 3, h.cell 4, h.cell 5, h.cell 6, h.cell 7, h.cell 8, h.cell 9, h.cell 10⟩
set_option maxHeartbeats 1000000 in
theorem copied2_own (b : Bkg) (ao : Option Addr) (cap : Nat) (w : World) (hl : Fo.EntsAt w ao cap b.fol) (hn : b.fol.length ≤ 1000) :
    Calls Tryz.prog 231 #[V.bk b ao cap] w fun e w' => ∃ ao' cap', e = .returned (V.bk b ao' cap') ∧ Fo.OwnN w' w.heap.size (.slice ao' b.fol.length cap') b.fol ∧ Below w.heap.size w w' := by
  have hb0 : Below w.heap.size w ((W.bk w b ao cap).alloc O.bk0) := by go_grown
  have HA : Aside (RowIs ((W.bk w b ao cap).alloc O.bk0) w.heap.size (C.bk b ao cap)) := (RowIs.new w _ _).below (by go_grown)
  have HZ : Aside (RowIs ((W.bk w b ao cap).alloc O.bk0) (w.heap.size + 1) C.bk0) := by
    have := RowIs.new (W.bk w b ao cap) C.bk0 37
    rwa [World.size_alloc] at this
  go_enter Tryz.func231, Tryz.ntmps231
  go_wp2_with fail
  refine (listN_own ao cap b.fol _ (SlAt.below Fo.REnt.mono hl hb0) hn).mono ?_
  rintro e w1 ⟨v, rfl, own1, hb1⟩
  obtain ⟨ao1, cap1, rfl⟩ := OwnC.form own1
  have h1 : RowIs w1 w.heap.size (C.bk b ao cap) := HA.out.below hb1
  obtain ⟨z0, z1, z2, z3, z4, z5, z6, z7, z8, z9, z10⟩ := h1.bbox
  have f1 : w1.frozen? ⟨w.heap.size, 10, none⟩ = false := h1.free 10
  have hB := bvia hb0 hb1
  have HZ1 : Aside (RowIs (w1.setCell ⟨w.heap.size, 10, none⟩ (.slice ao1 b.fol.length cap1)) (w.heap.size + 1) C.bk0) := (HZ.out.below hb1).gr (grown_st w1 w.heap.size 10 _) (by simp)
  have HO : Aside (Fo.OwnN w1 (w.heap.size + 1 + 1) (.slice ao1 b.fol.length cap1) b.fol) := by
    rw [World.size_alloc, World.size_alloc] at own1
    exact own1
  clear own1 h1 HA HZ hb0
  go_wp2_with (refine wpList_stC rfl 37 _ _ (by rfl) (w.heap.size + 1) C.bk0 (C.bk b ao1 cap1) Tryz.sizeBg (by rfl) (by rfl) HZ1.out rfl (all_one rfl) ?_; intro w9 hr9 hg9)
  exact bodyPost_ret (res1 rfl hr9 _ rfl Tryz.underlying37 rfl Tryz.sizeBg) rfl ⟨ao1, cap1, rfl, lit_fin hB HO.out hg9⟩

end Go.Proofs.YtlamhfbdeinkkaeGreat.St
