import Derived.Test.YtlamhfbdeinkkaeGreatBaAt
import Derived.ProofKit
import Derived.OpenShut
import Derived.ShutString
import Derived.ChangeOld
import Derived.Below
import Derived.Deep.SlicePairs
import Derived.Lib.SmallJoins
import Derived.Test.YtlamhfbdeinkkaeGreatMaAt
import Derived.Maps.OwnSet
import Derived.Maps.OwnOps
import Derived.DeepKeys4
set_option maxRecDepth 10000
/- How the arguments of the laws on counts and matchings read: numbers, lists of numbers, spans, edges, lists of edges. -/
namespace Go.Proofs.YtlamhfbdeinkkaeGreat.Ma
open Go.ChangeShapes Go.WideShapes Go.ChangeAt Go.RowKit Go.Deep Go.Joins
set_option linter.unusedSimpArgs false
set_option linter.unusedVariables false

theorem Tryz.own : ownKnob Tryz.prog.godebug = none := by kernel_rfl
theorem Tryz.laidOut : laidOutB Tryz.prog = true := by kernel_rfl
theorem Tryz.cellsSpan : Tryz.prog.cellsOf 34 = 2 := by kernel_rfl
theorem Tryz.cellsEdge : Tryz.prog.cellsOf 85 = 2 := by kernel_rfl
theorem Tryz.cellsInt : Tryz.prog.cellsOf 3 = 1 := by kernel_rfl

theorem open_int' {H : Type} {enc : TypeId × Value → H} {W : World} {base : Nat} {v : Value} {d : DataW H} {ps : List MemPlace}
    (hv : Value.okWide Tryz.prog W .any base 3 v) (h : DataW.Trod enc Tryz.prog W 0 (fun _ => true) true 3 v d ps) : ∃ n, v = .int .i64 n := by
  obtain ⟨n, rfl, _, _, _⟩ := open_int Tryz.underlying3 hv h
  exact ⟨n, rfl⟩

theorem open_ints {H : Type} {enc : TypeId × Value → H} {W : World} {base : Nat} {v : Value} {d : DataW H} {ps : List MemPlace}
    (hv : Value.okWide Tryz.prog W .any base 47 v) (h : DataW.Trod enc Tryz.prog W 0 (fun _ => true) true 47 v d ps) : ∃ ao cap l, v = .slice ao l.length cap ∧ IntsAt W ao cap l := by
  obtain ⟨a0, len, cap, rfl⟩ := okWide_slice Tryz.underlying47 hv
  obtain ⟨fuel, hf⟩ := h
  obtain ⟨ao, cap', l, hcs, hs⟩ := open_sl (R := RInt) (size := 1) Tryz.underlying47 Tryz.cellsInt (by decide) (fun n cs' y hlen hy => by
    obtain ⟨x, e0, _⟩ := DataW.trod_int Tryz.underlying3 hy
    exact ⟨x, e0⟩) hf
  simp [Value.cells] at hcs
  obtain ⟨rfl, rfl, rfl⟩ := hcs
  exact ⟨_, _, _, rfl, hs⟩

/-- An edge. -/
def REdge (_ : World) (x : Int × Int) (cs : List Value) : Prop := cs = [.int .i64 x.1, .int .i64 x.2]
theorem REdge.mono : Mono REdge := fun _ _ _ _ _ h => h
abbrev EdgesAt (w : World) (ao : Option Addr) (cap : Nat) (l : List (Int × Int)) : Prop := SlAt REdge 2 w ao cap l

theorem lt_of_trod {H : Type} {enc : TypeId × Value → H} {W : World} {t : TypeId} {v : Value} {d : DataW H} {ps : List MemPlace} (h : DataW.Trod enc Tryz.prog W 0 (fun _ => true) true t v d ps) : ∀ x ∈ ps, x.block < W.heap.size := by
  obtain ⟨m, hm⟩ := h
  exact DataW.trod_lt m _ _ _ hm

end Go.Proofs.YtlamhfbdeinkkaeGreat.Ma
/- Sets of numbers and of edges that a call makes; walks of marks.has, graph.has, within. -/
namespace Go.Proofs.YtlamhfbdeinkkaeGreat.Ma
open Go.RowKit Go.Maps Go.WideMaps
set_option linter.unusedSimpArgs false
set_option linter.unusedVariables false

abbrev Edge := Int × Int

theorem Tryz.rowE : (85 : TypeId) < Tryz.prog.types.size := of_decide_eq_true (by kernel_rfl)
theorem Tryz.wideE : (match Tryz.prog.underlying 85 with | some (.array _ _) | some (.struct _) => true | _ => false) = true := by kernel_rfl
theorem Tryz.lawE : Keyed Tryz.prog 85 := Keyed.of_law (deep_law_laid Tryz.laidOut (m := 2) (by omega) Tryz.rowE (by kernel_rfl) Tryz.wideE)
theorem Tryz.lawI : Keyed Tryz.prog 3 := int_keyed Tryz.underlying3
theorem Tryz.zeroUnit (w : World) : (zeroValue 233).run Tryz.prog w = .ok (.agg #[]) w := by kernel_rfl

def P.litI (n : Int) : Lit := .int .i64 n
def P.litE (x : Edge) : Lit := .string (keyBytes [.int .i64 x.1, .int .i64 x.2])
/-- An edge whose ends are numbers that a word has. -/
def EdgeWf (x : Edge) : Prop := (Lit.int .i64 x.1).wf = true ∧ (Lit.int .i64 x.2).wf = true

theorem keyOf_edge {a b : Int} (h : EdgeWf (a, b)) : keyOf Tryz.prog 85 (.agg #[.int .i64 a, .int .i64 b]) = some (P.litE (a, b)) := by
  obtain ⟨wa, wb⟩ := h
  have hsz : ∃ m, Tryz.prog.types.size = m + 1 := ⟨Tryz.prog.types.size - 1, (Nat.succ_pred_eq_of_pos (Nat.lt_of_le_of_lt (Nat.zero_le _) Tryz.rowE)).symm⟩
  have hkt : Tryz.prog.keyType 85 = true := by kernel_rfl
  obtain ⟨m, hm⟩ := hsz
  unfold keyOf
  simp only [Tryz.underlying85]
  rw [if_pos (by simp [hkt, Value.formed, Tryz.underlying85, Tryz.cellsEdge]), hm]
  unfold Program.keyLits
  simp only [Tryz.underlying85, Value.cells]
  rw [if_pos (by rw [Tryz.cellsEdge]; exact ⟨rfl, by decide +kernel⟩)]
  simp [List.mapM_cons, Program.keyLits, Tryz.underlying3, Tryz.cellsInt, wa, wb, P.litE]

theorem litE_inj {x y : Edge} (hx : EdgeWf x) (hy : EdgeWf y) (h : P.litE x = P.litE y) : x = y := by
  have h1 : keyBytes [.int .i64 x.1, .int .i64 x.2] = keyBytes [.int .i64 y.1, .int .i64 y.2] := by simpa [P.litE] using h
  have h2 := keyBytes_inj (l := [.int .i64 x.1, .int .i64 x.2]) (l' := [.int .i64 y.1, .int .i64 y.2]) ⟨rfl, rfl, trivial⟩ (by intro a ha; simp at ha; rcases ha with rfl | rfl; exact hx.1; exact hx.2) (by intro a ha; simp at ha; rcases ha with rfl | rfl; exact hy.1; exact hy.2) h1
  simp at h2
  exact Prod.ext h2.1 h2.2

/-- Block B is a set that has just these. -/
abbrev ISet (w : World) (B : Nat) (l : List Int) : Prop := w.ownsMap Tryz.prog 3 (unitElem (H := Unit)) B l.length (setOf (.agg []) (l.map P.litI))
abbrev ESet (w : World) (B : Nat) (l : List Edge) : Prop := w.ownsMap Tryz.prog 85 (unitElem (H := Unit)) B l.length (setOf (.agg []) (l.map P.litE))
def P.hasInt (l : List Int) (n : Int) : Bool := l.any fun x => decide (x = n)
def P.hasEdge (l : List Edge) (e : Edge) : Bool := l.any fun x => decide (x = e)

theorem has_ints (l : List Int) (n : Int) : Maps.has (setOf (H := Unit) (.agg []) (l.map P.litI)) (P.litI n) = P.hasInt l n := by
  rw [has_setOf]
  · unfold P.hasInt P.litI
    rw [List.any_map]
    congr 1
    funext x
    simp [Lit.sameKey]
  · intro x hx
    rw [List.mem_map] at hx
    obtain ⟨y, _, rfl⟩ := hx
    simp [P.litI, WideAt.IsKeyLit]
theorem has_edges (l : List Edge) (e : Edge) (hl : ∀ x ∈ l, EdgeWf x) (he : EdgeWf e) : Maps.has (setOf (H := Unit) (.agg []) (l.map P.litE)) (P.litE e) = P.hasEdge l e := by
  rw [has_setOf]
  · unfold P.hasEdge
    rw [List.any_map, Bool.eq_iff_iff, List.any_eq_true, List.any_eq_true]
    constructor
    · rintro ⟨x, hx, h⟩
      refine ⟨x, hx, ?_⟩
      simp only [Function.comp, P.litE, Lit.sameKey] at h
      have h2 : P.litE x = P.litE e := by simpa [P.litE] using h
      simp [litE_inj (hl x hx) he h2]
    · rintro ⟨x, hx, h⟩
      simp at h
      subst h
      exact ⟨x, hx, by simp [P.litE, Lit.sameKey]⟩
  · intro x hx
    rw [List.mem_map] at hx
    obtain ⟨y, _, rfl⟩ := hx
    simp [P.litE, WideAt.IsKeyLit]
theorem hasInt_iff (l : List Int) (n : Int) : P.hasInt l n = true ↔ n ∈ l := by
  unfold P.hasInt
  rw [List.any_eq_true]
  constructor
  · rintro ⟨x, hx, h⟩; simp at h; exact h ▸ hx
  · intro h; exact ⟨n, h, by simp⟩
theorem hasEdge_iff (l : List Edge) (n : Edge) : P.hasEdge l n = true ↔ n ∈ l := by
  unfold P.hasEdge
  rw [List.any_eq_true]
  constructor
  · rintro ⟨x, hx, h⟩; simp at h; exact h ▸ hx
  · intro h; exact ⟨n, h, by simp⟩

theorem ISet.made (w : World) : ISet (w.alloc (.map #[] 0)) w.heap.size [] := World.ownsMap_made _ _ _ _
theorem ESet.made (w : World) : ESet (w.alloc (.map #[] 0)) w.heap.size [] := World.ownsMap_made _ _ _ _
theorem set_below {w w' : World} {K : TypeId} {B n : Nat} {D : DataW Unit} (h : w.ownsMap Tryz.prog K (unitElem (H := Unit)) B n D) (hb : Below w.heap.size w w') : w'.ownsMap Tryz.prog K (unitElem (H := Unit)) B n D :=
  h.kept ⟨hb.os, hb.tape, hb.output, hb.size, fun k hk _ => hb.block k hk⟩ (row := none) (by simp)
theorem wf_small {n : Int} (h : 0 ≤ n ∧ n ≤ 16) : (Lit.int .i64 n).wf = true := WalkArith.wf_i64 (by omega)

set_option maxHeartbeats 400000 in
theorem within_any (n a b : Int) (w : World) :
    Calls Tryz.prog 219 #[.int .i64 n, .int .i64 a, .int .i64 b] w fun e w' => e = .returned (.bool (P.btw n a b)) ∧ w = w' := by
  by_cases h1 : a ≤ n <;> by_cases h2 : n ≤ b
  all_goals
    go_enter Tryz.func219, Tryz.ntmps219
    go_wp2
    go_ret
    simp [P.btw, h1, h2]

set_option maxHeartbeats 1000000 in
theorem marksHas_any (M : Nat) (A : List Int) (k : Int) (w : World) (hA : ISet w M A) (hk : 0 ≤ k ∧ k ≤ 16) :
    Calls Tryz.prog 222 #[.map (some M), .int .i64 k] w fun e w' => e = .returned (.bool (P.hasInt A k)) ∧ Below w.heap.size w w' := by
  have hwf := wf_small hk
  go_enter Tryz.func222, Tryz.ntmps222
  go_wp2_with (at_lookup; refine wpList_lookup_own_unit _ rfl _ _ 202 rfl 3 233 Tryz.lawI Tryz.underlying202 (Tryz.zeroUnit _) M A.length _ rfl hA _ (P.litI k) rfl (keyOf_int_mk Tryz.underlying3 hwf) ?_; rw [has_ints])
  go_ret
  exact ⟨rfl, by go_grown⟩

set_option maxHeartbeats 1000000 in
theorem graphHas_any (B : Nat) (E : List Edge) (gl gr a b : Int) (w : World) (hE : ESet w B E) (hwf : ∀ x ∈ E, EdgeWf x) (ha : 0 ≤ a ∧ a ≤ 16) (hb : 0 ≤ b ∧ b ≤ 16) :
    Calls Tryz.prog 220 #[.agg #[.int .i64 gl, .int .i64 gr, .map (some B)], .agg #[.int .i64 a, .int .i64 b]] w fun e w' => e = .returned (.bool (P.hasEdge E (a, b))) ∧ Below w.heap.size w w' := by
  have hk : EdgeWf (a, b) := ⟨wf_small ha, wf_small hb⟩
  have HH : Aside (Maps.has (setOf (H := Unit) (.agg []) (E.map P.litE)) (P.litE (a, b)) = P.hasEdge E (a, b)) := has_edges E (a, b) hwf hk
  clear hwf
  go_enter Tryz.func220, Tryz.ntmps220
  go_wp2_with (at_lookup; refine wpList_lookup_own_unit _ rfl _ _ 193 rfl 85 233 Tryz.lawE Tryz.underlying193 (Tryz.zeroUnit _) B E.length _ rfl (set_below hE (by go_grown)) _ (P.litE (a, b)) rfl (keyOf_edge hk) ?_; rw [HH.out])
  go_ret
  exact ⟨rfl, by go_grown⟩

end Go.Proofs.YtlamhfbdeinkkaeGreat.Ma
/- Edges in memory; walks of read, match.Check, CheckGraph. -/
namespace Go.Proofs.YtlamhfbdeinkkaeGreat.Ma
open Go.RowKit Go.Maps Go.WideMaps
set_option linter.unusedSimpArgs false
set_option linter.unusedVariables false

theorem EdgesAt.get {w w' : World} {ao : Option Addr} {cap : Nat} {l : List Edge} (h : EdgesAt w ao cap l) (hb : Below w.heap.size w w') (k : Nat) (hk : k < l.length) :
    ∃ b off x y, ao = some ⟨b, off, none⟩ ∧ b < w.heap.size ∧ l.drop k = (x, y) :: l.drop (k + 1) ∧ w'.cell? ⟨b, off + k * 2, none⟩ = some (.int .i64 x) ∧ w'.cell? ⟨b, off + k * 2 + 1, none⟩ = some (.int .i64 y) := by
  obtain ⟨b, off, x, cs, h1, h2, h3, h4, h5, h6⟩ := SlAt.get REdge.mono h hb k hk
  subst h4
  exact ⟨b, off, x.1, x.2, h1, h2, h3, by simpa using h6 0 _ rfl, by simpa using h6 1 _ rfl⟩
theorem getE {l : List Edge} {k : Nat} {x y : Int} (hk : k < l.length) (hD : l.drop k = (x, y) :: l.drop (k + 1)) : l[k] = (x, y) := by
  have := List.drop_eq_getElem_cons hk
  rw [hD] at this
  simp only [List.cons.injEq] at this
  exact this.1.symm

def P.inE (n m : Int) (x : Edge) : Bool := P.btw x.1 0 (n - 1) && P.btw x.2 0 (m - 1)
def P.gr (n m : Int) : List Edge → List Edge → Int
  | _, [] => 0
  | seen, x :: l => if P.inE n m x = true then (if P.hasEdge seen x = true then 6 else P.gr n m (seen ++ [x]) l) else 3
def P.graphE (n m : Int) (l : List Edge) : Int := if (P.btw n 0 16 && P.btw m 0 16) = true then P.gr n m [] l else 3

theorem gr_zero {n m : Int} {l seen : List Edge} (h : P.gr n m seen l = 0) : (∀ x ∈ l, P.inE n m x = true) ∧ l.Nodup ∧ ∀ x ∈ l, ¬ x ∈ seen := by
  induction l generalizing seen with
  | nil => simp
  | cons y l ih =>
    rw [P.gr] at h
    split at h
    · rename_i h1
      split at h
      · omega
      · rename_i h2
        obtain ⟨i1, i2, i3⟩ := ih h
        have hy : ¬ y ∈ seen := fun hm => h2 ((hasEdge_iff _ _).2 hm)
        refine ⟨fun x hx => ?_, List.nodup_cons.2 ⟨fun hm => i3 y hm (by simp), i2⟩, fun x hx => ?_⟩
        · rcases List.mem_cons.1 hx with rfl | hx
          · exact h1
          · exact i1 x hx
        · rcases List.mem_cons.1 hx with rfl | hx
          · exact hy
          · exact fun hm => i3 x hx (by simp [hm])
    · omega
theorem inE_iff {n m : Int} {x : Edge} : P.inE n m x = true ↔ 0 ≤ x.1 ∧ x.1 < n ∧ 0 ≤ x.2 ∧ x.2 < m := by
  simp [P.inE, P.btw]
  omega
theorem graphE_zero {n m : Int} {l : List Edge} (h : P.graphE n m l = 0) : 0 ≤ n ∧ n ≤ 16 ∧ 0 ≤ m ∧ m ≤ 16 ∧ (∀ x ∈ l, 0 ≤ x.1 ∧ x.1 < n ∧ 0 ≤ x.2 ∧ x.2 < m) ∧ l.Nodup := by
  unfold P.graphE at h
  split at h
  · rename_i h1
    simp [P.btw] at h1
    obtain ⟨i1, i2, _⟩ := gr_zero h
    exact ⟨by omega, by omega, by omega, by omega, fun x hx => inE_iff.1 (i1 x hx), i2⟩
  · omega

/-- What 'read' has laid, S the first block that is its own: what it will answer, the set, the graph. -/
structure RdAt (w : World) (S : Nat) (n m : Int) (seen : List Edge) : Prop where
  set : ESet w (S + 1) seen
  g0 : w.cell? ⟨S + 1 + 1, 0, none⟩ = some (.int .i64 n)
  g1 : w.cell? ⟨S + 1 + 1, 1, none⟩ = some (.int .i64 m)
  g2 : w.cell? ⟨S + 1 + 1, 2, none⟩ = some (.map (some (S + 1)))
  r0 : w.cell? ⟨S, 0, none⟩ = some (.int .i64 0)
  r1 : w.cell? ⟨S, 1, none⟩ = some (.int .i64 0)
  r2 : w.cell? ⟨S, 2, none⟩ = some (.map none)
  f0 : ∀ j, w.frozen? ⟨S, j, none⟩ = false
theorem RdAt.lt {w : World} {S : Nat} {n m : Int} {seen : List Edge} (h : RdAt w S n m seen) : S < w.heap.size := World.block_lt_of_cell? w _ h.r0
theorem RdAt.below {w w' : World} {S : Nat} {n m : Int} {seen : List Edge} (h : RdAt w S n m seen) (hb : Below w.heap.size w w') : RdAt w' S n m seen :=
  ⟨set_below h.set hb, cellIn hb h.g0, cellIn hb h.g1, cellIn hb h.g2, cellIn hb h.r0, cellIn hb h.r1, cellIn hb h.r2, fun j => (hb.frozen (p := ⟨S, j, none⟩) h.lt).trans (h.f0 j)⟩
theorem frozen_grown {w w' : World} {row : Option Nat} (h : w.grownBy w' row) {b o : Nat} (hb : b < w.heap.size) (hr : some b ≠ row) : w'.frozen? ⟨b, o, none⟩ = w.frozen? ⟨b, o, none⟩ := by
  have := h.block b hb hr
  simp only [World.frozen?, this]
theorem RdAt.put {w w' : World} {S : Nat} {n m : Int} {seen seen' : List Edge} (h : RdAt w S n m seen) (hg : w.grownBy w' (some (S + 1))) (hs : ESet w' (S + 1) seen') : RdAt w' S n m seen' :=
  ⟨hs, hg.cell h.g0 (by simp), hg.cell h.g1 (by simp), hg.cell h.g2 (by simp), hg.cell h.r0 (by simp), hg.cell h.r1 (by simp), hg.cell h.r2 (by simp), fun j => (frozen_grown hg h.lt (by simp)).trans (h.f0 j)⟩

theorem rd_new (w : World) (n m : Int) : RdAt (((w.alloc (.cells #[.int .i64 0, .int .i64 0, .map none] 195)).alloc (.map #[] 0)).alloc (.cells #[.int .i64 n, .int .i64 m, .map (some (w.heap.size + 1))] 195)) w.heap.size n m [] := by
  have hs : ESet ((w.alloc (.cells #[.int .i64 0, .int .i64 0, .map none] 195)).alloc (.map #[] 0)) (w.heap.size + 1) [] := by
    have := ESet.made (w.alloc (.cells #[.int .i64 0, .int .i64 0, .map none] 195))
    simpa using this
  refine ⟨set_below hs (by go_grown), by go_simp, by go_simp, by go_simp, by go_simp, by go_simp, by go_simp, fun j => ?_⟩
  go_simp

theorem set3 {v : World} {S : Nat} {x y z : Value} (a b c : Value) (h0 : v.cell? ⟨S, 0, none⟩ = some x) (h1 : v.cell? ⟨S, 1, none⟩ = some y) (h2 : v.cell? ⟨S, 2, none⟩ = some z) :
    (((v.setCell ⟨S, 0, none⟩ a).setCell ⟨S, 1, none⟩ b).setCell ⟨S, 2, none⟩ c).cell? ⟨S, 0, none⟩ = some a ∧ (((v.setCell ⟨S, 0, none⟩ a).setCell ⟨S, 1, none⟩ b).setCell ⟨S, 2, none⟩ c).cell? ⟨S, 1, none⟩ = some b ∧ (((v.setCell ⟨S, 0, none⟩ a).setCell ⟨S, 1, none⟩ b).setCell ⟨S, 2, none⟩ c).cell? ⟨S, 2, none⟩ = some c := by
  refine ⟨?_, ?_, ?_⟩
  · rw [World.cell?_setCell_other (h := by simp), World.cell?_setCell_other (h := by simp), World.cell?_setCell_same (h := h0)]
  · rw [World.cell?_setCell_other (h := by simp), World.cell?_setCell_same (u := y) (h := by rw [World.cell?_setCell_other (h := by simp)]; exact h1)]
  · rw [World.cell?_setCell_same (u := z) (h := by rw [World.cell?_setCell_other (h := by simp), World.cell?_setCell_other (h := by simp)]; exact h2)]
/-- The same, with blocks laid behind it. -/
theorem set3A {v : World} {S : Nat} {x y z : Value} (a b c : Value) (o : Obj) (h0 : v.cell? ⟨S, 0, none⟩ = some x) (h1 : v.cell? ⟨S, 1, none⟩ = some y) (h2 : v.cell? ⟨S, 2, none⟩ = some z) :
    ((((v.setCell ⟨S, 0, none⟩ a).setCell ⟨S, 1, none⟩ b).setCell ⟨S, 2, none⟩ c).alloc o).cell? ⟨S, 0, none⟩ = some a ∧ ((((v.setCell ⟨S, 0, none⟩ a).setCell ⟨S, 1, none⟩ b).setCell ⟨S, 2, none⟩ c).alloc o).cell? ⟨S, 1, none⟩ = some b ∧ ((((v.setCell ⟨S, 0, none⟩ a).setCell ⟨S, 1, none⟩ b).setCell ⟨S, 2, none⟩ c).alloc o).cell? ⟨S, 2, none⟩ = some c := by
  obtain ⟨k0, k1, k2⟩ := set3 a b c h0 h1 h2
  exact ⟨cellIn (by go_grown) k0, cellIn (by go_grown) k1, cellIn (by go_grown) k2⟩
theorem below_set3 {w v : World} {S : Nat} (a b c : Value) (h : Below w.heap.size w v) (hS : w.heap.size ≤ S) : Below w.heap.size w (((v.setCell ⟨S, 0, none⟩ a).setCell ⟨S, 1, none⟩ b).setCell ⟨S, 2, none⟩ c) :=
  ((h.setCell (p := ⟨S, 0, none⟩) hS a).setCell (p := ⟨S, 1, none⟩) hS b).setCell (p := ⟨S, 2, none⟩) hS c

theorem grown_below_map {w0 w w' : World} {B : Nat} (hB : Below w0.heap.size w0 w) (hb : w0.heap.size ≤ B) (hg : w.grownBy w' (some B)) : Below w0.heap.size w0 w' :=
  hB.grown hg hB.size (fun j hj => by cases hj; exact hb)

set_option maxHeartbeats 2000000 in
theorem read_any (ao : Option Addr) (cap : Nat) (l : List Edge) (n m : Int) (w : World) (hl : EdgesAt w ao cap l) :
    Calls Tryz.prog 175 #[.int .i64 n, .int .i64 m, .slice ao l.length cap] w fun e w' => ∃ v, e = .returned (.tuple #[v, .int .i64 (P.graphE n m l)]) ∧ Below w.heap.size w w' ∧
      (P.graphE n m l ≠ 0 → v = .agg #[.int .i64 0, .int .i64 0, .map none]) ∧ (P.graphE n m l = 0 → v = .agg #[.int .i64 n, .int .i64 m, .map (some (w.heap.size + 1))] ∧ ESet w' (w.heap.size + 1) l) := by
  have hle := hl.le
  have hmx := hl.max
  have hmm := @run_makeMap Tryz.prog
  unfold maxLen at hmx
  have bad : ∀ {x : Int} {w' : World}, P.graphE n m l = x → x ≠ 0 → Below w.heap.size w w' → ∃ v, Ending.returned (.tuple #[.agg #[.int .i64 0, .int .i64 0, .map none], .int .i64 x]) = .returned (.tuple #[v, .int .i64 (P.graphE n m l)]) ∧ Below w.heap.size w w' ∧
      (P.graphE n m l ≠ 0 → v = .agg #[.int .i64 0, .int .i64 0, .map none]) ∧ (P.graphE n m l = 0 → v = .agg #[.int .i64 n, .int .i64 m, .map (some (w.heap.size + 1))] ∧ ESet w' (w.heap.size + 1) l) := by
    intro x w' hx h0 hb
    exact ⟨_, by rw [hx], hb, fun _ => rfl, fun h => absurd (hx.symm.trans h) h0⟩
  have BAD : Hid _ := @bad
  clear bad
  cases h1 : P.btw n 0 16
  · have HE : Aside (P.graphE n m l = 3) := by show _ = _; rw [P.graphE, h1]; rfl
    go_enter Tryz.func175, Tryz.ntmps175
    go_wp2_with (go_at_call 219; refine (within_any _ _ _ _).mono ?_; rintro e w' ⟨rfl, rfl⟩; rw [h1])
    refine bodyPost_ret (v := .tuple #[.agg #[.int .i64 0, .int .i64 0, .map none], .int .i64 3]) (by simp [results, Tryz.results175, go_sem]) rfl (BAD.out HE.out (by decide) (by go_grown))
  · cases h2 : P.btw m 0 16
    · have HE : Aside (P.graphE n m l = 3) := by show _ = _; rw [P.graphE, h1, h2]; rfl
      go_enter Tryz.func175, Tryz.ntmps175
      go_wp2_with (go_at_call 219; refine (within_any _ _ _ _).mono ?_; rintro e w' ⟨rfl, rfl⟩; first | rw [h1] | rw [h2])
      refine bodyPost_ret (v := .tuple #[.agg #[.int .i64 0, .int .i64 0, .map none], .int .i64 3]) (by simp [results, Tryz.results175, go_sem]) rfl (BAD.out HE.out (by decide) (by go_grown))
    · have HE : Aside (P.graphE n m l = P.gr n m [] l) := by show _ = _; rw [P.graphE, h1, h2]; rfl
      have hn : 0 ≤ n ∧ n ≤ 16 := by simp [P.btw] at h1; omega
      have hm : 0 ≤ m ∧ m ≤ 16 := by simp [P.btw] at h2; omega
      go_enter Tryz.func175, Tryz.ntmps175
      go_wp2_with (go_at_call 219; refine (within_any _ _ _ _).mono ?_; rintro e w' ⟨rfl, rfl⟩; first | rw [h1] | rw [h2])
      go_loopg [26] l.length (fun g i wr => ∃ (k : Nat) (seen : List Edge), k ≤ l.length ∧ g = l.length - k ∧ i = .int .i64 k ∧ seen = l.take k ∧ (∀ x ∈ seen, P.inE n m x = true) ∧ RdAt wr w.heap.size n m seen ∧ P.gr n m seen (l.drop k) = P.gr n m [] l ∧ Below w.heap.size w wr)
      case atStart => exact ⟨0, [], Nat.zero_le _, rfl, rfl, rfl, (by simp), rd_new w n m, rfl, by go_grown⟩
      case round =>
        obtain ⟨k, seen, hk, rfl, rfl, hse, hin, hrd, hP, hB⟩ := hrel
        have hBs := hB.size
        have hSl := hrd.lt
        have hset := hrd.set
        have g0 := hrd.g0
        have g1 := hrd.g1
        have g2 := hrd.g2
        have hS2 : w.heap.size + 1 + 1 < wr.heap.size := World.block_lt_of_cell? wr _ g0
        have r0 := hrd.r0
        have r1 := hrd.r1
        have r2 := hrd.r2
        have f0 := hrd.f0 0
        have f1 := hrd.f0 1
        have f2 := hrd.f0 2
        have hsl : seen.length ≤ k := by rw [hse]; simp; omega
        have HI : Aside (∀ x ∈ seen, P.inE n m x = true) := hin
        have HS : Aside (seen = l.take k) := hse
        have HP : Aside (P.gr n m seen (l.drop k) = P.gr n m [] l) := hP
        clear hP hin hse
        by_cases hlt : k < l.length
        · obtain ⟨b, off, x, y, rfl, hbw, hd, hc0, hc1⟩ := hl.get hB k hlt
          rw [hd, P.gr] at HP
          have HG : Aside (l[k] = (x, y)) := getE hlt hd
          clear hd
          cases ha : P.btw x 0 (n - 1)
          · have HX : Aside (P.graphE n m l = 3) := by have := HP.out; rw [P.inE, ha] at this; show _ = _; rw [HE.out, ← this]; rfl
            clear HP
            obtain ⟨k0, k1, k2⟩ := set3A (.int .i64 0) (.int .i64 0) (.map none) (.cells #[.int .i64 x, .int .i64 y] 85) r0 r1 r2
            go_wp2_with (go_at_call 219; refine (within_any _ _ _ _).mono ?_; rintro e w' ⟨rfl, rfl⟩; rw [ha])
            refine bodyPost_ret (v := .tuple #[.agg #[.int .i64 0, .int .i64 0, .map none], .int .i64 3]) (by simp [results, Tryz.results175, go_sem, k0, k1, k2]) rfl (BAD.out HX.out (by decide) (bvia (below_set3 _ _ _ hB (Nat.le_refl _)) (by go_grown)))
          · cases hb : P.btw y 0 (m - 1)
            · have HX : Aside (P.graphE n m l = 3) := by have := HP.out; rw [P.inE, ha, hb] at this; show _ = _; rw [HE.out, ← this]; rfl
              clear HP
              obtain ⟨k0, k1, k2⟩ := set3A (.int .i64 0) (.int .i64 0) (.map none) (.cells #[.int .i64 x, .int .i64 y] 85) r0 r1 r2
              go_wp2_with (go_at_call 219; refine (within_any _ _ _ _).mono ?_; rintro e w' ⟨rfl, rfl⟩; first | rw [ha] | rw [hb])
              refine bodyPost_ret (v := .tuple #[.agg #[.int .i64 0, .int .i64 0, .map none], .int .i64 3]) (by simp [results, Tryz.results175, go_sem, k0, k1, k2]) rfl (BAD.out HX.out (by decide) (bvia (below_set3 _ _ _ hB (Nat.le_refl _)) (by go_grown)))
            · have hxy : 0 ≤ x ∧ x < n ∧ 0 ≤ y ∧ y < m := inE_iff.1 (show P.inE n m (x, y) = true by rw [P.inE, ha, hb]; rfl)
              have hwfs : ∀ z ∈ seen, EdgeWf z := fun z hz => by have := inE_iff.1 (HI.out z hz); exact ⟨wf_small (by omega), wf_small (by omega)⟩
              have hkey : EdgeWf (x, y) := ⟨wf_small (by omega), wf_small (by omega)⟩
              have hone : P.inE n m (x, y) = true := by rw [P.inE, ha, hb]; rfl
              rw [if_pos hone] at HP
              go_wp2_with (go_at_call 219; refine (within_any _ _ _ _).mono ?_; rintro e w' ⟨rfl, rfl⟩; first | rw [ha] | rw [hb])
              refine (graphHas_any (w.heap.size + 1) seen n m x y _ (set_below hset (by go_grown)) hwfs (by omega) (by omega)).mono ?_
              rintro e w1 ⟨rfl, hb1⟩
              have hB1 : Below w.heap.size w w1 := bvia (bvia hB (by go_grown)) hb1
              have hrd1 : RdAt w1 w.heap.size n m seen := (hrd.below (by go_grown)).below hb1
              have x0 : w1.cell? ⟨wr.heap.size, 0, none⟩ = some (.int .i64 x) := cellIn hb1 (by simp)
              have x1 : w1.cell? ⟨wr.heap.size, 1, none⟩ = some (.int .i64 y) := cellIn hb1 (by simp)
              clear g0 g1 g2 r0 r1 r2 f0 f1 f2 hS2 hset hrd hSl
              have hset := hrd1.set
              have g0 := hrd1.g0
              have g1 := hrd1.g1
              have g2 := hrd1.g2
              have hS2 : w.heap.size + 1 + 1 < w1.heap.size := World.block_lt_of_cell? w1 _ g0
              have r0 := hrd1.r0
              have r1 := hrd1.r1
              have r2 := hrd1.r2
              have f0 := hrd1.f0 0
              have f1 := hrd1.f0 1
              have f2 := hrd1.f0 2
              have hSl := hrd1.lt
              cases hh : P.hasEdge seen (x, y)
              · have HX : Aside (P.gr n m (seen ++ [(x, y)]) (l.drop (k + 1)) = P.gr n m [] l) := by have := HP.out; rw [if_neg (by rw [hh]; simp)] at this; exact this
                clear HP
                go_wp2_with (at_mapUpdate; refine wpList_mapUpdate_own _ rfl _ _ _ 193 rfl 85 233 Tryz.lawE Tryz.underlying193 _ (w.heap.size + 1) seen.length _ rfl hset (by simp only [maxLen]; omega) _ _ (P.litE (x, y)) rfl rfl (keyOf_edge hkey) _ [] unitElem_mk ?_; intro w2 hown2 hgrow2)
                go_roundg (l.length - (k + 1))
                case measure => omega
                case rel =>
                  have hs2 : ESet w2 (w.heap.size + 1) (seen ++ [(x, y)]) := by
                    show World.ownsMap _ _ _ _ _ _ _
                    rw [List.map_append, List.map_cons, List.map_nil, setOf_snoc, List.length_append]
                    exact hown2
                  refine ⟨k + 1, seen ++ [(x, y)], by omega, rfl, by go_num, ?_, ?_, hrd1.put hgrow2 hs2, HX.out, grown_below_map hB1 (by omega) hgrow2⟩
                  · rw [List.take_succ_eq_append_getElem hlt, HS.out, HG.out]
                  · intro z hz
                    rcases List.mem_append.1 hz with hz | hz
                    · exact HI.out z hz
                    · simp at hz; subst hz; exact hone
              · have HX : Aside (P.graphE n m l = 6) := by have := HP.out; rw [if_pos hh] at this; show _ = _; rw [HE.out, ← this]
                clear HP
                obtain ⟨k0, k1, k2⟩ := set3 (.int .i64 0) (.int .i64 0) (.map none) r0 r1 r2
                go_wp2
                refine bodyPost_ret (v := .tuple #[.agg #[.int .i64 0, .int .i64 0, .map none], .int .i64 6]) (by simp [results, Tryz.results175, go_sem, k0, k1, k2]) rfl (BAD.out HX.out (by decide) (below_set3 _ _ _ hB1 (Nat.le_refl _)))
        · obtain rfl : k = l.length := by omega
          have HX : Aside (P.graphE n m l = 0) := by
            have := HP.out
            rw [List.drop_of_length_le (Nat.le_refl _), P.gr] at this
            show _ = _
            rw [HE.out, ← this]
          clear HP
          obtain ⟨k0, k1, k2⟩ := set3 (.int .i64 n) (.int .i64 m) (.map (some (w.heap.size + 1))) r0 r1 r2
          have hs3 : seen = l := by rw [HS.out]; exact List.take_of_length_le (Nat.le_refl _)
          subst hs3
          go_wp2
          refine bodyPost_ret (v := .tuple #[.agg #[.int .i64 n, .int .i64 m, .map (some (w.heap.size + 1))], .int .i64 0]) (by simp [results, Tryz.results175, go_sem, k0, k1, k2]) rfl ⟨_, by rw [HX.out], below_set3 _ _ _ hB (Nat.le_refl _), fun h => absurd HX.out h, fun _ => ⟨rfl, ?_⟩⟩
          exact hset.kept (row := some w.heap.size) ⟨rfl, rfl, rfl, by simp, fun j hj hne => by
            have hj' : j ≠ w.heap.size := fun e => hne (by rw [e])
            rw [Go.Deep.blk_setCell_other _ _ _ _ hj', Go.Deep.blk_setCell_other _ _ _ _ hj', Go.Deep.blk_setCell_other _ _ _ _ hj']⟩ (by simp)

end Go.Proofs.YtlamhfbdeinkkaeGreat.Ma
/- How a matching lies in memory; walks of noPairs and first. -/
namespace Go.Proofs.YtlamhfbdeinkkaeGreat.Ma
open Go.RowKit Go.Maps Go.WideMaps
set_option linter.unusedSimpArgs false
set_option linter.unusedVariables false

/-- Nothing that was there is other, but for blocks G and M. -/
structure Mut (G M : Nat) (w w' : World) : Prop where
  os : w'.os = w.os
  tape : w'.tape = w.tape
  output : w'.output = w.output
  size : w.heap.size ≤ w'.heap.size
  block : ∀ k, k < w.heap.size → k ≠ G → k ≠ M → w'.heap[k]? = w.heap[k]?

theorem Mut.refl (G M : Nat) (w : World) : Mut G M w w := ⟨rfl, rfl, rfl, Nat.le_refl _, fun _ _ _ _ => rfl⟩
theorem Mut.trans {G M : Nat} {a b c : World} (h : Mut G M a b) (k : Mut G M b c) : Mut G M a c :=
  ⟨k.os.trans h.os, k.tape.trans h.tape, k.output.trans h.output, Nat.le_trans h.size k.size, fun j h1 h2 h3 => (k.block j (Nat.lt_of_lt_of_le h1 h.size) h2 h3).trans (h.block j h1 h2 h3)⟩
theorem Mut.ofBelow {G M : Nat} {w w' : World} (h : Below w.heap.size w w') : Mut G M w w' := ⟨h.os, h.tape, h.output, h.size, fun k hk _ _ => h.block k hk⟩
theorem Mut.ofGrown {G M : Nat} {w w' : World} (h : w.grownBy w' (some M)) : Mut G M w w' := ⟨h.os, h.tape, h.output, h.size, fun k hk _ h2 => h.block k hk (by simpa using h2)⟩
theorem Mut.ofSet {G M o : Nat} {w : World} {v : Value} : Mut G M w (w.setCell ⟨G, o, none⟩ v) := ⟨rfl, rfl, rfl, by simp, fun k _ h1 _ => Go.Deep.blk_setCell_other _ _ _ _ h1⟩
theorem Mut.cell {G M b o : Nat} {w w' : World} {v : Value} (h : Mut G M w w') (hc : w.cell? ⟨b, o, none⟩ = some v) (h1 : b ≠ G) (h2 : b ≠ M) : w'.cell? ⟨b, o, none⟩ = some v := by
  have := h.block b (World.block_lt_of_cell? w _ hc) h1 h2
  rw [← hc]
  simp only [World.cell?, this]
theorem Mut.map {G M B n : Nat} {w w' : World} {K : TypeId} {D : DataW Unit} (h : Mut G M w w') (hm : w.ownsMap Tryz.prog K (unitElem (H := Unit)) B n D) (h1 : B ≠ G) (h2 : B ≠ M) : w'.ownsMap Tryz.prog K (unitElem (H := Unit)) B n D := by
  have hb := h.block B hm.lt h1 h2
  obtain ⟨es, clock, hk, F, hs, hD⟩ := hm
  exact ⟨es, clock, hb.trans hk, F, hs, hD⟩
theorem Mut.below {G M : Nat} {w0 w w' : World} (hB : Below w0.heap.size w0 w) (h : Mut G M w w') (hG : w0.heap.size ≤ G) (hM : w0.heap.size ≤ M) : Below w0.heap.size w0 w' :=
  ⟨h.os.trans hB.os, h.tape.trans hB.tape, h.output.trans hB.output, Nat.le_trans hB.size h.size, fun k hk => (h.block k (Nat.lt_of_lt_of_le hk hB.size) (by omega) (by omega)).trans (hB.block k hk)⟩

/-- A matching in memory: B the set of edges, G who has each right one (below 0: nobody), M the right ones that were asked. -/
structure PSt (w : World) (B G M : Nat) (E : List Edge) (R : Nat) (s : Nat → Int) (A : List Int) : Prop where
  edges : ESet w B E
  owner : w.rowIs G 3 R (fun r => .int .i64 (s r))
  asked : ISet w M A
  bg : B ≠ G
  bm : B ≠ M
  gm : G ≠ M
theorem PSt.below {w w' : World} {B G M : Nat} {E : List Edge} {R : Nat} {s : Nat → Int} {A : List Int} (h : PSt w B G M E R s A) (hb : Below w.heap.size w w') : PSt w' B G M E R s A :=
  ⟨set_below h.edges hb, h.owner.of_block (hb.block G h.owner.lt), set_below h.asked hb, h.bg, h.bm, h.gm⟩

theorem set4 {v : World} {S : Nat} {x y z u : Value} (a b c d : Value) (h0 : v.cell? ⟨S, 0, none⟩ = some x) (h1 : v.cell? ⟨S, 1, none⟩ = some y) (h2 : v.cell? ⟨S, 2, none⟩ = some z) (h3 : v.cell? ⟨S, 3, none⟩ = some u) :
    ((((v.setCell ⟨S, 0, none⟩ a).setCell ⟨S, 1, none⟩ b).setCell ⟨S, 2, none⟩ c).setCell ⟨S, 3, none⟩ d).cell? ⟨S, 0, none⟩ = some a ∧ ((((v.setCell ⟨S, 0, none⟩ a).setCell ⟨S, 1, none⟩ b).setCell ⟨S, 2, none⟩ c).setCell ⟨S, 3, none⟩ d).cell? ⟨S, 1, none⟩ = some b ∧
    ((((v.setCell ⟨S, 0, none⟩ a).setCell ⟨S, 1, none⟩ b).setCell ⟨S, 2, none⟩ c).setCell ⟨S, 3, none⟩ d).cell? ⟨S, 2, none⟩ = some c ∧ ((((v.setCell ⟨S, 0, none⟩ a).setCell ⟨S, 1, none⟩ b).setCell ⟨S, 2, none⟩ c).setCell ⟨S, 3, none⟩ d).cell? ⟨S, 3, none⟩ = some d := by
  obtain ⟨k0, k1, k2⟩ := set3 a b c h0 h1 h2
  refine ⟨?_, ?_, ?_, ?_⟩
  · rw [World.cell?_setCell_other (h := by simp)]; exact k0
  · rw [World.cell?_setCell_other (h := by simp)]; exact k1
  · rw [World.cell?_setCell_other (h := by simp)]; exact k2
  · rw [World.cell?_setCell_same (u := u) (h := by rw [World.cell?_setCell_other (h := by simp), World.cell?_setCell_other (h := by simp), World.cell?_setCell_other (h := by simp)]; exact h3)]

set_option maxHeartbeats 2000000 in
theorem noPairs_any (n R B : Nat) (hR : R ≤ 16) (w : World) :
    Calls Tryz.prog 176 #[.agg #[.int .i64 n, .int .i64 R, .map (some B)]] w fun e w' => e = .returned (.agg #[.int .i64 n, .int .i64 R, .map (some B), .slice (some ⟨w.heap.size + 1 + 1, 0, none⟩) R R]) ∧ w'.rowIs (w.heap.size + 1 + 1) 3 R (fun _ => .int .i64 (-1)) ∧ Below w.heap.size w w' := by
  obtain ⟨i0, hi, hi0, hi1, hi2⟩ := info_parts Tryz.infoInt
  have HI : Aside (Tryz.prog.info? 3 = some i0 ∧ i0.zero = some (.int .i64 0) ∧ i0.size = 1 ∧ i0.bytes = 8) := ⟨hi, hi0, hi1, hi2⟩
  clear hi hi0 hi1 hi2
  go_enter Tryz.func176, Tryz.ntmps176
  go_wp2_with (at_make; refine wpList_make_full _ (by rfl) _ _ 47 (by rfl) w.heap.size 3 i0 _ 1 Tryz.underlying47 HI.out.1 HI.out.2.1 HI.out.2.2.1 _ _ _ _ R (by rfl) (by rfl) rfl rfl (by rw [HI.out.2.2.2]; omega) (by unfold maxLen; omega) (by simp; omega) ?_; intro w1 hrow1 hgr1; have hb1 := below_grown hgr1; have hB1 : Below w.heap.size w w1 := bvia (by go_grown) hb1; have HR1 : Aside (w1.rowIs (w.heap.size + 1 + 1) 3 R (fun _ => .int .i64 0)) := (by show World.rowIs _ _ _ _ _; have := row_of_made hrow1; simpa using this); clear hrow1 hgr1)
  have c0 : w1.cell? ⟨w.heap.size, 0, none⟩ = some (.int .i64 n) := cellIn hb1 (by go_simp)
  have c1 : w1.cell? ⟨w.heap.size, 1, none⟩ = some (.int .i64 R) := cellIn hb1 (by go_simp)
  have c2 : w1.cell? ⟨w.heap.size, 2, none⟩ = some (.map (some B)) := cellIn hb1 (by go_simp)
  have d0 : w1.cell? ⟨w.heap.size + 1, 0, none⟩ = some (.int .i64 0) := cellIn hb1 (by go_simp)
  have d1 : w1.cell? ⟨w.heap.size + 1, 1, none⟩ = some (.int .i64 0) := cellIn hb1 (by go_simp)
  have d2 : w1.cell? ⟨w.heap.size + 1, 2, none⟩ = some (.map none) := cellIn hb1 (by go_simp)
  have d3 : w1.cell? ⟨w.heap.size + 1, 3, none⟩ = some (.slice none 0 0) := cellIn hb1 (by go_simp)
  have df : ∀ j, w1.frozen? ⟨w.heap.size + 1, j, none⟩ = false := fun j => (hb1.frozen (p := ⟨w.heap.size + 1, j, none⟩) (by simp)).trans (by go_simp)
  have hz1 : w.heap.size + 1 + 1 < w1.heap.size := HR1.out.lt
  clear hb1 HI
  go_wp2
  go_loopg [10] R (fun g i wr => ∃ (k : Nat), k ≤ R ∧ g = R - k ∧ i = .int .i64 k ∧ wr.rowIs (w.heap.size + 1 + 1) 3 R (fun r => .int .i64 (if r < k then -1 else 0)) ∧ Below (w.heap.size + 1 + 1) w1 wr)
  case atStart => exact ⟨0, Nat.zero_le _, rfl, rfl, HR1.out.congr (fun r _ => by simp), Below.refl _ _⟩
  case round =>
    obtain ⟨k, hk, rfl, rfl, hR2, hb⟩ := hrel
    have HR : Aside (wr.rowIs (w.heap.size + 1 + 1) 3 R (fun r => .int .i64 (if r < k then -1 else 0))) := hR2
    have hzr : w.heap.size + 1 + 1 < wr.heap.size := hR2.lt
    by_cases hlt : k < R
    · have hce : wr.cell? ⟨w.heap.size + 1 + 1, k, none⟩ = some (.int .i64 0) := by rw [hR2.cell hlt, if_neg (by omega)]
      have hfr := hR2.frozen k
      clear hR2
      go_wp2
      go_roundg (R - (k + 1))
      case measure => omega
      case rel =>
        refine ⟨k + 1, by omega, rfl, by go_num, (HR.out.set k _).congr (fun r hr => ?_), hb.setCell (by simp) _⟩
        by_cases e : r = k
        · rw [if_pos e, if_pos (by omega)]
        · rw [if_neg e]
          by_cases e2 : r < k
          · rw [if_pos e2, if_pos (by omega)]
          · rw [if_neg e2, if_neg (by omega)]
    · obtain rfl : k = R := by omega
      clear hR2
      have x0 := (hb.cell (p := ⟨w.heap.size, 0, none⟩) (by show w.heap.size < _; omega)).trans c0
      have x1 := (hb.cell (p := ⟨w.heap.size, 1, none⟩) (by show w.heap.size < _; omega)).trans c1
      have x2 := (hb.cell (p := ⟨w.heap.size, 2, none⟩) (by show w.heap.size < _; omega)).trans c2
      have y0 := (hb.cell (p := ⟨w.heap.size + 1, 0, none⟩) (by show w.heap.size + 1 < _; omega)).trans d0
      have y1 := (hb.cell (p := ⟨w.heap.size + 1, 1, none⟩) (by show w.heap.size + 1 < _; omega)).trans d1
      have y2 := (hb.cell (p := ⟨w.heap.size + 1, 2, none⟩) (by show w.heap.size + 1 < _; omega)).trans d2
      have y3 := (hb.cell (p := ⟨w.heap.size + 1, 3, none⟩) (by show w.heap.size + 1 < _; omega)).trans d3
      have f0 := (hb.frozen (p := ⟨w.heap.size + 1, 0, none⟩) (by show w.heap.size + 1 < _; omega)).trans (df 0)
      have f1 := (hb.frozen (p := ⟨w.heap.size + 1, 1, none⟩) (by show w.heap.size + 1 < _; omega)).trans (df 1)
      have f2 := (hb.frozen (p := ⟨w.heap.size + 1, 2, none⟩) (by show w.heap.size + 1 < _; omega)).trans (df 2)
      have f3 := (hb.frozen (p := ⟨w.heap.size + 1, 3, none⟩) (by show w.heap.size + 1 < _; omega)).trans (df 3)
      obtain ⟨k0, k1, k2, k3⟩ := set4 (.int .i64 n) (.int .i64 k) (.map (some B)) (.slice (some ⟨w.heap.size + 1 + 1, 0, none⟩) k k) y0 y1 y2 y3
      clear c0 c1 c2 d0 d1 d2 d3 df
      go_wp2
      refine bodyPost_ret (v := .agg #[.int .i64 n, .int .i64 k, .map (some B), .slice (some ⟨w.heap.size + 1 + 1, 0, none⟩) k k]) (by simp [results, Tryz.results176, go_sem, k0, k1, k2, k3]) rfl ⟨rfl, ?_, ?_⟩
      · have h := HR.out.congr (g := fun _ => .int .i64 (-1)) (fun r hr => by rw [if_pos hr])
        exact (((h.setOther (a := ⟨w.heap.size + 1, 0, none⟩) (by simp) _).setOther (a := ⟨w.heap.size + 1, 1, none⟩) (by simp) _).setOther (a := ⟨w.heap.size + 1, 2, none⟩) (by simp) _).setOther (a := ⟨w.heap.size + 1, 3, none⟩) (by simp) _
      · have hB : Below w.heap.size w wr := hB1.trans (hb.mono (by omega))
        exact (((hB.setCell (p := ⟨w.heap.size + 1, 0, none⟩) (by simp) _).setCell (p := ⟨w.heap.size + 1, 1, none⟩) (by simp) _).setCell (p := ⟨w.heap.size + 1, 2, none⟩) (by simp) _).setCell (p := ⟨w.heap.size + 1, 3, none⟩) (by simp) _

set_option maxHeartbeats 1000000 in
/-- 'first', with whatever function literal: it may change things; I k holds ahead of its k-th call, J k where it answers yes. -/
theorem first_inv (n F : Nat) (cs : Array Value) (I : Nat → World → Prop) (J : Nat → World → Prop) (w : World) (hn : n ≤ 1000) (h0 : Hid (I 0 w))
    (hcf : ∀ (args : Array Value) (wx : World), (callFunc F args).run Tryz.prog wx = .ok (.enter F args) wx)
    (hp : Hid (∀ (k : Nat) (wx : World), k < n → I k wx → Calls Tryz.prog F (#[.int .i64 k] ++ cs) wx fun e w' => (e = .returned (.bool false) ∧ I (k + 1) w') ∨ (e = .returned (.bool true) ∧ J k w'))) :
    Calls Tryz.prog 223 #[.int .i64 n, .func (.func F) #[] cs] w fun e w' => (e = .returned (.int .i64 n) ∧ I n w') ∨ ∃ k : Nat, k < n ∧ e = .returned (.int .i64 k) ∧ J k w' := by
  go_enter Tryz.func223, Tryz.ntmps223
  go_wp2
  go_loopg [7] n (fun g i wr => ∃ (k : Nat), k ≤ n ∧ g = n - k ∧ i = .int .i64 k ∧ Hid (I k wr))
  case atStart => exact ⟨0, Nat.zero_le _, rfl, rfl, h0⟩
  case round =>
    obtain ⟨k, hk, rfl, rfl, hI⟩ := hrel
    by_cases hlt : k < n
    · go_wp2_with fail
      refine (hp.out k _ hlt hI.out).mono ?_
      rintro e w1 (⟨rfl, hi1⟩ | ⟨rfl, hj1⟩)
      · have HI1 : Hid (I (k + 1) w1) := hi1
        clear hi1
        go_wp2
        go_roundg (n - (k + 1))
        case measure => omega
        case rel => exact ⟨k + 1, by omega, rfl, by go_num, HI1⟩
      · have HJ1 : Hid (J k w1) := hj1
        clear hj1
        go_wp2
        go_ret
        exact .inr ⟨k, hlt, rfl, HJ1.out⟩
    · obtain rfl : k = n := by omega
      go_wp2
      go_ret
      exact .inl ⟨rfl, hI.out⟩

end Go.Proofs.YtlamhfbdeinkkaeGreat.Ma
/- Paths by which one more is matched; what find and its function literal leave. -/
namespace Go.Proofs.YtlamhfbdeinkkaeGreat.Ma
open Go.RowKit Go.Maps Go.WideMaps
set_option linter.unusedSimpArgs false
set_option linter.unusedVariables false

/-- A path from a left one x: each right one but the last has an owner, who goes on; the last has none. -/
def Alt (E : List Edge) (s : Nat → Int) : Int → List Nat → Prop
  | _, [] => False
  | x, r :: p => (x, (r : Int)) ∈ E ∧ ((p = [] ∧ s r = -1) ∨ (s r ≠ -1 ∧ Alt E s (s r) p))
/-- Who has each right one, when each on the path has given up what it has. -/
def P.shift (s : Nat → Int) : Int → List Nat → (Nat → Int)
  | _, [] => s
  | x, r :: p => fun j => if j = r then x else P.shift s (s r) p j
theorem shift_off (s : Nat → Int) : ∀ (p : List Nat) (x : Int) (j : Nat), j ∉ p → P.shift s x p j = s j := by
  intro p
  induction p with
  | nil => intro x j _; rfl
  | cons r p ih =>
    intro x j hj
    simp at hj
    show (if j = r then x else P.shift s (s r) p j) = s j
    rw [if_neg hj.1]
    exact ih _ _ hj.2

structure Dead (E : List Edge) (R : Nat) (s : Nat → Int) (A A' : List Int) : Prop where
  sub : ∀ a ∈ A, a ∈ A'
  nodup : A'.Nodup
  rng : ∀ a ∈ A', 0 ≤ a ∧ a < (R : Int)
  own : ∀ r : Nat, (r : Int) ∈ A' → ¬ (r : Int) ∈ A → s r ≠ -1 ∧ ∀ q : Int, (s r, q) ∈ E → q ∈ A'
structure Path (E : List Edge) (R : Nat) (s : Nat → Int) (A : List Int) (x : Int) (p : List Nat) : Prop where
  alt : Alt E s x p
  nodup : p.Nodup
  fresh : ∀ r ∈ p, r < R ∧ ¬ (r : Int) ∈ A

theorem Dead.refl {E : List Edge} {R : Nat} {s : Nat → Int} {A : List Int} (h1 : A.Nodup) (h2 : ∀ a ∈ A, 0 ≤ a ∧ a < (R : Int)) : Dead E R s A A := ⟨fun _ h => h, h1, h2, fun _ h k => absurd h k⟩
theorem Dead.trans {E : List Edge} {R : Nat} {s : Nat → Int} {A B C : List Int} (h : Dead E R s A B) (k : Dead E R s B C) : Dead E R s A C := by
  refine ⟨fun a ha => k.sub a (h.sub a ha), k.nodup, k.rng, fun r hr hn => ?_⟩
  by_cases e : (r : Int) ∈ B
  · obtain ⟨h1, h2⟩ := h.own r e hn
    exact ⟨h1, fun q hq => k.sub q (h2 q hq)⟩
  · exact k.own r hr e

/-- What find, asked for a left one x with A asked already, leaves. -/
def FindPost (B G M : Nat) (E : List Edge) (R : Nat) (s : Nat → Int) (A : List Int) (x : Int) (w : World) (e : Ending) (w' : World) : Prop :=
  ∃ (b : Bool) (A' : List Int) (s' : Nat → Int), e = .returned (.bool b) ∧ PSt w' B G M E R s' A' ∧ Mut G M w w' ∧ (b = false → s' = s ∧ Dead E R s A A' ∧ ∀ q : Int, (x, q) ∈ E → q ∈ A') ∧ (b = true → ∃ p, s' = P.shift s x p ∧ Path E R s A x p)

/-- The variables that find's function literal sees. -/
structure FnAt (w : World) (ga gp gx : Nat) (n R : Nat) (B G M : Nat) (x : Int) : Prop where
  a0 : w.cell? ⟨ga, 0, none⟩ = some (.map (some M))
  p0 : w.cell? ⟨gp, 0, none⟩ = some (.int .i64 n)
  p1 : w.cell? ⟨gp, 1, none⟩ = some (.int .i64 R)
  p2 : w.cell? ⟨gp, 2, none⟩ = some (.map (some B))
  p3 : w.cell? ⟨gp, 3, none⟩ = some (.slice (some ⟨G, 0, none⟩) R R)
  x0 : w.cell? ⟨gx, 0, none⟩ = some (.int .i64 x)
  ag : ga ≠ G
  am : ga ≠ M
  pg : gp ≠ G
  pm : gp ≠ M
  xg : gx ≠ G
  xm : gx ≠ M
theorem FnAt.mut {w w' : World} {ga gp gx n R B G M : Nat} {x : Int} (h : FnAt w ga gp gx n R B G M x) (k : Mut G M w w') : FnAt w' ga gp gx n R B G M x :=
  ⟨k.cell h.a0 h.ag h.am, k.cell h.p0 h.pg h.pm, k.cell h.p1 h.pg h.pm, k.cell h.p2 h.pg h.pm, k.cell h.p3 h.pg h.pm, k.cell h.x0 h.xg h.xm, h.ag, h.am, h.pg, h.pm, h.xg, h.xm⟩

/-- The graph and who has each right one are right. -/
structure Right (n R : Nat) (E : List Edge) (s : Nat → Int) : Prop where
  n16 : n ≤ 16
  r16 : R ≤ 16
  edge : ∀ x ∈ E, 0 ≤ x.1 ∧ x.1 < (n : Int) ∧ 0 ≤ x.2 ∧ x.2 < (R : Int)
  own : ∀ r, r < R → s r = -1 ∨ (0 ≤ s r ∧ s r < (n : Int))

/-- find does, with fewer than f right ones that were not asked. -/
def FindOk (n R B G M : Nat) (E : List Edge) (s : Nat → Int) (f : Nat) : Prop :=
  ∀ (A : List Int) (x : Int) (w : World), R - A.length < f → A.Nodup → (∀ a ∈ A, 0 ≤ a ∧ a < (R : Int)) → 0 ≤ x → x < (n : Int) → PSt w B G M E R s A →
    Calls Tryz.prog 177 #[.agg #[.int .i64 n, .int .i64 R, .map (some B), .slice (some ⟨G, 0, none⟩) R R], .int .i64 x, .map (some M)] w (FindPost B G M E R s A x w)

theorem pigeon : ∀ (n : Nat) (l : List Int), l.Nodup → (∀ x ∈ l, 0 ≤ x ∧ x < (n : Int)) → l.length ≤ n := by
  intro n
  induction n with
  | zero =>
    intro l _ hl
    cases l with
    | nil => simp
    | cons y l => have := hl y (by simp); omega
  | succ n ih =>
    intro l hn hl
    by_cases hm : (n : Int) ∈ l
    · have := ih (l.erase n) (hn.erase _) (fun x hx => by
        have h3 := hl x (List.mem_of_mem_erase hx)
        have h4 : x ≠ n := by
          intro e
          rw [e] at hx
          exact hn.not_mem_erase hx
        omega)
      rw [List.length_erase_of_mem hm] at this
      omega
    · have := ih l hn (fun x hx => by
        have h3 := hl x hx
        have h4 : x ≠ n := fun e => hm (e ▸ hx)
        omega)
      omega

theorem arr4 (a b c d : Value) : (#[a] ++ #[b, c, d] : Array Value) = #[a, b, c, d] := rfl

/-- What find's function literal leaves at a right one k. -/
def YieldPost (B G M : Nat) (E : List Edge) (R : Nat) (s : Nat → Int) (A : List Int) (x : Int) (k : Nat) (w : World) (e : Ending) (w' : World) : Prop :=
  ∃ (b : Bool) (A' : List Int) (s' : Nat → Int), e = .returned (.bool b) ∧ PSt w' B G M E R s' A' ∧ Mut G M w w' ∧ (b = false → s' = s ∧ Dead E R s A A' ∧ ((x, (k : Int)) ∈ E → (k : Int) ∈ A')) ∧ (b = true → ∃ p, s' = P.shift s (s k) p ∧ Path E R s A x (k :: p))

theorem nodup_snoc {A : List Int} {k : Int} (h : A.Nodup) (hk : ¬ k ∈ A) : (A ++ [k]).Nodup :=
  List.nodup_append.2 ⟨h, by simp, by intro x hx y hy; simp at hy; subst hy; intro e; exact hk (e ▸ hx)⟩

end Go.Proofs.YtlamhfbdeinkkaeGreat.Ma
