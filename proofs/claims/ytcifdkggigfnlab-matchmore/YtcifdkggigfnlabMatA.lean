/- Sets of numbers and of edges that a call makes; walks of marks.has, graph.has, within. -/
import Derived.Test.YtcifdkggigfnlabCntC
import Derived.Test.YtcifdkggigfnlabOpenC
import Derived.Maps.OwnSet
import Derived.Maps.OwnOps
import Derived.DeepKeys4
namespace Go.Proofs.Ytcifdkggigfnlab
open Go.RowKit Go.Maps Go.WideMaps
set_option linter.unusedSimpArgs false
set_option linter.unusedVariables false

abbrev Edge := Int × Int

theorem Try.rowE : (52 : TypeId) < Try.prog.types.size := of_decide_eq_true (by kernel_rfl)
theorem Try.wideE : (match Try.prog.underlying 52 with | some (.array _ _) | some (.struct _) => true | _ => false) = true := by kernel_rfl
theorem Try.lawE : Keyed Try.prog 52 := Keyed.of_law (deep_law_laid Try.laidOut (m := 2) (by omega) Try.rowE (by kernel_rfl) Try.wideE)
theorem Try.lawI : Keyed Try.prog 3 := int_keyed Try.underlying3
theorem Try.zeroUnit (w : World) : (zeroValue 81).run Try.prog w = .ok (.agg #[]) w := by kernel_rfl

def P.litI (n : Int) : Lit := .int .i64 n
def P.litE (x : Edge) : Lit := .string (keyBytes [.int .i64 x.1, .int .i64 x.2])
/-- An edge whose ends are numbers that a word has. -/
def EdgeWf (x : Edge) : Prop := (Lit.int .i64 x.1).wf = true ∧ (Lit.int .i64 x.2).wf = true

theorem keyOf_edge {a b : Int} (h : EdgeWf (a, b)) : keyOf Try.prog 52 (.agg #[.int .i64 a, .int .i64 b]) = some (P.litE (a, b)) := by
  obtain ⟨wa, wb⟩ := h
  have hsz : ∃ m, Try.prog.types.size = m + 1 := ⟨Try.prog.types.size - 1, (Nat.succ_pred_eq_of_pos (Nat.lt_of_le_of_lt (Nat.zero_le _) Try.rowE)).symm⟩
  have hkt : Try.prog.keyType 52 = true := by kernel_rfl
  obtain ⟨m, hm⟩ := hsz
  unfold keyOf
  simp only [Try.underlying52]
  rw [if_pos (by simp [hkt, Value.formed, Try.underlying52, Try.cellsEdge]), hm]
  unfold Program.keyLits
  simp only [Try.underlying52, Value.cells]
  rw [if_pos (by rw [Try.cellsEdge]; exact ⟨rfl, by decide +kernel⟩)]
  simp [List.mapM_cons, Program.keyLits, Try.underlying3, Try.cellsInt, wa, wb, P.litE]

theorem litE_inj {x y : Edge} (hx : EdgeWf x) (hy : EdgeWf y) (h : P.litE x = P.litE y) : x = y := by
  have h1 : keyBytes [.int .i64 x.1, .int .i64 x.2] = keyBytes [.int .i64 y.1, .int .i64 y.2] := by simpa [P.litE] using h
  have h2 := keyBytes_inj (l := [.int .i64 x.1, .int .i64 x.2]) (l' := [.int .i64 y.1, .int .i64 y.2]) ⟨rfl, rfl, trivial⟩ (by intro a ha; simp at ha; rcases ha with rfl | rfl; exact hx.1; exact hx.2) (by intro a ha; simp at ha; rcases ha with rfl | rfl; exact hy.1; exact hy.2) h1
  simp at h2
  exact Prod.ext h2.1 h2.2

/-- Block B is a set that has just these. -/
abbrev ISet (w : World) (B : Nat) (l : List Int) : Prop := w.ownsMap Try.prog 3 (unitElem (H := Unit)) B l.length (setOf (.agg []) (l.map P.litI))
abbrev ESet (w : World) (B : Nat) (l : List Edge) : Prop := w.ownsMap Try.prog 52 (unitElem (H := Unit)) B l.length (setOf (.agg []) (l.map P.litE))
def P.hasInt (l : List Int) (n : Int) : Bool := l.any fun x => decide (x = n)
def P.hasEdge (l : List Edge) (e : Edge) : Bool := l.any fun x => decide (x = e)

theorem has_ints (l : List Int) (n : Int) : Maps.has (setOf (H := Unit) (.agg []) (l.map P.litI)) (P.litI n) = P.hasInt l n := by
  rw [has_setOf]
  · unfold P.hasInt P.litI
    rw [List.any_map]
    congr 1
    funext x
    simp [Lit.sameKey]
  · intro x hx
    rw [List.mem_map] at hx
    obtain ⟨y, _, rfl⟩ := hx
    simp [P.litI, WideAt.IsKeyLit]
theorem has_edges (l : List Edge) (e : Edge) (hl : ∀ x ∈ l, EdgeWf x) (he : EdgeWf e) : Maps.has (setOf (H := Unit) (.agg []) (l.map P.litE)) (P.litE e) = P.hasEdge l e := by
  rw [has_setOf]
  · unfold P.hasEdge
    rw [List.any_map, Bool.eq_iff_iff, List.any_eq_true, List.any_eq_true]
    constructor
    · rintro ⟨x, hx, h⟩
      refine ⟨x, hx, ?_⟩
      simp only [Function.comp, P.litE, Lit.sameKey] at h
      have h2 : P.litE x = P.litE e := by simpa [P.litE] using h
      simp [litE_inj (hl x hx) he h2]
    · rintro ⟨x, hx, h⟩
      simp at h
      subst h
      exact ⟨x, hx, by simp [P.litE, Lit.sameKey]⟩
  · intro x hx
    rw [List.mem_map] at hx
    obtain ⟨y, _, rfl⟩ := hx
    simp [P.litE, WideAt.IsKeyLit]
theorem hasInt_iff (l : List Int) (n : Int) : P.hasInt l n = true ↔ n ∈ l := by
  unfold P.hasInt
  rw [List.any_eq_true]
  constructor
  · rintro ⟨x, hx, h⟩; simp at h; exact h ▸ hx
  · intro h; exact ⟨n, h, by simp⟩
theorem hasEdge_iff (l : List Edge) (n : Edge) : P.hasEdge l n = true ↔ n ∈ l := by
  unfold P.hasEdge
  rw [List.any_eq_true]
  constructor
  · rintro ⟨x, hx, h⟩; simp at h; exact h ▸ hx
  · intro h; exact ⟨n, h, by simp⟩

theorem ISet.made (w : World) : ISet (w.alloc (.map #[] 0)) w.heap.size [] := World.ownsMap_made _ _ _ _
theorem ESet.made (w : World) : ESet (w.alloc (.map #[] 0)) w.heap.size [] := World.ownsMap_made _ _ _ _
theorem set_below {w w' : World} {K : TypeId} {B n : Nat} {D : DataW Unit} (h : w.ownsMap Try.prog K (unitElem (H := Unit)) B n D) (hb : Below w.heap.size w w') : w'.ownsMap Try.prog K (unitElem (H := Unit)) B n D :=
  h.kept ⟨hb.os, hb.tape, hb.output, hb.size, fun k hk _ => hb.block k hk⟩ (row := none) (by simp)
theorem wf_small {n : Int} (h : 0 ≤ n ∧ n ≤ 16) : (Lit.int .i64 n).wf = true := WalkArith.wf_i64 (by omega)

set_option maxHeartbeats 400000 in
theorem within_any (n a b : Int) (w : World) :
    Calls Try.prog 52 #[.int .i64 n, .int .i64 a, .int .i64 b] w fun e w' => e = .returned (.bool (P.btw n a b)) ∧ w = w' := by
  by_cases h1 : a ≤ n <;> by_cases h2 : n ≤ b
  all_goals
    go_enter Try.func52, Try.ntmps52
    go_wp2
    go_ret
    simp [P.btw, h1, h2]

set_option maxHeartbeats 1000000 in
theorem marksHas_any (M : Nat) (A : List Int) (k : Int) (w : World) (hA : ISet w M A) (hk : 0 ≤ k ∧ k ≤ 16) :
    Calls Try.prog 55 #[.map (some M), .int .i64 k] w fun e w' => e = .returned (.bool (P.hasInt A k)) ∧ Below w.heap.size w w' := by
  have hwf := wf_small hk
  go_enter Try.func55, Try.ntmps55
  go_wp2_with (at_lookup; refine wpList_lookup_own_unit _ rfl _ _ 74 rfl 3 81 Try.lawI Try.underlying74 (Try.zeroUnit _) M A.length _ rfl hA _ (P.litI k) rfl (keyOf_int_mk Try.underlying3 hwf) ?_; rw [has_ints])
  go_ret
  exact ⟨rfl, by go_grown⟩

set_option maxHeartbeats 1000000 in
theorem graphHas_any (B : Nat) (E : List Edge) (gl gr a b : Int) (w : World) (hE : ESet w B E) (hwf : ∀ x ∈ E, EdgeWf x) (ha : 0 ≤ a ∧ a ≤ 16) (hb : 0 ≤ b ∧ b ≤ 16) :
    Calls Try.prog 53 #[.agg #[.int .i64 gl, .int .i64 gr, .map (some B)], .agg #[.int .i64 a, .int .i64 b]] w fun e w' => e = .returned (.bool (P.hasEdge E (a, b))) ∧ Below w.heap.size w w' := by
  have hk : EdgeWf (a, b) := ⟨wf_small ha, wf_small hb⟩
  have HH : Aside (Maps.has (setOf (H := Unit) (.agg []) (E.map P.litE)) (P.litE (a, b)) = P.hasEdge E (a, b)) := has_edges E (a, b) hwf hk
  clear hwf
  go_enter Try.func53, Try.ntmps53
  go_wp2_with (at_lookup; refine wpList_lookup_own_unit _ rfl _ _ 64 rfl 52 81 Try.lawE Try.underlying64 (Try.zeroUnit _) B E.length _ rfl (set_below hE (by go_grown)) _ (P.litE (a, b)) rfl (keyOf_edge hk) ?_; rw [HH.out])
  go_ret
  exact ⟨rfl, by go_grown⟩

end Go.Proofs.Ytcifdkggigfnlab
