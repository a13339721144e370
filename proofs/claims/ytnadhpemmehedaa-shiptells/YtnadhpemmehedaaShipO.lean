/- The reference's table (a slice of rows that the call makes): how it lies; the walk of ServeTable. -/
import Derived.Test.YtnadhpemmehedaaShipN
import Derived.Deep.AppendLies
import Derived.Deep.OwnRows
namespace Go.Proofs.Ytnadhpemmehedaa
open Go.RowKit
set_option linter.unusedSimpArgs false
set_option linter.unusedVariables false
set_option linter.unnecessarySimpa false

/-- Behind ⟨g, 0⟩ lie n rows; row i lies in block B i, and holds T i. -/
structure TblAt (w : World) (base n g : Nat) (B : Nat → Nat) (T : Tab) : Prop where
  lo : base ≤ g
  rlo : ∀ i, i < n → base ≤ B i ∧ B i ≠ g
  inj : ∀ i j, i < n → j < n → B i = B j → i = j
  out : ∀ i, i < n → w.cell? ⟨g, i, none⟩ = some (.slice (some ⟨B i, 0, none⟩) n n)
  row : ∀ i, i < n → w.rowIs (B i) 4 n (fun j => .bool (T i j))

section
variable {w w' : World} {base n g : Nat} {B : Nat → Nat} {T T' : Tab}
theorem TblAt.get (h : TblAt w base n g B T) {i j : Nat} (hi : i < n) (hj : j < n) : w.cell? ⟨B i, j, none⟩ = some (.bool (T i j)) := (h.row i hi).cell hj
theorem TblAt.frozen (h : TblAt w base n g B T) {i : Nat} (hi : i < n) (j : Nat) : w.frozen? ⟨B i, j, none⟩ = false := (h.row i hi).frozen j
theorem TblAt.congr (h : TblAt w base n g B T) (e : ∀ x y, x < n → y < n → T x y = T' x y) : TblAt w base n g B T' :=
  ⟨h.lo, h.rlo, h.inj, h.out, fun i hi => (h.row i hi).congr fun j hj => by rw [e i j hi hj]⟩
theorem TblAt.below (h : TblAt w base n g B T) (hb : Below w.heap.size w w') : TblAt w' base n g B T :=
  ⟨h.lo, h.rlo, h.inj, fun i hi => cellIn hb (h.out i hi), fun i hi => (h.row i hi).of_block (hb.block _ (h.row i hi).lt)⟩
theorem TblAt.put (h : TblAt w base n g B T) {i j : Nat} {v : Bool} (hi : i < n) (hj : j < n) (h1 : T' i j = v) (h2 : ∀ x y, x < n → y < n → ¬ (x = i ∧ y = j) → T' x y = T x y) : TblAt (w.setCell ⟨B i, j, none⟩ (.bool v)) base n g B T' := by
  refine ⟨h.lo, h.rlo, h.inj, fun k hk => ?_, fun k hk => ?_⟩
  · rw [World.cell?_of_block (Below.heap_setCell w ⟨B i, j, none⟩ (.bool v) g (fun e => (h.rlo i hi).2 e.symm))]
    exact h.out k hk
  · by_cases e : k = i
    · subst e
      refine World.rowIs.congr (World.rowIs.set (h.row k hk) j (.bool v)) fun y hy => ?_
      by_cases e2 : y = j
      · rw [if_pos e2, e2, h1]
      · rw [if_neg e2, h2 k y hk hy (by omega)]
    · refine World.rowIs.congr (World.rowIs.setOther (h.row k hk) (fun e2 => e (h.inj k i hk hi e2)) _) fun y hy => ?_
      rw [h2 k y hk hy (by omega)]
end

/-- The table in the making: k rows of n, all false. -/
structure TblUp (w : World) (base n k : Nat) (v : Value) (B : Nat → Nat) : Prop where
  own : w.ownsRow base 77 1 v k ((List.range k).map fun i => .slice (some ⟨B i, 0, none⟩) n n)
  rlo : ∀ i, i < k → base ≤ B i ∧ v.ownBlock ≠ some (B i)
  inj : ∀ i j, i < k → j < k → B i = B j → i = j
  row : ∀ i, i < k → w.rowIs (B i) 4 n (fun _ => .bool false)

theorem TblUp.done {w : World} {base n : Nat} {v : Value} {B : Nat → Nat} (h : TblUp w base n n v B) (hn : 0 < n) : ∃ g cap, v = .slice (some ⟨g, 0, none⟩) n cap ∧ TblAt w base n g B (fun _ _ => false) := by
  obtain ⟨g, cap, rfl, hb, _⟩ := h.own.form hn
  refine ⟨g, cap, rfl, hb, fun i hi => ⟨(h.rlo i hi).1, fun e => (h.rlo i hi).2 (by rw [e]; rfl)⟩, h.inj, fun i hi => ?_, h.row⟩
  have := h.own.cells (g := g) rfl i (.slice (some ⟨B i, 0, none⟩) n n) (by simp [hi])
  rw [Go.WideShapes.add_plain] at this
  simpa using this

theorem row_of_made {w : World} {base b n : Nat} {t : TypeId} {z : Value} (h : w.ownsRow base t 1 (.slice (some ⟨b, 0, none⟩) n n) n (madeCells #[z] (n * 1)).toList) : w.rowIs b t n (fun _ => z) := by
  rcases h.2 with ⟨h1, _⟩ | ⟨g, cap, cur, h1, _, h3, _, _, h6, h7⟩
  · cases h1
  · simp only [Value.slice.injEq, Option.some.injEq, Addr.mk.injEq] at h1
    obtain ⟨⟨rfl, _⟩, _, rfl⟩ := h1
    refine ⟨cur, h3, by simpa using h6, fun i hi => ?_⟩
    have : (cur.toList.take (n * 1))[i]? = (madeCells #[z] (n * 1)).toList[i]? := by rw [h7]
    rw [List.getElem?_take, if_pos (by omega), Array.getElem?_toList, Array.getElem?_toList] at this
    rw [this]
    simp [madeCells, hi, Nat.mod_one]

/-- One row more. wr: ahead of the round; w1: the row is made; W: it lies in a block of its own, for the append; w2: behind it. -/
theorem TblUp.more {wr w1 w2 : World} {base n k g cap : Nat} {v : Value} {B : Nat → Nat} {o : Obj} (h : TblUp wr base n k v B) (hbase : base ≤ wr.heap.size) (h1 : wr.grownBy w1 none) (hrow : w1.rowIs wr.heap.size 4 n (fun _ => .bool false))
    (hown : w2.ownsRow base 77 1 (.slice (some ⟨g, 0, none⟩) (k + 1) cap) (k + 1) (((List.range k).map fun i => Value.slice (some ⟨B i, 0, none⟩) n n) ++ [.slice (some ⟨wr.heap.size, 0, none⟩) n n]))
    (hg : (w1.alloc o).grownBy w2 v.ownBlock) (hat : v.ownBlock = some g ∨ g = w1.heap.size + 1) : TblUp w2 base n (k + 1) (.slice (some ⟨g, 0, none⟩) (k + 1) cap) (fun i => if i = k then wr.heap.size else B i) := by
  have hlt := hrow.lt
  have hnew : v.ownBlock ≠ some wr.heap.size := fun e => by have := (h.own.lt _ e).2; omega
  have keep : ∀ b f, w1.rowIs b 4 n f → v.ownBlock ≠ some b → w2.rowIs b 4 n f := fun b f hb hne => hb.of_block ((hg.block b (by have := hb.lt; simp; omega) (Ne.symm hne)).trans (Below.heap_alloc w1 o b hb.lt))
  have old : ∀ i, i < k → w1.rowIs (B i) 4 n (fun _ => .bool false) := fun i hi => (h.row i hi).of_block (h1.block _ (h.row i hi).lt (by simp))
  refine ⟨?_, fun i hi => ?_, fun i j hi hj e => ?_, fun i hi => ?_⟩
  · have e : ((List.range (k + 1)).map fun i => Value.slice (some ⟨(fun i => if i = k then wr.heap.size else B i) i, 0, none⟩) n n) = ((List.range k).map fun i => Value.slice (some ⟨B i, 0, none⟩) n n) ++ [.slice (some ⟨wr.heap.size, 0, none⟩) n n] := by
      rw [List.range_succ, List.map_append]
      congr 1
      · refine List.map_congr_left fun i hi => ?_
        have : i ≠ k := by have := List.mem_range.1 hi; omega
        simp [this]
      · simp
    rw [e]
    exact hown
  · simp only [Value.ownBlock]
    by_cases e : i = k
    · rw [if_pos e]
      refine ⟨hbase, fun e2 => ?_⟩
      simp only [Option.some.injEq] at e2
      rcases hat with h2 | h2
      · exact hnew (by rw [h2, e2])
      · omega
    · rw [if_neg e]
      refine ⟨(h.rlo i (by omega)).1, fun e2 => ?_⟩
      simp only [Option.some.injEq] at e2
      rcases hat with h2 | h2
      · exact (h.rlo i (by omega)).2 (by rw [h2, e2])
      · have := (old i (by omega)).lt; omega
  · have ltB : ∀ i, i < k → B i < wr.heap.size := fun i hi => (h.row i hi).lt
    by_cases ei : i = k <;> by_cases ej : j = k
    · omega
    · rw [if_pos ei, if_neg ej] at e; have := ltB j (by omega); omega
    · rw [if_neg ei, if_pos ej] at e; have := ltB i (by omega); omega
    · rw [if_neg ei, if_neg ej] at e; exact h.inj i j (by omega) (by omega) e
  · by_cases e : i = k
    · rw [if_pos e]; exact keep _ _ hrow hnew
    · rw [if_neg e]; exact keep _ _ (old i (by omega)) (h.rlo i (by omega)).2

/-- What the reference's table begins with; in the midst of its making. -/
def P.rdone (l : List Cat) (k : Nat) : Tab := fun a b => decide (b < k) && P.edge l a b
def P.rpart (l : List Cat) (k : Nat) (hs : List Int) : Tab := fun a b => P.rdone l k a b || (decide (b = k) && hs.any fun h => decide (h = (a : Int)))
def P.rbase (l : List Cat) : Tab := P.rdone l l.length

theorem Try.infoRow : (Try.prog.info? 77).map (fun i => (i.zero, i.size, i.bytes)) = some (some (.slice none 0 0), 1, 24) := by kernel_rfl
theorem Try.infoBool : (Try.prog.info? 4).map (fun i => (i.zero, i.size, i.bytes)) = some (some (.bool false), 1, 1) := by kernel_rfl

end Go.Proofs.Ytnadhpemmehedaa
