import Derived.Test.YtlamhfbdeinkkaeGreatShCr
import Derived.Deep.AppendLies
import Derived.Deep.OwnRows
set_option maxRecDepth 10000
/- The walk of the reference's isName. -/
namespace Go.Proofs.YtlamhfbdeinkkaeGreat.Sh
open Go.RowKit
set_option linter.unusedSimpArgs false
set_option linter.unusedVariables false

end Go.Proofs.YtlamhfbdeinkkaeGreat.Sh
/- The reference's table (a slice of rows that the call makes): how it lies; the walk of ServeTable. -/
namespace Go.Proofs.YtlamhfbdeinkkaeGreat.Sh
open Go.RowKit
set_option linter.unusedSimpArgs false
set_option linter.unusedVariables false
set_option linter.unnecessarySimpa false

/-- Behind ⟨g, 0⟩ lie n rows; row i lies in block B i, and holds T i. -/
structure TblAt (w : World) (base n g : Nat) (B : Nat → Nat) (T : Tab) : Prop where
  lo : base ≤ g
  rlo : ∀ i, i < n → base ≤ B i ∧ B i ≠ g
  inj : ∀ i j, i < n → j < n → B i = B j → i = j
  out : ∀ i, i < n → w.cell? ⟨g, i, none⟩ = some (.slice (some ⟨B i, 0, none⟩) n n)
  row : ∀ i, i < n → w.rowIs (B i) 4 n (fun j => .bool (T i j))

section
variable {w w' : World} {base n g : Nat} {B : Nat → Nat} {T T' : Tab}
theorem TblAt.get (h : TblAt w base n g B T) {i j : Nat} (hi : i < n) (hj : j < n) : w.cell? ⟨B i, j, none⟩ = some (.bool (T i j)) := (h.row i hi).cell hj
theorem TblAt.frozen (h : TblAt w base n g B T) {i : Nat} (hi : i < n) (j : Nat) : w.frozen? ⟨B i, j, none⟩ = false := (h.row i hi).frozen j
theorem TblAt.congr (h : TblAt w base n g B T) (e : ∀ x y, x < n → y < n → T x y = T' x y) : TblAt w base n g B T' :=
  ⟨h.lo, h.rlo, h.inj, h.out, fun i hi => (h.row i hi).congr fun j hj => by rw [e i j hi hj]⟩
theorem TblAt.below (h : TblAt w base n g B T) (hb : Below w.heap.size w w') : TblAt w' base n g B T :=
  ⟨h.lo, h.rlo, h.inj, fun i hi => cellIn hb (h.out i hi), fun i hi => (h.row i hi).of_block (hb.block _ (h.row i hi).lt)⟩
theorem TblAt.put (h : TblAt w base n g B T) {i j : Nat} {v : Bool} (hi : i < n) (hj : j < n) (h1 : T' i j = v) (h2 : ∀ x y, x < n → y < n → ¬ (x = i ∧ y = j) → T' x y = T x y) : TblAt (w.setCell ⟨B i, j, none⟩ (.bool v)) base n g B T' := by
  refine ⟨h.lo, h.rlo, h.inj, fun k hk => ?_, fun k hk => ?_⟩
  · rw [World.cell?_of_block (Below.heap_setCell w ⟨B i, j, none⟩ (.bool v) g (fun e => (h.rlo i hi).2 e.symm))]
    exact h.out k hk
  · by_cases e : k = i
    · subst e
      refine World.rowIs.congr (World.rowIs.set (h.row k hk) j (.bool v)) fun y hy => ?_
      by_cases e2 : y = j
      · rw [if_pos e2, e2, h1]
      · rw [if_neg e2, h2 k y hk hy (by omega)]
    · refine World.rowIs.congr (World.rowIs.setOther (h.row k hk) (fun e2 => e (h.inj k i hk hi e2)) _) fun y hy => ?_
      rw [h2 k y hk hy (by omega)]
end

/-- The table in the making: k rows of n, all false. -/
structure TblUp (w : World) (base n k : Nat) (v : Value) (B : Nat → Nat) : Prop where
  own : w.ownsRow base 155 1 v k ((List.range k).map fun i => .slice (some ⟨B i, 0, none⟩) n n)
  rlo : ∀ i, i < k → base ≤ B i ∧ v.ownBlock ≠ some (B i)
  inj : ∀ i j, i < k → j < k → B i = B j → i = j
  row : ∀ i, i < k → w.rowIs (B i) 4 n (fun _ => .bool false)

theorem TblUp.done {w : World} {base n : Nat} {v : Value} {B : Nat → Nat} (h : TblUp w base n n v B) (hn : 0 < n) : ∃ g cap, v = .slice (some ⟨g, 0, none⟩) n cap ∧ TblAt w base n g B (fun _ _ => false) := by
  obtain ⟨g, cap, rfl, hb, _⟩ := h.own.form hn
  refine ⟨g, cap, rfl, hb, fun i hi => ⟨(h.rlo i hi).1, fun e => (h.rlo i hi).2 (by rw [e]; rfl)⟩, h.inj, fun i hi => ?_, h.row⟩
  have := h.own.cells (g := g) rfl i (.slice (some ⟨B i, 0, none⟩) n n) (by simp [hi])
  rw [Go.WideShapes.add_plain] at this
  simpa using this

theorem row_of_made {w : World} {base b n : Nat} {t : TypeId} {z : Value} (h : w.ownsRow base t 1 (.slice (some ⟨b, 0, none⟩) n n) n (madeCells #[z] (n * 1)).toList) : w.rowIs b t n (fun _ => z) := by
  rcases h.2 with ⟨h1, _⟩ | ⟨g, cap, cur, h1, _, h3, _, _, h6, h7⟩
  · cases h1
  · simp only [Value.slice.injEq, Option.some.injEq, Addr.mk.injEq] at h1
    obtain ⟨⟨rfl, _⟩, _, rfl⟩ := h1
    refine ⟨cur, h3, by simpa using h6, fun i hi => ?_⟩
    have : (cur.toList.take (n * 1))[i]? = (madeCells #[z] (n * 1)).toList[i]? := by rw [h7]
    rw [List.getElem?_take, if_pos (by omega), Array.getElem?_toList, Array.getElem?_toList] at this
    rw [this]
    simp [madeCells, hi, Nat.mod_one]

/-- One row more. wr: ahead of the round; w1: the row is made; W: it lies in a block of its own, for the append; w2: behind it. -/
theorem TblUp.more {wr w1 w2 : World} {base n k g cap : Nat} {v : Value} {B : Nat → Nat} {o : Obj} (h : TblUp wr base n k v B) (hbase : base ≤ wr.heap.size) (h1 : wr.grownBy w1 none) (hrow : w1.rowIs wr.heap.size 4 n (fun _ => .bool false))
    (hown : w2.ownsRow base 155 1 (.slice (some ⟨g, 0, none⟩) (k + 1) cap) (k + 1) (((List.range k).map fun i => Value.slice (some ⟨B i, 0, none⟩) n n) ++ [.slice (some ⟨wr.heap.size, 0, none⟩) n n]))
    (hg : (w1.alloc o).grownBy w2 v.ownBlock) (hat : v.ownBlock = some g ∨ g = w1.heap.size + 1) : TblUp w2 base n (k + 1) (.slice (some ⟨g, 0, none⟩) (k + 1) cap) (fun i => if i = k then wr.heap.size else B i) := by
  have hlt := hrow.lt
  have hnew : v.ownBlock ≠ some wr.heap.size := fun e => by have := (h.own.lt _ e).2; omega
  have keep : ∀ b f, w1.rowIs b 4 n f → v.ownBlock ≠ some b → w2.rowIs b 4 n f := fun b f hb hne => hb.of_block ((hg.block b (by have := hb.lt; simp; omega) (Ne.symm hne)).trans (Below.heap_alloc w1 o b hb.lt))
  have old : ∀ i, i < k → w1.rowIs (B i) 4 n (fun _ => .bool false) := fun i hi => (h.row i hi).of_block (h1.block _ (h.row i hi).lt (by simp))
  refine ⟨?_, fun i hi => ?_, fun i j hi hj e => ?_, fun i hi => ?_⟩
  · have e : ((List.range (k + 1)).map fun i => Value.slice (some ⟨(fun i => if i = k then wr.heap.size else B i) i, 0, none⟩) n n) = ((List.range k).map fun i => Value.slice (some ⟨B i, 0, none⟩) n n) ++ [.slice (some ⟨wr.heap.size, 0, none⟩) n n] := by
      rw [List.range_succ, List.map_append]
      congr 1
      · refine List.map_congr_left fun i hi => ?_
        have : i ≠ k := by have := List.mem_range.1 hi; omega
        simp [this]
      · simp
    rw [e]
    exact hown
  · simp only [Value.ownBlock]
    by_cases e : i = k
    · rw [if_pos e]
      refine ⟨hbase, fun e2 => ?_⟩
      simp only [Option.some.injEq] at e2
      rcases hat with h2 | h2
      · exact hnew (by rw [h2, e2])
      · omega
    · rw [if_neg e]
      refine ⟨(h.rlo i (by omega)).1, fun e2 => ?_⟩
      simp only [Option.some.injEq] at e2
      rcases hat with h2 | h2
      · exact (h.rlo i (by omega)).2 (by rw [h2, e2])
      · have := (old i (by omega)).lt; omega
  · have ltB : ∀ i, i < k → B i < wr.heap.size := fun i hi => (h.row i hi).lt
    by_cases ei : i = k <;> by_cases ej : j = k
    · omega
    · rw [if_pos ei, if_neg ej] at e; have := ltB j (by omega); omega
    · rw [if_neg ei, if_pos ej] at e; have := ltB i (by omega); omega
    · rw [if_neg ei, if_neg ej] at e; exact h.inj i j (by omega) (by omega) e
  · by_cases e : i = k
    · rw [if_pos e]; exact keep _ _ hrow hnew
    · rw [if_neg e]; exact keep _ _ (old i (by omega)) (h.rlo i (by omega)).2

theorem Tryz.infoRow : (Tryz.prog.info? 155).map (fun i => (i.zero, i.size, i.bytes)) = some (some (.slice none 0 0), 1, 24) := by kernel_rfl
end Go.Proofs.YtlamhfbdeinkkaeGreat.Sh
/- The walk of the reference's ServeTable. -/
namespace Go.Proofs.YtlamhfbdeinkkaeGreat.Sh
open Go.RowKit
set_option linter.unusedSimpArgs false
set_option linter.unusedVariables false
set_option linter.unnecessarySimpa false

end Go.Proofs.YtlamhfbdeinkkaeGreat.Sh
/- Plain facts: the reference's table against the program's; its circles; its order. -/
namespace Go.Proofs.YtlamhfbdeinkkaeGreat.Sh
open Go.RowKit
set_option linter.unusedSimpArgs false
set_option linter.unusedVariables false
set_option linter.unnecessarySimpa false

/-- What the reference's search holds when those from k on are looked at. -/
def P.Nx (p : Nat → Bool) (k n : Nat) (X : Int) : Prop := (X = -1 ∧ ∀ j, k ≤ j → j < n → p j = false) ∨ ∃ j : Nat, X = j ∧ k ≤ j ∧ j < n ∧ p j = true ∧ ∀ i, k ≤ i → i < j → p i = false

theorem Nx.no {p : Nat → Bool} {k n : Nat} {X : Int} (h : P.Nx p (k + 1) n X) (hp : p k = false) : P.Nx p k n X := by
  rcases h with ⟨h1, h2⟩ | ⟨j, h1, h2, h3, h4, h5⟩
  · exact .inl ⟨h1, fun j hj hn => by rcases Nat.eq_or_lt_of_le hj with rfl | hj; exact hp; exact h2 j hj hn⟩
  · exact .inr ⟨j, h1, by omega, h3, h4, fun i hi hn => by rcases Nat.eq_or_lt_of_le hi with rfl | hi; exact hp; exact h5 i hi hn⟩
theorem Nx.yes {p : Nat → Bool} {k n : Nat} (hk : k < n) (hp : p k = true) : P.Nx p k n (k : Int) := .inr ⟨k, rfl, Nat.le_refl _, hk, hp, fun i hi hn => by omega⟩
theorem Nx.done {p q : Nat → Bool} {n : Nat} {X : Int} (h : P.Nx p 0 n X) (hpq : ∀ i, i < n → p i = q i) (hl : P.least q n < n) : X = P.least q n := by
  rcases h with ⟨_, h2⟩ | ⟨j, h1, _, h3, h4, h5⟩
  · have := least_yes hl
    rw [← hpq _ hl, h2 _ (Nat.zero_le _) hl] at this
    cases this
  · rw [h1, least_hit h3 (by rw [← hpq _ h3]; exact h4) (fun i hi => by rw [← hpq i (by omega)]; exact h5 i (Nat.zero_le _) hi)]

end Go.Proofs.YtlamhfbdeinkkaeGreat.Sh
/- The walk of the reference's CheckShip. -/
namespace Go.Proofs.YtlamhfbdeinkkaeGreat.Sh
open Go.RowKit
set_option linter.unusedSimpArgs false
set_option linter.unusedVariables false
set_option linter.unnecessarySimpa false

theorem CatsAt.all {w : World} {ao : Option Addr} {cap : Nat} {l : List Cat} (h : CatsAt w ao cap l) (h0 : 0 < l.length) : ∃ b off, ao = some ⟨b, off, none⟩ ∧ ∀ k (hk : k < l.length), ∃ hao hcap, w.cell? ⟨b, off + k * 2, none⟩ = some (.string l[k].1) ∧ w.cell? ⟨b, off + k * 2 + 1, none⟩ = some (.slice hao l[k].2.length hcap) ∧ IntsAt w hao hcap l[k].2 ∧ l[k].1.size ≤ maxLen := by
  obtain ⟨b, off, rfl, _, hc⟩ := h.cells h0
  refine ⟨b, off, rfl, fun k hk => ?_⟩
  obtain ⟨cs, ⟨hao, hcap, e, h1, h2⟩, _, h3⟩ := hc k hk
  subst e
  exact ⟨hao, hcap, by simpa using h3 0 _ rfl, by simpa using h3 1 _ rfl, h1, h2⟩
theorem CabsAt.all {w : World} {ao : Option Addr} {cap : Nat} {l : List Cab} (h : CabsAt w ao cap l) (h0 : 0 < l.length) : ∃ b off, ao = some ⟨b, off, none⟩ ∧ ∀ k (hk : k < l.length), w.cell? ⟨b, off + k * 4, none⟩ = some (.string l[k].1) ∧ w.cell? ⟨b, off + k * 4 + 1, none⟩ = some (.int .i64 l[k].2.1) ∧ w.cell? ⟨b, off + k * 4 + 2, none⟩ = some (.int .i64 l[k].2.2.1) ∧ w.cell? ⟨b, off + k * 4 + 3, none⟩ = some (.bool l[k].2.2.2) ∧ l[k].1.size ≤ maxLen := by
  obtain ⟨b, off, rfl, _, hc⟩ := h.cells h0
  refine ⟨b, off, rfl, fun k hk => ?_⟩
  obtain ⟨cs, ⟨e, h2⟩, _, h3⟩ := hc k hk
  subst e
  exact ⟨by simpa using h3 0 _ rfl, by simpa using h3 1 _ rfl, by simpa using h3 2 _ rfl, by simpa using h3 3 _ rfl, h2⟩

/-- The names ahead of i. -/
def P.names {β : Type} (l : List (ByteArray × β)) (i : Nat) : List ByteArray := (l.take i).map (·.1)
end Go.Proofs.YtlamhfbdeinkkaeGreat.Sh
set_option maxRecDepth 10000
/- The walk of the reference's CheckShip. -/
namespace Go.Proofs.YtlamhfbdeinkkaeGreat.Sh
open Go.RowKit
set_option linter.unusedSimpArgs false
set_option linter.unusedVariables false
set_option linter.unnecessarySimpa false

end Go.Proofs.YtlamhfbdeinkkaeGreat.Sh
/- The walk of the reference's OrderOf. -/
namespace Go.Proofs.YtlamhfbdeinkkaeGreat.Sh
open Go.RowKit
set_option linter.unusedSimpArgs false
set_option linter.unusedVariables false
set_option linter.unnecessarySimpa false

theorem TblAt.blocks {w w' : World} {base n g : Nat} {B : Nat → Nat} {T : Tab} (h : TblAt w base n g B T) (hg : w'.heap[g]? = w.heap[g]?) (hb : ∀ i, i < n → w'.heap[B i]? = w.heap[B i]?) : TblAt w' base n g B T :=
  ⟨h.lo, h.rlo, h.inj, fun i hi => (World.cell?_of_block (a := ⟨g, i, none⟩) hg).trans (h.out i hi), fun i hi => (h.row i hi).of_block (hb i hi)⟩

end Go.Proofs.YtlamhfbdeinkkaeGreat.Sh
/- The walks of the reference's CheckShip (whatever its sizes) and DoesServe, and of the law ShipTells. -/
namespace Go.Proofs.YtlamhfbdeinkkaeGreat.Sh
open Go.RowKit
set_option linter.unusedSimpArgs false
set_option linter.unusedVariables false
set_option linter.unnecessarySimpa false

end Go.Proofs.YtlamhfbdeinkkaeGreat.Sh
