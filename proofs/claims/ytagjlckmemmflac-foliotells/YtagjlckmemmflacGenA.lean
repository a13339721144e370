/- Slices of whatever elements: how a list lies in memory, and that it stays there. -/
import Derived.Test.YtagjlckmemmflacSpanA
import Derived.Deep.Slices
import Derived.ProofKit
import Derived.OpenShut
namespace Go.Proofs.Ytagjlckmemmflac
open Go.RowKit
set_option linter.unusedSimpArgs false
set_option linter.unusedVariables false

/-- The slice (address ao, capacity cap, as many elements as l) holds l: element i lies in 'size' cells of which R tells. -/
structure SlAt {α : Type} (R : World → α → List Value → Prop) (size : Nat) (w : World) (ao : Option Addr) (cap : Nat) (l : List α) : Prop where
  le : l.length ≤ cap
  max : cap ≤ maxLen
  nil : ao = none → cap = 0
  cells : 0 < l.length → ∃ b off, ao = some ⟨b, off, none⟩ ∧ b < w.heap.size ∧ ∀ i (h : i < l.length), ∃ cs, R w l[i] cs ∧ cs.length = size ∧ ∀ j u, cs[j]? = some u → w.cell? ⟨b, off + i * size + j, none⟩ = some u

/-- R does not look at what a call lays behind all that there is. -/
def Mono {α : Type} (R : World → α → List Value → Prop) : Prop := ∀ (w w' : World) (x : α) (cs : List Value), Below w.heap.size w w' → R w x cs → R w' x cs

theorem cellIn {w w' : World} {b o : Nat} {v : Value} (hB : Below w.heap.size w w') (h : w.cell? ⟨b, o, none⟩ = some v) : w'.cell? ⟨b, o, none⟩ = some v := by
  rw [hB.cell (p := ⟨b, o, none⟩) (World.block_lt_of_cell? w _ h)]; exact h

section
variable {α : Type} {R : World → α → List Value → Prop} {size : Nat} {w w' : World} {ao : Option Addr} {cap : Nat} {l : List α}

theorem SlAt.below (hR : Mono R) (h : SlAt R size w ao cap l) (hb : Below w.heap.size w w') : SlAt R size w' ao cap l := by
  refine ⟨h.le, h.max, h.nil, fun h0 => ?_⟩
  obtain ⟨b, off, rfl, hlt, hc⟩ := h.cells h0
  refine ⟨b, off, rfl, Nat.lt_of_lt_of_le hlt hb.size, fun i hi => ?_⟩
  obtain ⟨cs, h1, h2, h3⟩ := hc i hi
  exact ⟨cs, hR _ _ _ _ hb h1, h2, fun j u hj => cellIn hb (h3 j u hj)⟩

theorem SlAt.get (hR : Mono R) (h : SlAt R size w ao cap l) (hb : Below w.heap.size w w') (k : Nat) (hk : k < l.length) :
    ∃ b off x cs, ao = some ⟨b, off, none⟩ ∧ b < w.heap.size ∧ l.drop k = x :: l.drop (k + 1) ∧ R w' x cs ∧ cs.length = size ∧ ∀ j u, cs[j]? = some u → w'.cell? ⟨b, off + k * size + j, none⟩ = some u := by
  obtain ⟨b, off, rfl, hlt, hc⟩ := h.cells (by omega)
  obtain ⟨cs, h1, h2, h3⟩ := hc k hk
  exact ⟨b, off, l[k], cs, rfl, hlt, List.drop_eq_getElem_cons hk, hR _ _ _ _ hb h1, h2, fun j u hj => cellIn hb (h3 j u hj)⟩

theorem SlAt.nilOf (w : World) : SlAt R size w none 0 ([] : List α) := ⟨by simp, by simp [maxLen], fun _ => rfl, fun h => by simp at h⟩
end

theorem heap_fold (os : List Obj) : ∀ (w : World) (i : Nat), (os.foldl World.alloc w).heap[w.heap.size + i]? = os[i]? := by
  induction os with
  | nil => intro w i; simp
  | cons o os ih =>
    intro w i
    rw [List.foldl_cons]
    cases i with
    | zero =>
      have hkeep : ∀ (os : List Obj) (u : World) (k : Nat), k < u.heap.size → (os.foldl World.alloc u).heap[k]? = u.heap[k]? := by
        intro os
        induction os with
        | nil => intro u k _; rfl
        | cons o os ih2 => intro u k hk; rw [List.foldl_cons, ih2 _ _ (by simp; omega)]; exact Below.heap_alloc u o k hk
      rw [Nat.add_zero, hkeep os (w.alloc o) w.heap.size (by simp)]
      simpa using heap_alloc_new w o
    | succ i =>
      have := ih (w.alloc o) i
      rw [show (w.alloc o).heap.size + i = w.heap.size + (i + 1) by simp; omega] at this
      simpa using this

theorem flat_get {size : Nat} : ∀ (cells : List (List Value)), (∀ c ∈ cells, c.length = size) → ∀ i j c, cells[i]? = some c → j < size → cells.flatten[i * size + j]? = c[j]? := by
  intro cells
  induction cells with
  | nil => intro _ i j c h; simp at h
  | cons a cells ih =>
    intro hl i j c h hj
    have ha := hl a (by simp)
    rw [List.flatten_cons]
    cases i with
    | zero =>
      simp at h
      subst h
      rw [Nat.zero_mul, Nat.zero_add, List.getElem?_append_left (by omega)]
    | succ i =>
      rw [List.getElem?_append_right (by rw [ha, Nat.succ_mul]; omega), ha, show (i + 1) * size + j - size = i * size + j by rw [Nat.succ_mul]; omega]
      exact ih (fun c hc => hl c (by simp [hc])) i j c (by simpa using h) hj

/-- A slice over a whole block that is known. -/
theorem SlAt.ofBlock {α : Type} {R : World → α → List Value → Prop} {size : Nat} {w : World} {b : Nat} {arr : Array Value} {t : TypeId} {l : List α} (cells : List (List Value)) (hb : w.heap[b]? = some (.cells arr t (0, 0))) (harr : arr.toList = cells.flatten)
    (hlen : cells.length = l.length) (hR : ∀ i (h : i < l.length), ∃ c, cells[i]? = some c ∧ R w l[i] c) (hsz : ∀ c ∈ cells, c.length = size) (hm : l.length ≤ maxLen) : SlAt R size w (some ⟨b, 0, none⟩) l.length l := by
  refine ⟨Nat.le_refl _, hm, (fun h => by cases h), fun h0 => ⟨b, 0, rfl, ?_, fun i hi => ?_⟩⟩
  · rcases Nat.lt_or_ge b w.heap.size with hlt | hge
    · exact hlt
    · rw [Array.getElem?_eq_none hge] at hb; cases hb
  · obtain ⟨c, hc, hr⟩ := hR i hi
    have hcl := hsz c (List.mem_of_getElem? hc)
    refine ⟨c, hr, hcl, fun j u hj => ?_⟩
    have hj' := (List.getElem?_eq_some_iff.1 hj).1
    rw [Nat.zero_add, cell_of_row w b (i * size + j) arr t (0, 0) hb, ← Array.getElem?_toList, harr, flat_get cells hsz i j c hc (by omega), hj]

/-- An int. -/
def RInt (_ : World) (n : Int) (cs : List Value) : Prop := cs = [.int .i64 n]
theorem RInt.mono : Mono RInt := fun _ _ _ _ _ h => h
abbrev IntsAt (w : World) (ao : Option Addr) (cap : Nat) (l : List Int) : Prop := SlAt RInt 1 w ao cap l

theorem IntsAt.get {w w' : World} {ao : Option Addr} {cap : Nat} {l : List Int} (h : IntsAt w ao cap l) (hb : Below w.heap.size w w') (k : Nat) (hk : k < l.length) :
    ∃ b off x, ao = some ⟨b, off, none⟩ ∧ b < w.heap.size ∧ l.drop k = x :: l.drop (k + 1) ∧ w'.cell? ⟨b, off + k, none⟩ = some (.int .i64 x) := by
  obtain ⟨b, off, x, cs, h1, h2, h3, h4, h5, h6⟩ := SlAt.get RInt.mono h hb k hk
  subst h4
  exact ⟨b, off, x, h1, h2, h3, by simpa using h6 0 _ rfl⟩

/-- What an argument that is a slice reads as, element by element. -/
theorem open_sl {α H : Type} [Inhabited α] {enc : TypeId × Value → H} {R : World → α → List Value → Prop} {size : Nat} {W : World} {t e : TypeId} {cs : List Value} {fuel : Nat} {x : DataW H × List MemPlace}
    (ht : Try.prog.underlying t = some (.slice e)) (hsz : Try.prog.cellsOf e = size) (hs0 : 0 < size) (hR : ∀ n cs' y, cs'.length = size → DataW.trod enc Try.prog W 0 (fun _ => true) true n e cs' = some y → ∃ z, R W z cs')
    (h : DataW.trod enc Try.prog W 0 (fun _ => true) true fuel t cs = some x) : ∃ ao cap l, cs = [.slice ao l.length cap] ∧ SlAt R size W ao cap l := by
  rcases Go.Deep.open_slice ht h with ⟨hcs, _⟩ | ⟨a, len, cap, m, n, D, Pl, hcs, _, hl, hm, hmm, _, hx⟩
  · exact ⟨none, 0, [], by simpa using hcs, SlAt.nilOf W⟩
  · have hmm' : m = cap := by simpa using hmm
    subst hmm'
    have each : ∀ i, i < len → ∃ q : α × List Value, R W q.1 q.2 ∧ q.2.length = size ∧ ∀ j u, q.2[j]? = some u → W.cell? (a.add (i * size + j)) = some u := by
      intro i hi
      obtain ⟨cs', h1, h2⟩ := hx i (by omega)
      rw [hsz] at h1
      obtain ⟨_, hlen, hcell⟩ := World.cells?_some h1
      obtain ⟨z, hz⟩ := hR n cs' _ hlen h2
      refine ⟨(z, cs'), hz, hlen, fun j u hj => ?_⟩
      have hj' := (List.getElem?_eq_some_iff.1 hj).1
      have hlen' : cs'.length = size := hlen
      have hj'' : j < cs'.length := hj'
      have := hcell j (by omega)
      rw [Go.Deep.add_add] at this
      rw [this]
      simpa using hj
    obtain ⟨q, hq⟩ := Go.Deep.choose_lt each
    refine ⟨some a, m, (List.range len).map fun i => (q i).1, by simpa using hcs, by simpa using hl, hm, (fun h => by cases h), fun h0 => ?_⟩
    simp at h0
    obtain ⟨_, q2, q3⟩ := hq 0 h0
    obtain ⟨u, hu⟩ : ∃ u, (q 0).2[0]? = some u := ⟨(q 0).2[0], by rw [List.getElem?_eq_getElem (by omega)]⟩
    have hc := q3 0 u hu
    obtain ⟨b, off, spot⟩ := a
    have hspot : spot = none := by simpa [Addr.add] using World.cell?_spot hc
    subst hspot
    refine ⟨b, off, rfl, ?_, fun i hi => ?_⟩
    · have := World.block_lt_of_cell? W _ hc
      simpa [Addr.add] using this
    · simp at hi
      obtain ⟨r1, r2, r3⟩ := hq i hi
      refine ⟨(q i).2, by simpa using r1, r2, fun j u hj => ?_⟩
      have := r3 j u hj
      rw [Go.WideShapes.add_plain] at this
      simpa [Nat.add_assoc] using this

end Go.Proofs.Ytagjlckmemmflac
