import Derived.Test.YtlamhfbdeinkkaeGreatRows
import Derived.WalkKit
import Derived.WalkSpells
import Derived.WalkLawsBesides
import Derived.Handy
import Derived.Deep.QuietTactic
import Derived.BigQuiet
import Derived.Deep.Slices
import Derived.ProofKit
import Derived.OpenShut
import Derived.Laws.AppendOwnNone
import Derived.OwnWalk
import Derived.Deep.Onto
import Derived.OneCell
set_option maxRecDepth 10000
/- Walks of the leaves of package span and of the reference's: each call answers what the plain function beside it computes. -/
namespace Go.Proofs.YtlamhfbdeinkkaeGreat
open Go.RowKit
set_option linter.unusedSimpArgs false
set_option linter.unusedVariables false

def P.btw (n a b : Int) : Bool := decide (a ≤ n) && decide (n ≤ b)
def P.sails (n : Int) : Bool := decide (1 ≤ n) && decide (n ≤ 7)
def P.chk (f t n : Int) : Int := if P.sails n = false ∨ f < 0 ∨ n < t then 3 else if t ≤ f then 4 else 0

abbrev V.sp (s : Int × Int) : Value := .agg #[.int .i64 s.1, .int .i64 s.2]

/-- Behind a call that turns nothing old: old cells and old marks read as before. -/
theorem bcell {W w1 : World} (hb : Below W.heap.size W w1) : (∀ b o, b < W.heap.size → w1.cell? ⟨b, o, none⟩ = W.cell? ⟨b, o, none⟩) ∧ (∀ b o, b < W.heap.size → w1.frozen? ⟨b, o, none⟩ = W.frozen? ⟨b, o, none⟩) :=
  ⟨fun b o h => hb.cell (p := ⟨b, o, none⟩) h, fun b o h => hb.frozen (p := ⟨b, o, none⟩) h⟩

theorem ret_int {k : IntKind} {a b : Int} (h : a = b) : Ending.returned (.int k a) = .returned (.int k b) := by rw [h]
theorem ret_bool {a b : Bool} (h : a = b) : Ending.returned (.bool a) = .returned (.bool b) := by rw [h]
theorem ret2_int {v : Value} {k : IntKind} {a b : Int} (h : a = b) : Ending.returned (.tuple #[v, .int k a]) = .returned (.tuple #[v, .int k b]) := by rw [h]
theorem bvia {a b c : World} (h : Below a.heap.size a b) (k : Below b.heap.size b c) : Below a.heap.size a c := h.trans (k.mono h.size)

set_option maxHeartbeats 400000 in
theorem sails_any (n : Int) (w : World) :
    Calls Tryz.prog 114 #[.int .i64 n] w fun e w' => e = .returned (.bool (P.sails n)) ∧ w = w' := by
  by_cases h1 : 1 ≤ n <;> by_cases h2 : n ≤ 7
  all_goals
    go_enter Tryz.func114, Tryz.ntmps114
    go_wp2
    go_ret
    simp [P.sails, h1, h2]

set_option maxHeartbeats 400000 in
theorem between_any (n a b : Int) (w : World) :
    Calls Tryz.prog 74 #[.int .i64 n, .int .i64 a, .int .i64 b] w fun e w' => e = .returned (.bool (P.btw n a b)) ∧ w = w' := by
  by_cases h1 : a ≤ n <;> by_cases h2 : n ≤ b
  all_goals
    go_enter Tryz.func74, Tryz.ntmps74
    go_wp2
    go_ret
    simp [P.btw, h1, h2]

theorem between17_any (n : Int) (w : World) :
    Calls Tryz.prog 74 #[.int .i64 n, .int .i64 1, .int .i64 7] w fun e w' => e = .returned (.bool (P.sails n)) ∧ w = w' := between_any n 1 7 w

end Go.Proofs.YtlamhfbdeinkkaeGreat

/- Slices of whatever elements: how a list lies in memory, and that it stays there. -/
namespace Go.Proofs.YtlamhfbdeinkkaeGreat
open Go.RowKit
set_option linter.unusedSimpArgs false
set_option linter.unusedVariables false

/-- The slice (address ao, capacity cap, as many elements as l) holds l: element i lies in 'size' cells of which R tells. -/
structure SlAt {α : Type} (R : World → α → List Value → Prop) (size : Nat) (w : World) (ao : Option Addr) (cap : Nat) (l : List α) : Prop where
  le : l.length ≤ cap
  max : cap ≤ maxLen
  nil : ao = none → cap = 0
  cells : 0 < l.length → ∃ b off, ao = some ⟨b, off, none⟩ ∧ b < w.heap.size ∧ ∀ i (h : i < l.length), ∃ cs, R w l[i] cs ∧ cs.length = size ∧ ∀ j u, cs[j]? = some u → w.cell? ⟨b, off + i * size + j, none⟩ = some u

/-- R does not look at what a call lays behind all that there is. -/
def Mono {α : Type} (R : World → α → List Value → Prop) : Prop := ∀ (w w' : World) (x : α) (cs : List Value), Below w.heap.size w w' → R w x cs → R w' x cs

theorem cellIn {w w' : World} {b o : Nat} {v : Value} (hB : Below w.heap.size w w') (h : w.cell? ⟨b, o, none⟩ = some v) : w'.cell? ⟨b, o, none⟩ = some v := by
  rw [hB.cell (p := ⟨b, o, none⟩) (World.block_lt_of_cell? w _ h)]; exact h

section
variable {α : Type} {R : World → α → List Value → Prop} {size : Nat} {w w' : World} {ao : Option Addr} {cap : Nat} {l : List α}

theorem SlAt.below (hR : Mono R) (h : SlAt R size w ao cap l) (hb : Below w.heap.size w w') : SlAt R size w' ao cap l := by
  refine ⟨h.le, h.max, h.nil, fun h0 => ?_⟩
  obtain ⟨b, off, rfl, hlt, hc⟩ := h.cells h0
  refine ⟨b, off, rfl, Nat.lt_of_lt_of_le hlt hb.size, fun i hi => ?_⟩
  obtain ⟨cs, h1, h2, h3⟩ := hc i hi
  exact ⟨cs, hR _ _ _ _ hb h1, h2, fun j u hj => cellIn hb (h3 j u hj)⟩

theorem SlAt.get (hR : Mono R) (h : SlAt R size w ao cap l) (hb : Below w.heap.size w w') (k : Nat) (hk : k < l.length) :
    ∃ b off x cs, ao = some ⟨b, off, none⟩ ∧ b < w.heap.size ∧ l.drop k = x :: l.drop (k + 1) ∧ R w' x cs ∧ cs.length = size ∧ ∀ j u, cs[j]? = some u → w'.cell? ⟨b, off + k * size + j, none⟩ = some u := by
  obtain ⟨b, off, rfl, hlt, hc⟩ := h.cells (by omega)
  obtain ⟨cs, h1, h2, h3⟩ := hc k hk
  exact ⟨b, off, l[k], cs, rfl, hlt, List.drop_eq_getElem_cons hk, hR _ _ _ _ hb h1, h2, fun j u hj => cellIn hb (h3 j u hj)⟩

theorem SlAt.nilOf (w : World) : SlAt R size w none 0 ([] : List α) := ⟨by simp, by simp [maxLen], fun _ => rfl, fun h => by simp at h⟩
end

theorem heap_fold (os : List Obj) : ∀ (w : World) (i : Nat), (os.foldl World.alloc w).heap[w.heap.size + i]? = os[i]? := by
  induction os with
  | nil => intro w i; simp
  | cons o os ih =>
    intro w i
    rw [List.foldl_cons]
    cases i with
    | zero =>
      have hkeep : ∀ (os : List Obj) (u : World) (k : Nat), k < u.heap.size → (os.foldl World.alloc u).heap[k]? = u.heap[k]? := by
        intro os
        induction os with
        | nil => intro u k _; rfl
        | cons o os ih2 => intro u k hk; rw [List.foldl_cons, ih2 _ _ (by simp; omega)]; exact Below.heap_alloc u o k hk
      rw [Nat.add_zero, hkeep os (w.alloc o) w.heap.size (by simp)]
      simpa using heap_alloc_new w o
    | succ i =>
      have := ih (w.alloc o) i
      rw [show (w.alloc o).heap.size + i = w.heap.size + (i + 1) by simp; omega] at this
      simpa using this

theorem flat_get {size : Nat} : ∀ (cells : List (List Value)), (∀ c ∈ cells, c.length = size) → ∀ i j c, cells[i]? = some c → j < size → cells.flatten[i * size + j]? = c[j]? := by
  intro cells
  induction cells with
  | nil => intro _ i j c h; simp at h
  | cons a cells ih =>
    intro hl i j c h hj
    have ha := hl a (by simp)
    rw [List.flatten_cons]
    cases i with
    | zero =>
      simp at h
      subst h
      rw [Nat.zero_mul, Nat.zero_add, List.getElem?_append_left (by omega)]
    | succ i =>
      rw [List.getElem?_append_right (by rw [ha, Nat.succ_mul]; omega), ha, show (i + 1) * size + j - size = i * size + j by rw [Nat.succ_mul]; omega]
      exact ih (fun c hc => hl c (by simp [hc])) i j c (by simpa using h) hj

/-- A slice over a whole block that is known. -/
theorem SlAt.ofBlock {α : Type} {R : World → α → List Value → Prop} {size : Nat} {w : World} {b : Nat} {arr : Array Value} {t : TypeId} {l : List α} (cells : List (List Value)) (hb : w.heap[b]? = some (.cells arr t (0, 0))) (harr : arr.toList = cells.flatten)
    (hlen : cells.length = l.length) (hR : ∀ i (h : i < l.length), ∃ c, cells[i]? = some c ∧ R w l[i] c) (hsz : ∀ c ∈ cells, c.length = size) (hm : l.length ≤ maxLen) : SlAt R size w (some ⟨b, 0, none⟩) l.length l := by
  refine ⟨Nat.le_refl _, hm, (fun h => by cases h), fun h0 => ⟨b, 0, rfl, ?_, fun i hi => ?_⟩⟩
  · rcases Nat.lt_or_ge b w.heap.size with hlt | hge
    · exact hlt
    · rw [Array.getElem?_eq_none hge] at hb; cases hb
  · obtain ⟨c, hc, hr⟩ := hR i hi
    have hcl := hsz c (List.mem_of_getElem? hc)
    refine ⟨c, hr, hcl, fun j u hj => ?_⟩
    have hj' := (List.getElem?_eq_some_iff.1 hj).1
    rw [Nat.zero_add, cell_of_row w b (i * size + j) arr t (0, 0) hb, ← Array.getElem?_toList, harr, flat_get cells hsz i j c hc (by omega), hj]

/-- An int. -/
def RInt (_ : World) (n : Int) (cs : List Value) : Prop := cs = [.int .i64 n]
theorem RInt.mono : Mono RInt := fun _ _ _ _ _ h => h
abbrev IntsAt (w : World) (ao : Option Addr) (cap : Nat) (l : List Int) : Prop := SlAt RInt 1 w ao cap l

theorem IntsAt.get {w w' : World} {ao : Option Addr} {cap : Nat} {l : List Int} (h : IntsAt w ao cap l) (hb : Below w.heap.size w w') (k : Nat) (hk : k < l.length) :
    ∃ b off x, ao = some ⟨b, off, none⟩ ∧ b < w.heap.size ∧ l.drop k = x :: l.drop (k + 1) ∧ w'.cell? ⟨b, off + k, none⟩ = some (.int .i64 x) := by
  obtain ⟨b, off, x, cs, h1, h2, h3, h4, h5, h6⟩ := SlAt.get RInt.mono h hb k hk
  subst h4
  exact ⟨b, off, x, h1, h2, h3, by simpa using h6 0 _ rfl⟩

/-- What an argument that is a slice reads as, element by element. -/
theorem open_sl {α H : Type} [Inhabited α] {enc : TypeId × Value → H} {R : World → α → List Value → Prop} {size : Nat} {W : World} {t e : TypeId} {cs : List Value} {fuel : Nat} {x : DataW H × List MemPlace}
    (ht : Tryz.prog.underlying t = some (.slice e)) (hsz : Tryz.prog.cellsOf e = size) (hs0 : 0 < size) (hR : ∀ n cs' y, cs'.length = size → DataW.trod enc Tryz.prog W 0 (fun _ => true) true n e cs' = some y → ∃ z, R W z cs')
    (h : DataW.trod enc Tryz.prog W 0 (fun _ => true) true fuel t cs = some x) : ∃ ao cap l, cs = [.slice ao l.length cap] ∧ SlAt R size W ao cap l := by
  rcases Go.Deep.open_slice ht h with ⟨hcs, _⟩ | ⟨a, len, cap, m, n, D, Pl, hcs, _, hl, hm, hmm, _, hx⟩
  · exact ⟨none, 0, [], by simpa using hcs, SlAt.nilOf W⟩
  · have hmm' : m = cap := by simpa using hmm
    subst hmm'
    have each : ∀ i, i < len → ∃ q : α × List Value, R W q.1 q.2 ∧ q.2.length = size ∧ ∀ j u, q.2[j]? = some u → W.cell? (a.add (i * size + j)) = some u := by
      intro i hi
      obtain ⟨cs', h1, h2⟩ := hx i (by omega)
      rw [hsz] at h1
      obtain ⟨_, hlen, hcell⟩ := World.cells?_some h1
      obtain ⟨z, hz⟩ := hR n cs' _ hlen h2
      refine ⟨(z, cs'), hz, hlen, fun j u hj => ?_⟩
      have hj' := (List.getElem?_eq_some_iff.1 hj).1
      have hlen' : cs'.length = size := hlen
      have hj'' : j < cs'.length := hj'
      have := hcell j (by omega)
      rw [Go.Deep.add_add] at this
      rw [this]
      simpa using hj
    obtain ⟨q, hq⟩ := Go.Deep.choose_lt each
    refine ⟨some a, m, (List.range len).map fun i => (q i).1, by simpa using hcs, by simpa using hl, hm, (fun h => by cases h), fun h0 => ?_⟩
    simp at h0
    obtain ⟨_, q2, q3⟩ := hq 0 h0
    obtain ⟨u, hu⟩ : ∃ u, (q 0).2[0]? = some u := ⟨(q 0).2[0], by rw [List.getElem?_eq_getElem (by omega)]⟩
    have hc := q3 0 u hu
    obtain ⟨b, off, spot⟩ := a
    have hspot : spot = none := by simpa [Addr.add] using World.cell?_spot hc
    subst hspot
    refine ⟨b, off, rfl, ?_, fun i hi => ?_⟩
    · have := World.block_lt_of_cell? W _ hc
      simpa [Addr.add] using this
    · simp at hi
      obtain ⟨r1, r2, r3⟩ := hq i hi
      refine ⟨(q i).2, by simpa using r1, r2, fun j u hj => ?_⟩
      have := r3 j u hj
      rw [Go.WideShapes.add_plain] at this
      simpa [Nat.add_assoc] using this

end Go.Proofs.YtlamhfbdeinkkaeGreat

/- Slices that a call makes, of whatever elements: what they own, how one appends to them. -/
namespace Go.Proofs.YtlamhfbdeinkkaeGreat
open Go.RowKit
set_option linter.unusedSimpArgs false
set_option linter.unusedVariables false

/-- An element that lies in the cells 'cells x'. -/
abbrev RC {α : Type} (cells : α → List Value) : World → α → List Value → Prop := fun _ x cs => cs = cells x
theorem RC.mono {α : Type} (cells : α → List Value) : Mono (RC cells) := fun _ _ _ _ _ h => h

/-- The value v is a slice of the call's own (blocks from base on) that holds l. -/
abbrev OwnC {α : Type} (cells : α → List Value) (size : Nat) (e : TypeId) (w : World) (base : Nat) (v : Value) (l : List α) : Prop := w.ownsRow base e size v l.length (l.flatMap cells)

section
variable {α : Type} {cells : α → List Value} {size : Nat} {e : TypeId}

theorem flatC_len (hc : ∀ x, (cells x).length = size) (l : List α) : (l.flatMap cells).length = l.length * size := by
  induction l with
  | nil => simp
  | cons x l ih => rw [List.flatMap_cons, List.length_append, ih, hc, List.length_cons, Nat.succ_mul]; omega

theorem flatC_get (hc : ∀ x, (cells x).length = size) (l : List α) (i : Nat) (h : i < l.length) (j : Nat) (hj : j < size) : (l.flatMap cells)[i * size + j]? = (cells l[i])[j]? := by
  rw [List.flatMap_def]
  refine flat_get (l.map cells) (fun c hm => ?_) i j _ (by simp [h]) hj
  obtain ⟨x, _, rfl⟩ := List.mem_map.1 hm
  exact hc x

theorem OwnC.at (hc : ∀ x, (cells x).length = size) {w : World} {base : Nat} {v : Value} {l : List α} (h : OwnC cells size e w base v l) : ∃ ao cap, v = .slice ao l.length cap ∧ SlAt (RC cells) size w ao cap l := by
  rcases h.2 with ⟨rfl, h0⟩ | ⟨g, cap, cur, rfl, hb, hg, hn, hm, hs, ht⟩
  · refine ⟨none, 0, by rw [h0], by omega, by simp [maxLen], fun _ => rfl, by omega⟩
  · refine ⟨some ⟨g, 0, none⟩, cap, rfl, hn, hm, (fun h => by cases h), fun h0 => ⟨g, 0, rfl, ?_, fun i hi => ⟨cells l[i], rfl, hc _, fun j u hj => ?_⟩⟩⟩
    · rcases Nat.lt_or_ge g w.heap.size with hlt | hge
      · exact hlt
      · rw [Array.getElem?_eq_none hge] at hg; cases hg
    · have hj' := (List.getElem?_eq_some_iff.1 hj).1
      rw [hc] at hj'
      have hlt : i * size + j < l.length * size := by
        have : (i + 1) * size ≤ l.length * size := Nat.mul_le_mul_right _ hi
        rw [Nat.succ_mul] at this
        omega
      have k0 := World.ownsRow.cellAt h (i * size + j) hlt
      rw [flatC_get hc l i hi j hj', hj] at k0
      simpa using k0

theorem OwnC.below {w w' : World} {base : Nat} {v : Value} {l : List α} (h : OwnC cells size e w base v l) (hb : Below w.heap.size w w') : OwnC cells size e w' base v l := by
  refine ⟨h.1, ?_⟩
  rcases h.2 with h2 | ⟨g, cap, cur, hv, hg, hh, r⟩
  · exact Or.inl h2
  · refine Or.inr ⟨g, cap, cur, hv, hg, ?_, r⟩
    rw [hb.block g (Array.getElem?_eq_some_iff.1 hh).1]
    exact hh

theorem OwnC.grown {w W0 w' : World} {base : Nat} {v : Value} {l : List α} (hB : Below w.heap.size w W0) (hown : OwnC cells size e W0 base v l) (hb : w.heap.size ≤ base) (hg : W0.grownBy w' v.ownBlock) : Below w.heap.size w w' :=
  hB.grown hg hB.size (fun j hj => Nat.le_trans hb (hown.lt j hj).1)
theorem OwnC.far {w : World} {base b : Nat} {v : Value} {l : List α} (h : OwnC cells size e w base v l) (hb : b < base) : some b ≠ v.ownBlock := fun e => by
  have := (h.lt b e.symm).1
  omega
theorem OwnC.nil (w : World) (base : Nat) : OwnC cells size e w base (.slice none 0 0) ([] : List α) := World.ownsRow_nil ..
/-- '[]T{}'. -/
theorem OwnC.empty (w : World) (base : Nat) (hb : base ≤ w.heap.size) : OwnC cells size e (w.alloc (.cells #[] e)) base (.slice (some ⟨w.heap.size, 0, none⟩) 0 0) ([] : List α) :=
  ⟨by simp, .inr ⟨w.heap.size, 0, #[], rfl, hb, heap_alloc_new w _, by simp, by simp [maxLen], by simp, by simp⟩⟩

/-- All cells of a slice, in a row. -/
theorem SlAt.news (hc : ∀ x, (cells x).length = size) {w : World} {ao : Option Addr} {cap : Nat} {l : List α} (h : SlAt (RC cells) size w ao cap l) (h0 : 0 < l.length) (hs : 0 < size) :
    ∃ b off, ao = some ⟨b, off, none⟩ ∧ ∀ j x, (l.flatMap cells)[j]? = some x → w.cell? ((⟨b, off, none⟩ : Addr).add j) = some x := by
  obtain ⟨b, off, rfl, _, hcl⟩ := h.cells h0
  refine ⟨b, off, rfl, fun j x hx => ?_⟩
  have hj := (List.getElem?_eq_some_iff.1 hx).1
  rw [flatC_len hc] at hj
  have hi : j / size < l.length := (Nat.div_lt_iff_lt_mul hs).2 hj
  have hm : j % size < size := Nat.mod_lt _ hs
  have hjj : j = j / size * size + j % size := by rw [Nat.mul_comm]; exact (Nat.div_add_mod j size).symm
  obtain ⟨cs, h1, _, h3⟩ := hcl (j / size) hi
  have h1' : cs = cells l[j / size] := h1
  subst h1'
  rw [hjj, flatC_get hc l _ hi _ hm] at hx
  have := h3 _ _ hx
  rw [Go.WideShapes.add_plain]
  rw [show off + j = off + j / size * size + j % size by omega]
  exact this

theorem grownA' {w w' : World} {o : Obj} {row : Option Nat} (h : (w.alloc o).grownBy w' row) : w.grownBy w' row :=
  ⟨h.os, h.tape, h.output, Nat.le_trans (by simp) h.size, fun k hk hr => (h.block k (by simp; omega) hr).trans (Below.heap_alloc w o k hk)⟩

/-- 'append(v, y)', y laid into a block of its own just ahead. -/
theorem wpList_app_one {t : TypeId} {z : Value} {bytes : Nat} (hinfo : (Tryz.prog.info? e).map (fun i => (i.zero, i.size, i.bytes)) = some (some z, size, bytes)) (hu : Tryz.prog.underlying t = some (.slice e)) (hzs : z.cells.size = size) (hs0 : 0 < size) (hc : ∀ x, (cells x).length = size) (h1c : ∀ x, ∀ u ∈ cells x, u.oneCell' = true) (hby : bytes ≤ 1000)
    {ops : Array Oper} {rest : List Oper} {o : Oper} {a : Act} {Q : Exit → Act → World → Prop} {W0 : World} (hgd : o.guard = none) (s x : Operand)
    (ho : o.op = .call { callee := .builtin .append, args := #[s, x], argTypes := #[t, t] }) (base : Nat) (v : Value) (l : List α) (y : α) (arr : Array Value) (harr : arr.toList = cells y) (hs : a.eval s = v) (hown : OwnC cells size e W0 base v l)
    (H : Nat) (hH : W0.heap.size = H) (hx : a.eval x = .slice (some ⟨H, 0, none⟩) 1 1) (hb : base ≤ W0.heap.size) (hn : l.length ≤ 1000000)
    (h : ∀ v' w', OwnC cells size e w' base v' (l ++ [y]) → W0.grownBy w' v.ownBlock → wpList Tryz.prog ops Q rest (a.put o.dst v') w') : wpList Tryz.prog ops Q (o :: rest) a (W0.alloc (.cells arr e)) := by
  subst hH
  obtain ⟨i0, hi, hi0, hi1, hi2⟩ := info_parts hinfo
  have hmb : (l.length + 1) * bytes ≤ 1000001 * 1000 := Nat.mul_le_mul (by omega) hby
  have hnews : ∀ j u, (cells y)[j]? = some u → (W0.alloc (.cells arr e)).cell? ((⟨W0.heap.size, 0, none⟩ : Addr).add j) = some u := by
    intro j u hu
    rw [Go.WideShapes.add_plain, cell_of_row _ W0.heap.size (0 + j) arr e (0, 0) (heap_alloc_new W0 _), ← Array.getElem?_toList, harr, Nat.zero_add]
    exact hu
  refine wpList_append_own _ hgd s x t ho base e i0 z size bytes hu hi hi0 hi1 hi2 hzs hs0 v l.length (l.flatMap cells) hs (OwnC.below hown ((Below.refl _ W0).alloc (Nat.le_refl _) _)) ⟨W0.heap.size, 0, none⟩ 1 1 (cells y) hx (by rw [hc]; omega) hnews (h1c y) (by simp only [maxLen]; omega) (by omega) (by simp; omega) ?_
  intro v' w' h1 h2 _
  refine h v' w' ?_ (grownA' h2)
  show w'.ownsRow base e size v' (l ++ [y]).length _
  rw [List.flatMap_append, List.length_append]
  simpa using h1

/-- 'append(v, l2...)', l2 what came in, or was made. -/
theorem wpList_app_many {t : TypeId} {z : Value} {bytes : Nat} (hinfo : (Tryz.prog.info? e).map (fun i => (i.zero, i.size, i.bytes)) = some (some z, size, bytes)) (hu : Tryz.prog.underlying t = some (.slice e)) (hzs : z.cells.size = size) (hs0 : 0 < size) (hc : ∀ x, (cells x).length = size) (h1c : ∀ x, ∀ u ∈ cells x, u.oneCell' = true) (hby : bytes ≤ 1000)
    {ops : Array Oper} {rest : List Oper} {o : Oper} {a : Act} {Q : Exit → Act → World → Prop} {W0 : World} (hgd : o.guard = none) (s x : Operand)
    (ho : o.op = .call { callee := .builtin .append, args := #[s, x], argTypes := #[t, t] }) (base : Nat) (v : Value) (l : List α) (ao : Option Addr) (cap : Nat) (l2 : List α) (hs : a.eval s = v) (hown : OwnC cells size e W0 base v l)
    (hx : a.eval x = .slice ao l2.length cap) (h2 : SlAt (RC cells) size W0 ao cap l2) (hb : base ≤ W0.heap.size) (hn : l.length ≤ 1000000) (hn2 : l2.length ≤ 1000000)
    (h : ∀ v' w', OwnC cells size e w' base v' (l ++ l2) → W0.grownBy w' v.ownBlock → wpList Tryz.prog ops Q rest (a.put o.dst v') w') : wpList Tryz.prog ops Q (o :: rest) a W0 := by
  obtain ⟨i0, hi, hi0, hi1, hi2⟩ := info_parts hinfo
  have hmb : (l.length + l2.length) * bytes ≤ 2000000 * 1000 := Nat.mul_le_mul (by omega) hby
  have fin : ∀ v' w', w'.ownsRow base e size v' (l.length + l2.length) (l.flatMap cells ++ l2.flatMap cells) → OwnC cells size e w' base v' (l ++ l2) := by
    intro v' w' h1
    show w'.ownsRow base e size v' (l ++ l2).length _
    rw [List.flatMap_append, List.length_append]
    exact h1
  have one : ∀ u ∈ l2.flatMap cells, u.oneCell' = true := by
    intro u hu
    obtain ⟨x, _, hx⟩ := List.mem_flatMap.1 hu
    exact h1c x u hx
  by_cases h0 : 0 < l2.length
  · obtain ⟨b, off, rfl, hnews⟩ := SlAt.news hc h2 h0 hs0
    refine wpList_append_own _ hgd s x t ho base e i0 z size bytes hu hi hi0 hi1 hi2 hzs hs0 v l.length (l.flatMap cells) hs hown ⟨b, off, none⟩ l2.length cap (l2.flatMap cells) hx (flatC_len hc _) hnews one (by simp only [maxLen]; omega) (by omega) hb ?_
    intro v' w' h1 h2 _
    exact h v' w' (fin v' w' h1) h2
  · obtain rfl : l2 = [] := List.eq_nil_of_length_eq_zero (by omega)
    cases ao with
    | none =>
      obtain rfl := h2.nil rfl
      refine wpList_append_own_none hgd s x t ho base e i0 size hu hi v l.length (l.flatMap cells) hs hown hx ?_
      exact h v W0 (by simpa using hown) ⟨rfl, rfl, rfl, Nat.le_refl _, fun _ _ _ => rfl⟩
    | some ad =>
      refine wpList_append_own _ hgd s x t ho base e i0 z size bytes hu hi hi0 hi1 hi2 hzs hs0 v l.length (l.flatMap cells) hs hown ad 0 cap [] hx (by simp) (fun j u hj => by simp at hj) (fun u hu => by simp at hu) (by simp only [maxLen]; omega) (by simp at hmb; simpa using Nat.le_trans hmb (by decide)) hb ?_
      intro v' w' h1 h2 _
      exact h v' w' (by simpa using h1) h2
end

end Go.Proofs.YtlamhfbdeinkkaeGreat
