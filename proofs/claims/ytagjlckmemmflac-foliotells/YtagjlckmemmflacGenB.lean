/- Slices that a call makes, of whatever elements: what they own, how one appends to them. -/
import Derived.Test.YtagjlckmemmflacGenA
import Derived.Laws.AppendOwnNone
import Derived.OwnWalk
import Derived.Deep.Onto
import Derived.OneCell
namespace Go.Proofs.Ytagjlckmemmflac
open Go.RowKit
set_option linter.unusedSimpArgs false
set_option linter.unusedVariables false

/-- An element that lies in the cells 'cells x'. -/
abbrev RC {α : Type} (cells : α → List Value) : World → α → List Value → Prop := fun _ x cs => cs = cells x
theorem RC.mono {α : Type} (cells : α → List Value) : Mono (RC cells) := fun _ _ _ _ _ h => h

/-- The value v is a slice of the call's own (blocks from base on) that holds l. -/
abbrev OwnC {α : Type} (cells : α → List Value) (size : Nat) (e : TypeId) (w : World) (base : Nat) (v : Value) (l : List α) : Prop := w.ownsRow base e size v l.length (l.flatMap cells)

section
variable {α : Type} {cells : α → List Value} {size : Nat} {e : TypeId}

theorem flatC_len (hc : ∀ x, (cells x).length = size) (l : List α) : (l.flatMap cells).length = l.length * size := by
  induction l with
  | nil => simp
  | cons x l ih => rw [List.flatMap_cons, List.length_append, ih, hc, List.length_cons, Nat.succ_mul]; omega

theorem flatC_get (hc : ∀ x, (cells x).length = size) (l : List α) (i : Nat) (h : i < l.length) (j : Nat) (hj : j < size) : (l.flatMap cells)[i * size + j]? = (cells l[i])[j]? := by
  rw [List.flatMap_def]
  refine flat_get (l.map cells) (fun c hm => ?_) i j _ (by simp [h]) hj
  obtain ⟨x, _, rfl⟩ := List.mem_map.1 hm
  exact hc x

theorem OwnC.at (hc : ∀ x, (cells x).length = size) {w : World} {base : Nat} {v : Value} {l : List α} (h : OwnC cells size e w base v l) : ∃ ao cap, v = .slice ao l.length cap ∧ SlAt (RC cells) size w ao cap l := by
  rcases h.2 with ⟨rfl, h0⟩ | ⟨g, cap, cur, rfl, hb, hg, hn, hm, hs, ht⟩
  · refine ⟨none, 0, by rw [h0], by omega, by simp [maxLen], fun _ => rfl, by omega⟩
  · refine ⟨some ⟨g, 0, none⟩, cap, rfl, hn, hm, (fun h => by cases h), fun h0 => ⟨g, 0, rfl, ?_, fun i hi => ⟨cells l[i], rfl, hc _, fun j u hj => ?_⟩⟩⟩
    · rcases Nat.lt_or_ge g w.heap.size with hlt | hge
      · exact hlt
      · rw [Array.getElem?_eq_none hge] at hg; cases hg
    · have hj' := (List.getElem?_eq_some_iff.1 hj).1
      rw [hc] at hj'
      have hlt : i * size + j < l.length * size := by
        have : (i + 1) * size ≤ l.length * size := Nat.mul_le_mul_right _ hi
        rw [Nat.succ_mul] at this
        omega
      have k0 := World.ownsRow.cellAt h (i * size + j) hlt
      rw [flatC_get hc l i hi j hj', hj] at k0
      simpa using k0

theorem OwnC.below {w w' : World} {base : Nat} {v : Value} {l : List α} (h : OwnC cells size e w base v l) (hb : Below w.heap.size w w') : OwnC cells size e w' base v l := by
  refine ⟨h.1, ?_⟩
  rcases h.2 with h2 | ⟨g, cap, cur, hv, hg, hh, r⟩
  · exact Or.inl h2
  · refine Or.inr ⟨g, cap, cur, hv, hg, ?_, r⟩
    rw [hb.block g (Array.getElem?_eq_some_iff.1 hh).1]
    exact hh

theorem OwnC.grown {w W0 w' : World} {base : Nat} {v : Value} {l : List α} (hB : Below w.heap.size w W0) (hown : OwnC cells size e W0 base v l) (hb : w.heap.size ≤ base) (hg : W0.grownBy w' v.ownBlock) : Below w.heap.size w w' :=
  hB.grown hg hB.size (fun j hj => Nat.le_trans hb (hown.lt j hj).1)
theorem OwnC.far {w : World} {base b : Nat} {v : Value} {l : List α} (h : OwnC cells size e w base v l) (hb : b < base) : some b ≠ v.ownBlock := fun e => by
  have := (h.lt b e.symm).1
  omega
theorem OwnC.nil (w : World) (base : Nat) : OwnC cells size e w base (.slice none 0 0) ([] : List α) := World.ownsRow_nil ..
/-- '[]T{}'. -/
theorem OwnC.empty (w : World) (base : Nat) (hb : base ≤ w.heap.size) : OwnC cells size e (w.alloc (.cells #[] e)) base (.slice (some ⟨w.heap.size, 0, none⟩) 0 0) ([] : List α) :=
  ⟨by simp, .inr ⟨w.heap.size, 0, #[], rfl, hb, heap_alloc_new w _, by simp, by simp [maxLen], by simp, by simp⟩⟩

/-- All cells of a slice, in a row. -/
theorem SlAt.news (hc : ∀ x, (cells x).length = size) {w : World} {ao : Option Addr} {cap : Nat} {l : List α} (h : SlAt (RC cells) size w ao cap l) (h0 : 0 < l.length) (hs : 0 < size) :
    ∃ b off, ao = some ⟨b, off, none⟩ ∧ ∀ j x, (l.flatMap cells)[j]? = some x → w.cell? ((⟨b, off, none⟩ : Addr).add j) = some x := by
  obtain ⟨b, off, rfl, _, hcl⟩ := h.cells h0
  refine ⟨b, off, rfl, fun j x hx => ?_⟩
  have hj := (List.getElem?_eq_some_iff.1 hx).1
  rw [flatC_len hc] at hj
  have hi : j / size < l.length := (Nat.div_lt_iff_lt_mul hs).2 hj
  have hm : j % size < size := Nat.mod_lt _ hs
  have hjj : j = j / size * size + j % size := by rw [Nat.mul_comm]; exact (Nat.div_add_mod j size).symm
  obtain ⟨cs, h1, _, h3⟩ := hcl (j / size) hi
  have h1' : cs = cells l[j / size] := h1
  subst h1'
  rw [hjj, flatC_get hc l _ hi _ hm] at hx
  have := h3 _ _ hx
  rw [Go.WideShapes.add_plain]
  rw [show off + j = off + j / size * size + j % size by omega]
  exact this

theorem grownA' {w w' : World} {o : Obj} {row : Option Nat} (h : (w.alloc o).grownBy w' row) : w.grownBy w' row :=
  ⟨h.os, h.tape, h.output, Nat.le_trans (by simp) h.size, fun k hk hr => (h.block k (by simp; omega) hr).trans (Below.heap_alloc w o k hk)⟩

/-- 'append(v, y)', y laid into a block of its own just ahead. -/
theorem wpList_app_one {t : TypeId} {z : Value} {bytes : Nat} (hinfo : (Try.prog.info? e).map (fun i => (i.zero, i.size, i.bytes)) = some (some z, size, bytes)) (hu : Try.prog.underlying t = some (.slice e)) (hzs : z.cells.size = size) (hs0 : 0 < size) (hc : ∀ x, (cells x).length = size) (h1c : ∀ x, ∀ u ∈ cells x, u.oneCell' = true) (hby : bytes ≤ 1000)
    {ops : Array Oper} {rest : List Oper} {o : Oper} {a : Act} {Q : Exit → Act → World → Prop} {W0 : World} (hgd : o.guard = none) (s x : Operand)
    (ho : o.op = .call { callee := .builtin .append, args := #[s, x], argTypes := #[t, t] }) (base : Nat) (v : Value) (l : List α) (y : α) (arr : Array Value) (harr : arr.toList = cells y) (hs : a.eval s = v) (hown : OwnC cells size e W0 base v l)
    (H : Nat) (hH : W0.heap.size = H) (hx : a.eval x = .slice (some ⟨H, 0, none⟩) 1 1) (hb : base ≤ W0.heap.size) (hn : l.length ≤ 1000000)
    (h : ∀ v' w', OwnC cells size e w' base v' (l ++ [y]) → W0.grownBy w' v.ownBlock → wpList Try.prog ops Q rest (a.put o.dst v') w') : wpList Try.prog ops Q (o :: rest) a (W0.alloc (.cells arr e)) := by
  subst hH
  obtain ⟨i0, hi, hi0, hi1, hi2⟩ := info_parts hinfo
  have hmb : (l.length + 1) * bytes ≤ 1000001 * 1000 := Nat.mul_le_mul (by omega) hby
  have hnews : ∀ j u, (cells y)[j]? = some u → (W0.alloc (.cells arr e)).cell? ((⟨W0.heap.size, 0, none⟩ : Addr).add j) = some u := by
    intro j u hu
    rw [Go.WideShapes.add_plain, cell_of_row _ W0.heap.size (0 + j) arr e (0, 0) (heap_alloc_new W0 _), ← Array.getElem?_toList, harr, Nat.zero_add]
    exact hu
  refine wpList_append_own _ hgd s x t ho base e i0 z size bytes hu hi hi0 hi1 hi2 hzs hs0 v l.length (l.flatMap cells) hs (OwnC.below hown ((Below.refl _ W0).alloc (Nat.le_refl _) _)) ⟨W0.heap.size, 0, none⟩ 1 1 (cells y) hx (by rw [hc]; omega) hnews (h1c y) (by simp only [maxLen]; omega) (by omega) (by simp; omega) ?_
  intro v' w' h1 h2 _
  refine h v' w' ?_ (grownA' h2)
  show w'.ownsRow base e size v' (l ++ [y]).length _
  rw [List.flatMap_append, List.length_append]
  simpa using h1

/-- 'append(v, l2...)', l2 what came in, or was made. -/
theorem wpList_app_many {t : TypeId} {z : Value} {bytes : Nat} (hinfo : (Try.prog.info? e).map (fun i => (i.zero, i.size, i.bytes)) = some (some z, size, bytes)) (hu : Try.prog.underlying t = some (.slice e)) (hzs : z.cells.size = size) (hs0 : 0 < size) (hc : ∀ x, (cells x).length = size) (h1c : ∀ x, ∀ u ∈ cells x, u.oneCell' = true) (hby : bytes ≤ 1000)
    {ops : Array Oper} {rest : List Oper} {o : Oper} {a : Act} {Q : Exit → Act → World → Prop} {W0 : World} (hgd : o.guard = none) (s x : Operand)
    (ho : o.op = .call { callee := .builtin .append, args := #[s, x], argTypes := #[t, t] }) (base : Nat) (v : Value) (l : List α) (ao : Option Addr) (cap : Nat) (l2 : List α) (hs : a.eval s = v) (hown : OwnC cells size e W0 base v l)
    (hx : a.eval x = .slice ao l2.length cap) (h2 : SlAt (RC cells) size W0 ao cap l2) (hb : base ≤ W0.heap.size) (hn : l.length ≤ 1000000) (hn2 : l2.length ≤ 1000000)
    (h : ∀ v' w', OwnC cells size e w' base v' (l ++ l2) → W0.grownBy w' v.ownBlock → wpList Try.prog ops Q rest (a.put o.dst v') w') : wpList Try.prog ops Q (o :: rest) a W0 := by
  obtain ⟨i0, hi, hi0, hi1, hi2⟩ := info_parts hinfo
  have hmb : (l.length + l2.length) * bytes ≤ 2000000 * 1000 := Nat.mul_le_mul (by omega) hby
  have fin : ∀ v' w', w'.ownsRow base e size v' (l.length + l2.length) (l.flatMap cells ++ l2.flatMap cells) → OwnC cells size e w' base v' (l ++ l2) := by
    intro v' w' h1
    show w'.ownsRow base e size v' (l ++ l2).length _
    rw [List.flatMap_append, List.length_append]
    exact h1
  have one : ∀ u ∈ l2.flatMap cells, u.oneCell' = true := by
    intro u hu
    obtain ⟨x, _, hx⟩ := List.mem_flatMap.1 hu
    exact h1c x u hx
  by_cases h0 : 0 < l2.length
  · obtain ⟨b, off, rfl, hnews⟩ := SlAt.news hc h2 h0 hs0
    refine wpList_append_own _ hgd s x t ho base e i0 z size bytes hu hi hi0 hi1 hi2 hzs hs0 v l.length (l.flatMap cells) hs hown ⟨b, off, none⟩ l2.length cap (l2.flatMap cells) hx (flatC_len hc _) hnews one (by simp only [maxLen]; omega) (by omega) hb ?_
    intro v' w' h1 h2 _
    exact h v' w' (fin v' w' h1) h2
  · obtain rfl : l2 = [] := List.eq_nil_of_length_eq_zero (by omega)
    cases ao with
    | none =>
      obtain rfl := h2.nil rfl
      refine wpList_append_own_none hgd s x t ho base e i0 size hu hi v l.length (l.flatMap cells) hs hown hx ?_
      exact h v W0 (by simpa using hown) ⟨rfl, rfl, rfl, Nat.le_refl _, fun _ _ _ => rfl⟩
    | some ad =>
      refine wpList_append_own _ hgd s x t ho base e i0 z size bytes hu hi hi0 hi1 hi2 hzs hs0 v l.length (l.flatMap cells) hs hown ad 0 cap [] hx (by simp) (fun j u hj => by simp at hj) (fun u hu => by simp at hu) (by simp only [maxLen]; omega) (by simp at hmb; simpa using Nat.le_trans hmb (by decide)) hb ?_
      intro v' w' h1 h2 _
      exact h v' w' (by simpa using h1) h2
end

end Go.Proofs.Ytagjlckmemmflac
