/- The reference: PromisesOf. -/
import Derived.Test.YtlamhfbdeinkkaeGreatStAr
import Derived.Test.YtlamhfbdeinkkaeGreatBoCr
import Derived.OwnWalk
import Derived.Maps.AppendAt
namespace Go.Proofs.YtlamhfbdeinkkaeGreat.St
open Go.RowKit Bk
set_option linter.unusedSimpArgs false
set_option linter.unusedVariables false
set_option maxRecDepth 10000

def cellsI (n : Int) : List Value := [.int .i64 n]
def cellsG (x : Int × Int) : List Value := [.int .i64 x.1, .int .i64 x.2]
theorem cellsI_len (n : Int) : (cellsI n).length = 1 := rfl
theorem cellsG_len (x : Int × Int) : (cellsG x).length = 2 := rfl
theorem cellsI_one (n : Int) : ∀ u ∈ cellsI n, u.oneCell' = true := by simp [cellsI]; rfl
theorem cellsG_one (x : Int × Int) : ∀ u ∈ cellsG x, u.oneCell' = true := by simp [cellsG]; exact ⟨rfl, rfl⟩
abbrev OwnJ (w : World) (base : Nat) (v : Value) (l : List Int) : Prop := OwnC cellsI 1 3 w base v l
abbrev OwnG (w : World) (base : Nat) (v : Value) (l : List (Int × Int)) : Prop := OwnC cellsG 2 85 w base v l
theorem Tryz.infoI : (Tryz.prog.info? 3).map (fun i => (i.zero, i.size, i.bytes)) = some (some (.int .i64 0), 1, 8) := by kernel_rfl
theorem Tryz.infoG : (Tryz.prog.info? 85).map (fun i => (i.zero, i.size, i.bytes)) = some (some (.agg #[.int .i64 0, .int .i64 0]), 2, 16) := by kernel_rfl
theorem OwnJ.at {w : World} {base : Nat} {v : Value} {l : List Int} (h : OwnJ w base v l) : ∃ ao cap, v = .slice ao l.length cap ∧ IntsAt w ao cap l := OwnC.at cellsI_len h
theorem wpList_app_int {ops : Array Oper} {rest : List Oper} {o : Oper} {a : Act} {Q : Exit → Act → World → Prop} {W0 : World} (hgd : o.guard = none) (s x : Operand)
    (ho : o.op = .call { callee := .builtin .append, args := #[s, x], argTypes := #[47, 47] }) (base : Nat) (v : Value) (l : List Int) (n : Int) (hs : a.eval s = v) (hown : OwnJ W0 base v l)
    (H : Nat) (hH : W0.heap.size = H) (hx : a.eval x = .slice (some ⟨H, 0, none⟩) 1 1) (hb : base ≤ W0.heap.size) (hn : l.length ≤ 1000000)
    (h : ∀ v' w', OwnJ w' base v' (l ++ [n]) → W0.grownBy w' v.ownBlock → wpList Tryz.prog ops Q rest (a.put o.dst v') w') : wpList Tryz.prog ops Q (o :: rest) a (W0.alloc (.cells #[.int .i64 n] 3)) :=
  wpList_app_one Tryz.infoI Tryz.underlying47 rfl (by decide) cellsI_len cellsI_one (by decide) hgd s x ho base v l n _ rfl hs hown H hH hx hb hn h
/-- H2: may cabin c keep the promise b? -/
def P.elC (s : Vsl) (l : List Bkg) (b : Bkg) (c : Nat) : Bool := decide (P.mine c l = []) && P.elig s b c
def P.edgs (s : Vsl) (l : List Bkg) (i : Nat) (b : Bkg) (n : Nat) : List (Int × Int) := ((List.range n).filter (P.elC s l b)).map fun c => ((i : Int), ((c : Nat) : Int))
def P.pids (l : List Bkg) : List Int := (l.filter P.opn).map fun b => b.id
def P.pedg (s : Vsl) (l : List Bkg) : Nat → List Bkg → List (Int × Int)
  | _, [] => []
  | i, b :: t => if P.opn b = true then P.edgs s l i b s.bs.length ++ P.pedg s l (i + 1) t else P.pedg s l i t

theorem edgs_on (s : Vsl) (l : List Bkg) (i : Nat) (b : Bkg) (n : Nat) : P.edgs s l i b (n + 1) = P.edgs s l i b n ++ (if P.elC s l b n = true then [((i : Int), ((n : Nat) : Int))] else []) := by
  rw [P.edgs, List.range_succ, List.filter_append, List.map_append]
  congr 1
  cases h : P.elC s l b n <;> simp [List.filter_cons, h]
theorem take_snoc' {α : Type} {l : List α} {x : α} {k : Nat} (hk : k < l.length) (hd : l.drop k = x :: l.drop (k + 1)) : l.take (k + 1) = l.take k ++ [x] := by
  have h1 := List.drop_eq_getElem_cons hk
  rw [hd] at h1
  simp only [List.cons.injEq] at h1
  rw [List.take_succ_eq_append_getElem hk, ← h1.1]
theorem pids_len (m : List Bkg) : (P.pids m).length = (m.filter P.opn).length := by simp [P.pids]
end Go.Proofs.YtlamhfbdeinkkaeGreat.St
namespace Go.Proofs.YtlamhfbdeinkkaeGreat.St
open Go.RowKit Bk
set_option linter.unusedSimpArgs false
set_option linter.unusedVariables false
set_option maxRecDepth 10000

section
variable {α : Type} {cells : α → List Value} {size : Nat} {e : TypeId}
/-- 'append(v, y)', and where the new slice lies. -/
theorem wpList_app_at {t : TypeId} {z : Value} {bytes : Nat} (hinfo : (Tryz.prog.info? e).map (fun i => (i.zero, i.size, i.bytes)) = some (some z, size, bytes)) (hu : Tryz.prog.underlying t = some (.slice e)) (hzs : z.cells.size = size) (hs0 : 0 < size) (hc : ∀ x, (cells x).length = size) (h1c : ∀ x, ∀ u ∈ cells x, u.oneCell' = true) (hby : bytes ≤ 1000)
    {ops : Array Oper} {rest : List Oper} {o : Oper} {a : Act} {Q : Exit → Act → World → Prop} {W0 : World} (hgd : o.guard = none) (s x : Operand)
    (ho : o.op = .call { callee := .builtin .append, args := #[s, x], argTypes := #[t, t] }) (base : Nat) (v : Value) (l : List α) (y : α) (arr : Array Value) (harr : arr.toList = cells y) (hs : a.eval s = v) (hown : OwnC cells size e W0 base v l)
    (H : Nat) (hH : W0.heap.size = H) (hx : a.eval x = .slice (some ⟨H, 0, none⟩) 1 1) (hb : base ≤ W0.heap.size) (hn : l.length ≤ 1000000)
    (h : ∀ v' w', OwnC cells size e w' base v' (l ++ [y]) → W0.grownBy w' v.ownBlock → (v'.ownBlock = v.ownBlock ∨ v'.ownBlock = some (H + 1)) → wpList Tryz.prog ops Q rest (a.put o.dst v') w') : wpList Tryz.prog ops Q (o :: rest) a (W0.alloc (.cells arr e)) := by
  subst hH
  obtain ⟨i0, hi, hi0, hi1, hi2⟩ := info_parts hinfo
  have hmb : (l.length + 1) * bytes ≤ 1000001 * 1000 := Nat.mul_le_mul (by omega) hby
  have hnews : ∀ j u, (cells y)[j]? = some u → (W0.alloc (.cells arr e)).cell? ((⟨W0.heap.size, 0, none⟩ : Addr).add j) = some u := by
    intro j u hu
    rw [Go.WideShapes.add_plain, cell_of_row _ W0.heap.size (0 + j) arr e (0, 0) (heap_alloc_new W0 _), ← Array.getElem?_toList, harr, Nat.zero_add]
    exact hu
  refine wpList_append_own_at _ hgd s x t ho base e i0 z size bytes hu hi hi0 hi1 hi2 hzs hs0 v l.length (l.flatMap cells) hs (OwnC.below hown ((Below.refl _ W0).alloc (Nat.le_refl _) _)) ⟨W0.heap.size, 0, none⟩ 1 1 (cells y) hx (by rw [hc]; omega) hnews (h1c y) (by simp only [maxLen]; omega) (by omega) (by simp; omega) ?_
  intro v' w' h1 h2 _ h4
  refine h v' w' ?_ (grownA' h2) (by simpa using h4)
  show w'.ownsRow base e size v' (l ++ [y]).length _
  rw [List.flatMap_append, List.length_append]
  simpa using h1
theorem OwnC.apart {w w' : World} {base : Nat} {v : Value} {l : List α} {row : Option Nat} (h : OwnC cells size e w base v l) (hg : w.grownBy w' row) (hr : ∀ r, row = some r → v.ownBlock ≠ some r) : OwnC cells size e w' base v l := by
  refine ⟨h.1, ?_⟩
  rcases h.2 with h2 | ⟨g, cap, cur, hv, hgb, hh, r⟩
  · exact Or.inl h2
  · refine Or.inr ⟨g, cap, cur, hv, hgb, ?_, r⟩
    rw [hg.block g (Array.getElem?_eq_some_iff.1 hh).1 (fun e => hr g e.symm (by rw [hv]; rfl))]
    exact hh
theorem OwnC.ahead {w : World} {base base' : Nat} {v : Value} {l : List α} (h : OwnC cells size e w base v l) (hb : base' ≤ base) : OwnC cells size e w base' v l := by
  refine ⟨h.1, ?_⟩
  rcases h.2 with h2 | ⟨g, cap, cur, hv, hg, r⟩
  · exact Or.inl h2
  · exact Or.inr ⟨g, cap, cur, hv, Nat.le_trans hb hg, r⟩
end
theorem cell_gr {W W' : World} {row : Option Nat} {b o : Nat} {v : Value} (hg : W.grownBy W' row) (h : W.cell? ⟨b, o, none⟩ = some v) (hr : row ≠ some b) : W'.cell? ⟨b, o, none⟩ = some v := by
  have e : W'.heap[b]? = W.heap[b]? := hg.block b (World.block_lt_of_cell? W _ h) (fun e => hr e.symm)
  rw [← h]
  simp only [World.cell?, e]
theorem BBox.gr {W W' : World} {row : Option Nat} {g : Nat} {x : Bkg} {fo : Option Addr} {fc : Nat} (h : BBox W g x fo fc) (hg : W.grownBy W' row) (hr : row ≠ some g) : BBox W' g x fo fc :=
  ⟨cell_gr hg h.c0 hr, cell_gr hg h.c1 hr, cell_gr hg h.c2 hr, cell_gr hg h.c3 hr, cell_gr hg h.c4 hr, cell_gr hg h.c5 hr, cell_gr hg h.c6 hr, cell_gr hg h.c7 hr, cell_gr hg h.c8 hr, cell_gr hg h.c9 hr, cell_gr hg h.c10 hr⟩
theorem SBox.low {w w' : World} {N g : Nat} {x : Sail} {a : SailA} (h : SBox w g x a) (hb : Below N w w') (hg : g < N) : SBox w' g x a := by
  have e : ∀ o v, w.cell? ⟨g, o, none⟩ = some v → w'.cell? ⟨g, o, none⟩ = some v := fun o v hv => by rw [hb.cell (p := ⟨g, o, none⟩) hg]; exact hv
  exact ⟨e _ _ h.c0, e _ _ h.c1, e _ _ h.c2, e _ _ h.c3, e _ _ h.c4, e _ _ h.c5, e _ _ h.c6, e _ _ h.c7, e _ _ h.c8, e _ _ h.c9, e _ _ h.c10, e _ _ h.c11, e _ _ h.c12⟩

end Go.Proofs.YtlamhfbdeinkkaeGreat.St
