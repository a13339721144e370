/- The reference: PromisesOf. -/
import Derived.Test.YtlamhfbdeinkkaeGreatStAq
import Derived.Test.YtlamhfbdeinkkaeGreatBoCq
import Derived.OwnWalk
import Derived.Maps.AppendAt
import Derived.Test.YtlamhfbdeinkkaeGreatMaEq
import Derived.Test.YtlamhfbdeinkkaeGreatBoDq
import Derived.Deep.RegionHeld3
namespace Go.Proofs.YtlamhfbdeinkkaeGreat.St
open Go.RowKit Bk
set_option linter.unusedSimpArgs false
set_option linter.unusedVariables false
set_option maxRecDepth 10000

def cellsI (n : Int) : List Value := [.int .i64 n]
def cellsG (x : Int × Int) : List Value := [.int .i64 x.1, .int .i64 x.2]
theorem cellsI_len (n : Int) : (cellsI n).length = 1 := rfl
theorem cellsG_len (x : Int × Int) : (cellsG x).length = 2 := rfl
theorem cellsI_one (n : Int) : ∀ u ∈ cellsI n, u.oneCell' = true := by simp [cellsI]; rfl
theorem cellsG_one (x : Int × Int) : ∀ u ∈ cellsG x, u.oneCell' = true := by simp [cellsG]; exact ⟨rfl, rfl⟩
abbrev OwnJ (w : World) (base : Nat) (v : Value) (l : List Int) : Prop := OwnC cellsI 1 3 w base v l
abbrev OwnG (w : World) (base : Nat) (v : Value) (l : List (Int × Int)) : Prop := OwnC cellsG 2 85 w base v l
theorem Tryz.infoI : (Tryz.prog.info? 3).map (fun i => (i.zero, i.size, i.bytes)) = some (some (.int .i64 0), 1, 8) := by kernel_rfl
theorem Tryz.infoG : (Tryz.prog.info? 85).map (fun i => (i.zero, i.size, i.bytes)) = some (some (.agg #[.int .i64 0, .int .i64 0]), 2, 16) := by kernel_rfl
theorem OwnJ.at {w : World} {base : Nat} {v : Value} {l : List Int} (h : OwnJ w base v l) : ∃ ao cap, v = .slice ao l.length cap ∧ IntsAt w ao cap l := OwnC.at cellsI_len h
theorem wpList_app_int {ops : Array Oper} {rest : List Oper} {o : Oper} {a : Act} {Q : Exit → Act → World → Prop} {W0 : World} (hgd : o.guard = none) (s x : Operand)
    (ho : o.op = .call { callee := .builtin .append, args := #[s, x], argTypes := #[47, 47] }) (base : Nat) (v : Value) (l : List Int) (n : Int) (hs : a.eval s = v) (hown : OwnJ W0 base v l)
    (H : Nat) (hH : W0.heap.size = H) (hx : a.eval x = .slice (some ⟨H, 0, none⟩) 1 1) (hb : base ≤ W0.heap.size) (hn : l.length ≤ 1000000)
    (h : ∀ v' w', OwnJ w' base v' (l ++ [n]) → W0.grownBy w' v.ownBlock → wpList Tryz.prog ops Q rest (a.put o.dst v') w') : wpList Tryz.prog ops Q (o :: rest) a (W0.alloc (.cells #[.int .i64 n] 3)) :=
  wpList_app_one Tryz.infoI Tryz.underlying47 rfl (by decide) cellsI_len cellsI_one (by decide) hgd s x ho base v l n _ rfl hs hown H hH hx hb hn h
/-- H2: may cabin c keep the promise b? -/
def P.elC (s : Vsl) (l : List Bkg) (b : Bkg) (c : Nat) : Bool := decide (P.mine c l = []) && P.elig s b c
def P.edgs (s : Vsl) (l : List Bkg) (i : Nat) (b : Bkg) (n : Nat) : List (Int × Int) := ((List.range n).filter (P.elC s l b)).map fun c => ((i : Int), ((c : Nat) : Int))
def P.pids (l : List Bkg) : List Int := (l.filter P.opn).map fun b => b.id
def P.pedg (s : Vsl) (l : List Bkg) : Nat → List Bkg → List (Int × Int)
  | _, [] => []
  | i, b :: t => if P.opn b = true then P.edgs s l i b s.bs.length ++ P.pedg s l (i + 1) t else P.pedg s l i t

theorem edgs_on (s : Vsl) (l : List Bkg) (i : Nat) (b : Bkg) (n : Nat) : P.edgs s l i b (n + 1) = P.edgs s l i b n ++ (if P.elC s l b n = true then [((i : Int), ((n : Nat) : Int))] else []) := by
  rw [P.edgs, List.range_succ, List.filter_append, List.map_append]
  congr 1
  cases h : P.elC s l b n <;> simp [List.filter_cons, h]
theorem take_snoc' {α : Type} {l : List α} {x : α} {k : Nat} (hk : k < l.length) (hd : l.drop k = x :: l.drop (k + 1)) : l.take (k + 1) = l.take k ++ [x] := by
  have h1 := List.drop_eq_getElem_cons hk
  rw [hd] at h1
  simp only [List.cons.injEq] at h1
  rw [List.take_succ_eq_append_getElem hk, ← h1.1]
theorem pids_len (m : List Bkg) : (P.pids m).length = (m.filter P.opn).length := by simp [P.pids]
end Go.Proofs.YtlamhfbdeinkkaeGreat.St
namespace Go.Proofs.YtlamhfbdeinkkaeGreat.St
open Go.RowKit Bk
set_option linter.unusedSimpArgs false
set_option linter.unusedVariables false
set_option maxRecDepth 10000

section
variable {α : Type} {cells : α → List Value} {size : Nat} {e : TypeId}
/-- 'append(v, y)', and where the new slice lies. -/
theorem wpList_app_at {t : TypeId} {z : Value} {bytes : Nat} (hinfo : (Tryz.prog.info? e).map (fun i => (i.zero, i.size, i.bytes)) = some (some z, size, bytes)) (hu : Tryz.prog.underlying t = some (.slice e)) (hzs : z.cells.size = size) (hs0 : 0 < size) (hc : ∀ x, (cells x).length = size) (h1c : ∀ x, ∀ u ∈ cells x, u.oneCell' = true) (hby : bytes ≤ 1000)
    {ops : Array Oper} {rest : List Oper} {o : Oper} {a : Act} {Q : Exit → Act → World → Prop} {W0 : World} (hgd : o.guard = none) (s x : Operand)
    (ho : o.op = .call { callee := .builtin .append, args := #[s, x], argTypes := #[t, t] }) (base : Nat) (v : Value) (l : List α) (y : α) (arr : Array Value) (harr : arr.toList = cells y) (hs : a.eval s = v) (hown : OwnC cells size e W0 base v l)
    (H : Nat) (hH : W0.heap.size = H) (hx : a.eval x = .slice (some ⟨H, 0, none⟩) 1 1) (hb : base ≤ W0.heap.size) (hn : l.length ≤ 1000000)
    (h : ∀ v' w', OwnC cells size e w' base v' (l ++ [y]) → W0.grownBy w' v.ownBlock → (v'.ownBlock = v.ownBlock ∨ v'.ownBlock = some (H + 1)) → wpList Tryz.prog ops Q rest (a.put o.dst v') w') : wpList Tryz.prog ops Q (o :: rest) a (W0.alloc (.cells arr e)) := by
  subst hH
  obtain ⟨i0, hi, hi0, hi1, hi2⟩ := info_parts hinfo
  have hmb : (l.length + 1) * bytes ≤ 1000001 * 1000 := Nat.mul_le_mul (by omega) hby
  have hnews : ∀ j u, (cells y)[j]? = some u → (W0.alloc (.cells arr e)).cell? ((⟨W0.heap.size, 0, none⟩ : Addr).add j) = some u := by
    intro j u hu
    rw [Go.WideShapes.add_plain, cell_of_row _ W0.heap.size (0 + j) arr e (0, 0) (heap_alloc_new W0 _), ← Array.getElem?_toList, harr, Nat.zero_add]
    exact hu
  refine wpList_append_own_at _ hgd s x t ho base e i0 z size bytes hu hi hi0 hi1 hi2 hzs hs0 v l.length (l.flatMap cells) hs (OwnC.below hown ((Below.refl _ W0).alloc (Nat.le_refl _) _)) ⟨W0.heap.size, 0, none⟩ 1 1 (cells y) hx (by rw [hc]; omega) hnews (h1c y) (by simp only [maxLen]; omega) (by omega) (by simp; omega) ?_
  intro v' w' h1 h2 _ h4
  refine h v' w' ?_ (grownA' h2) (by simpa using h4)
  show w'.ownsRow base e size v' (l ++ [y]).length _
  rw [List.flatMap_append, List.length_append]
  simpa using h1
theorem OwnC.apart {w w' : World} {base : Nat} {v : Value} {l : List α} {row : Option Nat} (h : OwnC cells size e w base v l) (hg : w.grownBy w' row) (hr : ∀ r, row = some r → v.ownBlock ≠ some r) : OwnC cells size e w' base v l := by
  refine ⟨h.1, ?_⟩
  rcases h.2 with h2 | ⟨g, cap, cur, hv, hgb, hh, r⟩
  · exact Or.inl h2
  · refine Or.inr ⟨g, cap, cur, hv, hgb, ?_, r⟩
    rw [hg.block g (Array.getElem?_eq_some_iff.1 hh).1 (fun e => hr g e.symm (by rw [hv]; rfl))]
    exact hh
theorem OwnC.ahead {w : World} {base base' : Nat} {v : Value} {l : List α} (h : OwnC cells size e w base v l) (hb : base' ≤ base) : OwnC cells size e w base' v l := by
  refine ⟨h.1, ?_⟩
  rcases h.2 with h2 | ⟨g, cap, cur, hv, hg, r⟩
  · exact Or.inl h2
  · exact Or.inr ⟨g, cap, cur, hv, Nat.le_trans hb hg, r⟩
end
theorem cell_gr {W W' : World} {row : Option Nat} {b o : Nat} {v : Value} (hg : W.grownBy W' row) (h : W.cell? ⟨b, o, none⟩ = some v) (hr : row ≠ some b) : W'.cell? ⟨b, o, none⟩ = some v := by
  have e : W'.heap[b]? = W.heap[b]? := hg.block b (World.block_lt_of_cell? W _ h) (fun e => hr e.symm)
  rw [← h]
  simp only [World.cell?, e]
theorem BBox.gr {W W' : World} {row : Option Nat} {g : Nat} {x : Bkg} {fo : Option Addr} {fc : Nat} (h : BBox W g x fo fc) (hg : W.grownBy W' row) (hr : row ≠ some g) : BBox W' g x fo fc :=
  ⟨cell_gr hg h.c0 hr, cell_gr hg h.c1 hr, cell_gr hg h.c2 hr, cell_gr hg h.c3 hr, cell_gr hg h.c4 hr, cell_gr hg h.c5 hr, cell_gr hg h.c6 hr, cell_gr hg h.c7 hr, cell_gr hg h.c8 hr, cell_gr hg h.c9 hr, cell_gr hg h.c10 hr⟩
theorem SBox.low {w w' : World} {N g : Nat} {x : Sail} {a : SailA} (h : SBox w g x a) (hb : Below N w w') (hg : g < N) : SBox w' g x a := by
  have e : ∀ o v, w.cell? ⟨g, o, none⟩ = some v → w'.cell? ⟨g, o, none⟩ = some v := fun o v hv => by rw [hb.cell (p := ⟨g, o, none⟩) hg]; exact hv
  exact ⟨e _ _ h.c0, e _ _ h.c1, e _ _ h.c2, e _ _ h.c3, e _ _ h.c4, e _ _ h.c5, e _ _ h.c6, e _ _ h.c7, e _ _ h.c8, e _ _ h.c9, e _ _ h.c10, e _ _ h.c11, e _ _ h.c12⟩

end Go.Proofs.YtlamhfbdeinkkaeGreat.St
set_option maxRecDepth 10000
/- Walks of the reference's IsMatching and DoLack, of what is a matching and of what lacks. -/
namespace Go.Proofs.YtlamhfbdeinkkaeGreat.Ma
open Go.RowKit Go.Maps Go.WideMaps
set_option linter.unusedSimpArgs false
set_option linter.unusedVariables false

end Go.Proofs.YtlamhfbdeinkkaeGreat.Ma
/- The walk of the reference's DoLack, of left ones that lack. -/
namespace Go.Proofs.YtlamhfbdeinkkaeGreat.Ma
open Go.RowKit Go.Maps Go.WideMaps
set_option linter.unusedSimpArgs false
set_option linter.unusedVariables false

end Go.Proofs.YtlamhfbdeinkkaeGreat.Ma
/- Walks of pairs, matchBegun; of the laws MatchEither and MatchAlone. -/
namespace Go.Proofs.YtlamhfbdeinkkaeGreat.Ma
open Go.RowKit Go.Maps Go.WideMaps
set_option linter.unusedSimpArgs false
set_option linter.unusedVariables false

def P.pairs : List Edge := [(0, 1), (1, 1), (2, 0), (2, 1)]
end Go.Proofs.YtlamhfbdeinkkaeGreat.Ma
/- The walk of the reference's grow: the same search, over lists. -/
namespace Go.Proofs.YtlamhfbdeinkkaeGreat.Ma
open Go.RowKit Go.Maps Go.WideMaps
set_option linter.unusedSimpArgs false
set_option linter.unusedVariables false

/-- A matching in memory, as the reference has it: G who has each right one (C cells, those behind R are h's), M who was met. -/
structure GSt (w : World) (G M C : Nat) (h : Nat → Value) (R : Nat) (s : Nat → Int) (A : List Int) : Prop where
  owner : w.rowIs G 3 C (fun r => if r < R then .int .i64 (s r) else h r)
  met : w.rowIs M 4 R (fun r => .bool (P.hasInt A r))
  gm : G ≠ M
theorem GSt.cellAt {w : World} {G M C : Nat} {h : Nat → Value} {R : Nat} {s : Nat → Int} {A : List Int} (k : GSt w G M C h R s A) (hC : R ≤ C) {r : Nat} (hr : r < R) : w.cell? ⟨G, r, none⟩ = some (.int .i64 (s r)) := by
  rw [k.owner.cell (by omega), if_pos hr]

end Go.Proofs.YtlamhfbdeinkkaeGreat.Ma
/- The walk of the reference's Size; of the law MatchTells. -/
namespace Go.Proofs.YtlamhfbdeinkkaeGreat.Ma
open Go.RowKit Go.Maps Go.WideMaps
set_option linter.unusedSimpArgs false
set_option linter.unusedVariables false

/-- As many numbers -1, in a list of the call's own: its row. -/
theorem own_row {w : World} {base k : Nat} {v : Value} (h : OwnI w base v (List.replicate k (-1))) (hk : 0 < k) : ∃ g C, ∃ h : Nat → Value, v = .slice (some ⟨g, 0, none⟩) k C ∧ base ≤ g ∧ k ≤ C ∧ C ≤ maxLen ∧ w.rowIs g 3 C (fun r => if r < k then .int .i64 (-1) else h r) := by
  rcases h.2 with ⟨_, h0⟩ | ⟨g, C, cur, hv, hb, hg, hn, hm, hs, ht⟩
  · simp at h0
    omega
  · simp only [List.length_replicate] at hv hn ht
    refine ⟨g, C, fun r => cur[r]?.getD undef, hv, hb, hn, hm, cur, hg, by simpa using hs, fun i hi => ?_⟩
    by_cases e : i < k
    · have h2 : (cur.toList.take (k * 1))[i]? = ((List.replicate k (-1 : Int)).map (Value.int .i64))[i]? := by rw [ht]
      rw [List.getElem?_take, if_pos (by omega), Array.getElem?_toList] at h2
      rw [h2]
      simp [e]
    · have hi' : i < cur.size := by simp at hs; omega
      simp [e, hi']

set_option maxHeartbeats 1000000 in
/-- Of a graph without edges nobody is matched. -/
theorem grow_nil (hv mv : Value) (ao : Option Addr) (cap : Nat) (x : Int) (w : World) :
    Calls Tryz.prog 186 #[.slice ao 0 cap, hv, mv, .int .i64 x] w fun e w' => e = .returned (.bool false) ∧ w' = w := by
  go_enter Tryz.func186, Tryz.ntmps186
  go_wp2
  go_loopg [9] 0 (fun g iv wr => iv = .int .i64 0 ∧ wr = w)
  case atStart => exact ⟨rfl, rfl⟩
  case round =>
    obtain ⟨rfl, rfl⟩ := hrel
    go_wp2
    go_ret
    exact ⟨rfl, rfl⟩

end Go.Proofs.YtlamhfbdeinkkaeGreat.Ma
namespace Go.Proofs.YtlamhfbdeinkkaeGreat.St
open Go.RowKit Bk
set_option linter.unusedSimpArgs false
set_option linter.unusedVariables false
set_option maxRecDepth 10000

theorem gr_of {n m : Int} {l seen : List (Int × Int)} (h : ∀ x ∈ l, 0 ≤ x.1 ∧ x.1 < n ∧ 0 ≤ x.2 ∧ x.2 < m) (hd : l.Nodup) (hs : ∀ x ∈ l, ¬ x ∈ seen) : Ma.P.gr n m seen l = 0 := by
  induction l generalizing seen with
  | nil => rfl
  | cons y l ih =>
    rw [Ma.P.gr, if_pos (Ma.inE_iff.2 (h y (by simp))), if_neg (fun e => hs y (by simp) ((Ma.hasEdge_iff _ _).1 e))]
    refine ih (fun x hx => h x (by simp [hx])) (List.nodup_cons.1 hd).2 (fun x hx hm => ?_)
    rcases List.mem_append.1 hm with h1 | h1
    · exact hs x (by simp [hx]) h1
    · simp at h1
      subst h1
      exact (List.nodup_cons.1 hd).1 hx
theorem graph_of {n m : Int} {l : List (Int × Int)} (h1 : 0 ≤ n ∧ n ≤ 16) (h2 : 0 ≤ m ∧ m ≤ 16) (h : ∀ x ∈ l, 0 ≤ x.1 ∧ x.1 < n ∧ 0 ≤ x.2 ∧ x.2 < m) (hd : l.Nodup) : Ma.P.graphE n m l = 0 := by
  rw [Ma.P.graphE, if_pos (by simp [P.btw]; omega)]
  exact gr_of h hd (by simp)
theorem edgs_mem {s : Vsl} {l : List Bkg} {i : Nat} {b : Bkg} {n : Nat} {x : Int × Int} (h : x ∈ P.edgs s l i b n) : x.1 = i ∧ 0 ≤ x.2 ∧ x.2 < n := by
  obtain ⟨c, hc, rfl⟩ := List.mem_map.1 h
  have := List.mem_range.1 (List.mem_filter.1 hc).1
  exact ⟨rfl, by simp, by simpa using this⟩
theorem edgs_nodup (s : Vsl) (l : List Bkg) (i : Nat) (b : Bkg) (n : Nat) : (P.edgs s l i b n).Nodup := by
  induction n with
  | zero => simp [P.edgs]
  | succ n ih =>
    rw [edgs_on]
    refine List.nodup_append.2 ⟨ih, by split <;> simp, fun x hx y hy e => ?_⟩
    subst e
    have h1 := edgs_mem hx
    split at hy
    · simp at hy
      rw [hy] at h1
      simp at h1
    · simp at hy
theorem pedg_mem {s : Vsl} {l m : List Bkg} {i : Nat} {x : Int × Int} (h : x ∈ P.pedg s l i m) : (i : Int) ≤ x.1 ∧ x.1 < i + (m.filter P.opn).length ∧ 0 ≤ x.2 ∧ x.2 < s.bs.length := by
  induction m generalizing i with
  | nil => simp [P.pedg] at h
  | cons b t ih =>
    rw [P.pedg] at h
    rw [List.filter_cons]
    split at h
    · rename_i ho
      rw [if_pos ho, List.length_cons]
      rcases List.mem_append.1 h with h1 | h1
      · have := edgs_mem h1
        omega
      · have := ih h1
        omega
    · rename_i ho
      rw [if_neg ho]
      exact ih h
theorem pedg_nodup (s : Vsl) (l m : List Bkg) (i : Nat) : (P.pedg s l i m).Nodup := by
  induction m generalizing i with
  | nil => simp [P.pedg]
  | cons b t ih =>
    rw [P.pedg]
    split
    · refine List.nodup_append.2 ⟨edgs_nodup .., ih _, fun x hx y hy e => ?_⟩
      subst e
      have h1 := edgs_mem hx
      have h2 := pedg_mem hy
      omega
    · exact ih _
theorem pedg_graph {s : Vsl} {l : List Bkg} (h16 : l.length ≤ 16) (h12 : s.bs.length ≤ 12) : Ma.P.graphE ((P.pids l).length : Nat) (s.bs.length : Nat) (P.pedg s l 0 l) = 0 := by
  have hl : (P.pids l).length ≤ 16 := by
    rw [pids_len]
    have := List.length_filter_le P.opn l
    omega
  refine graph_of (by omega) (by omega) (fun x hx => ?_) (pedg_nodup ..)
  have := pedg_mem hx
  rw [pids_len]
  omega

/-- H1: of bookings that are right, together. -/
def P.twice (x : Sail) : Bool := (List.range x.s.bs.length).any fun c => !P.addsB x.s.legs (P.mine (c : Nat) x.bks)
def P.many (x : Sail) : Bool := decide (x.s.souls < P.mst 0 (P.soulsL x.s.legs.toNat x.bks))
def P.Room (x : Sail) (r : Int) : Prop :=
  (P.twice x = true ∧ r = 6) ∨ (P.twice x = false ∧ P.many x = true ∧ r = 8) ∨
  (P.twice x = false ∧ P.many x = false ∧ ∃ c, Ma.MaxM (P.pedg x.s x.bks 0 x.bks) c ∧ r = if c < (P.pids x.bks).length then 9 else 0)
theorem Room.one {x : Sail} {r r' : Int} (h : P.Room x r) (h' : P.Room x r') : r = r' := by
  rcases h with ⟨a, rfl⟩ | ⟨a, b, rfl⟩ | ⟨a, b, c, hc, rfl⟩ <;> rcases h' with ⟨a', rfl⟩ | ⟨a', b', rfl⟩ | ⟨a', b', c', hc', rfl⟩ <;> simp_all
  rw [Ma.MaxM.one hc hc']
theorem twice_hit {x : Sail} {c : Nat} (hc : c < x.s.bs.length) (h : P.addsB x.s.legs (P.mine c x.bks) = false) : P.twice x = true := by
  rw [P.twice, List.any_eq_true]
  exact ⟨c, List.mem_range.2 hc, by simp [h]⟩
theorem twice_none {x : Sail} (h : ∀ c, c < x.s.bs.length → P.addsB x.s.legs (P.mine (c : Nat) x.bks) = true) : P.twice x = false := by
  rw [P.twice, List.any_eq_false]
  intro c hc
  have := h c (List.mem_range.1 hc)
  simp at this
  simp [this]

end Go.Proofs.YtlamhfbdeinkkaeGreat.St
