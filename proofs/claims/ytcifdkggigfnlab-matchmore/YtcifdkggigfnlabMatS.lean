/- Appends of edges inside a statement; plain facts on edges turned round and on one edge more. -/
import Derived.Test.YtcifdkggigfnlabMatO
import Derived.Deep.AppendSrc
import Derived.Deep.Upon
import Derived.Deep.AppendLies
import Derived.Deep.RegionHeld3
import Derived.OneCell
namespace Go.Proofs.Ytcifdkggigfnlab
open Go.RowKit Go.Maps Go.WideMaps
set_option linter.unusedSimpArgs false
set_option linter.unusedVariables false
set_option linter.unnecessarySimpa false

theorem run_append_fresh (u : World) {t e : TypeId} {i : TypeInfo} {z : Value} {size bytes : Nat} (ty : TypeId) (ht : Try.prog.underlying t = some (.slice e)) (hi : Try.prog.info? e = some i) (hz : i.zero = some z) (hsize : i.size = size) (hby : i.bytes = bytes)
    (hzs : z.cells.size = size) (hsz : 0 < size) (hold : ∀ b0 : Option Addr, (Builtin.firstCells i.size 0 (.slice b0 0 0)).run Try.prog u.drew = .ok ([] : List Value).toArray u.drew) (b0 : Option Addr) (ad : Addr) (m c : Nat) (news : List Value) (hl : news.length = m * size) (hnews : ∀ j x, news[j]? = some x → u.cell? (ad.add j) = some x) (h1 : ∀ x ∈ news, x.oneCell' = true)
    (hm : 0 < m) (hmm : m ≤ 1000) (hbb : bytes ≤ 1000) :
    ∃ cap u', (Builtin.append_ #[t, t] ty #[.slice b0 0 0, .slice (some ad) m c]).run Try.prog u = .ok (.slice (some ⟨u.heap.size, 0, none⟩) m cap) u' ∧
      u'.ownsRow u.heap.size e size (.slice (some ⟨u.heap.size, 0, none⟩) m cap) m news ∧ Below u.heap.size u u' := by
  have hmb : m * bytes ≤ 1000000 := Nat.le_trans (Nat.mul_le_mul hmm hbb) (by omega)
  obtain ⟨v', u', hr, hown, hg, _, hblk⟩ := run_append_own_at (P := Try.prog) u u.heap.size t ty e i z size bytes ht hi hz hsize hby hzs hsz (.slice none 0 0) 0 [] (World.ownsRow_nil ..) ad m c news hl hnews h1 (by simp only [maxLen]; omega) (by rw [Nat.zero_add]; omega) (Nat.le_refl _)
  have src : Src Try.prog i.size t (.slice (some ad) m c) m news u := Src.ofSlice u ht ad m c news (by rw [hl, hsize]) hnews h1
  have key : ∀ b1 : Option Addr, _ := fun b1 => run_append_grow_src (P := Try.prog) u t t ty e i z ht hi hz b1 0 0 [] (hold b1) (.slice (some ad) m c) m news src (by omega) (by omega) (by rw [Nat.zero_add, nextslicecap_zero hm, hby]; omega)
  have h3 := (key b0).trans ((key none).symm.trans hr)
  obtain ⟨g, cap, rfl, hgb, hlt⟩ := hown.form (by omega)
  have hge : g = u.heap.size := by rcases hblk with h | h <;> simpa [Value.ownBlock] using h
  subst hge
  refine ⟨cap, u', ?_, ?_, ?_⟩
  · simpa using h3
  · simpa using hown
  · exact (Below.refl _ u).grown hg (Nat.le_refl _) (fun k hk => by cases hk)

theorem first0 (w : World) (size : Nat) (b0 : Option Addr) : (Builtin.firstCells size 0 (.slice b0 0 0)).run Try.prog w = .ok ([] : List Value).toArray w := by
  cases b0 with
  | none => exact run_firstCells_none w size 0 0 0
  | some a => exact run_firstCells_some w size 0 a 0 0 [] (by simp) (by simp)

theorem EdgesAt.news {w : World} {ao : Option Addr} {cap : Nat} {l : List Edge} (h : EdgesAt w ao cap l) (h0 : 0 < l.length) : ∃ b off, ao = some ⟨b, off, none⟩ ∧ ∀ j x, (cellsE l)[j]? = some x → w.cell? ((⟨b, off, none⟩ : Addr).add j) = some x := by
  obtain ⟨b, off, rfl, _, hc⟩ := h.cells h0
  refine ⟨b, off, rfl, fun j x hx => ?_⟩
  have hj : j < l.length * 2 := by
    have := (List.getElem?_eq_some_iff.1 hx).1
    rwa [cellsE_length] at this
  obtain ⟨c0, c1⟩ := cellsE_get l (j / 2) (by omega)
  obtain ⟨cs, h1, _, h3⟩ := hc (j / 2) (by omega)
  subst h1
  rw [Go.WideShapes.add_plain]
  rcases Nat.mod_two_eq_zero_or_one j with hm | hm
  · have e : j / 2 * 2 = j := by omega
    rw [e] at c0
    rw [c0] at hx
    have := h3 0 _ rfl
    rw [show off + j / 2 * 2 + 0 = off + j by omega] at this
    rw [this, ← hx]
  · have e : j / 2 * 2 + 1 = j := by omega
    rw [e] at c1
    rw [c1] at hx
    have := h3 1 _ rfl
    rw [show off + j / 2 * 2 + 1 = off + j by omega] at this
    rw [this, ← hx]
theorem cellsE_one (l : List Edge) : ∀ u ∈ cellsE l, u.oneCell' = true := by
  intro u hu
  simp [cellsE] at hu
  obtain ⟨a, b, _, rfl | rfl⟩ := hu <;> rfl

/-- 'append([]Edge{}, x...)'. -/
theorem wpE_app1 {o : Oper} {a : Act} {K : Act → World → Prop} {Q : Exit → Act → World → Prop} {u W0 : World} (s x : Operand) (ho : o.op = .call { callee := .builtin .append, args := #[s, x], argTypes := #[42, 42] }) (B : Nat) (hao : Option Addr) (hcap : Nat) (l : List Edge)
    (hv : a.eval s = .slice (some ⟨B, 0, none⟩) 0 0) (hbase : W0.heap.size ≤ B) (hB : u.heap[B]? = some (.cells #[] 52 (0, 0))) (hx : a.eval x = .slice hao l.length hcap) (hin : EdgesAt u hao hcap l) (hl : l.length ≤ 1000) (hB0 : Below W0.heap.size W0 u)
    (h : ∀ ao cap u', OwnE u' W0.heap.size (.slice ao l.length cap) l → Below u.heap.size u u' → Below W0.heap.size W0 u' → K (a.put o.dst (.slice ao l.length cap)) u') : o.wp Try.prog a u K Q := by
  obtain ⟨i0, hi, hi0, hi1, hi2⟩ := info_parts Try.infoEdge
  have go : ∀ ao cap u', (Builtin.append_ #[42, 42] o.type #[.slice (some ⟨B, 0, none⟩) 0 0, .slice hao l.length hcap]).run Try.prog u = .ok (.slice ao l.length cap) u' → OwnE u' W0.heap.size (.slice ao l.length cap) l → Below u.heap.size u u' → o.wp Try.prog a u K Q := by
    intro ao cap u' hr h1 h2
    unfold Oper.wp execOp
    simp only [ho, resolve, invoke, builtin, Sem.run_bind, Sem.run_pure, Result.andThen_ok, List.map_toArray, List.map_cons, List.map_nil, hv, hx, hr]
    exact h ao cap u' h1 h2 (bvia hB0 h2)
  rcases Nat.eq_zero_or_pos l.length with h0 | h0
  · have hl0 : l = [] := by simpa using h0
    subst hl0
    have src : Src Try.prog i0.size 42 (.slice hao 0 hcap) 0 [] u := by
      cases hao with
      | none => exact Src.ofNil u Try.underlying42 hcap
      | some ad => exact Src.ofSlice u Try.underlying42 ad 0 hcap [] (by simp) (by simp) (by simp)
    refine go (some ⟨B, 0, none⟩) 0 u (run_append_nothing u 42 42 o.type 52 i0 Try.underlying42 hi _ 0 0 (Nat.le_refl _) _ src) ?_ (Below.refl _ _)
    exact ⟨by simp [cellsE], .inr ⟨B, 0, #[], rfl, hbase, hB, by simp, by simp [maxLen], by simp, by simp [cellsE]⟩⟩
  · obtain ⟨b, off, rfl, hn⟩ := EdgesAt.news hin h0
    obtain ⟨cap, u', hr, hown, hb⟩ := run_append_fresh u o.type Try.underlying42 hi hi0 hi1 hi2 rfl (by decide) (fun b0 => first0 _ _ b0) (some ⟨B, 0, none⟩) ⟨b, off, none⟩ l.length hcap (cellsE l) (by rw [cellsE_length]) hn (cellsE_one l) h0 hl (by omega)
    refine go _ cap u' hr ?_ hb
    refine ⟨hown.1, ?_⟩
    rcases hown.2 with ⟨h1, _⟩ | ⟨g, cap', cur, h1, h2, r⟩
    · cases h1
    · exact .inr ⟨g, cap', cur, h1, Nat.le_trans hB0.size h2, r⟩

/-- 'append(v, x)'. -/
theorem wpE_app2 {o : Oper} {a : Act} {K : Act → World → Prop} {Q : Exit → Act → World → Prop} {u : World} {base : Nat} (s x : Operand) (ho : o.op = .call { callee := .builtin .append, args := #[s, x], argTypes := #[42, 42] }) (v : Value) (B : Nat) (l : List Edge) (p q : Int)
    (hv : a.eval s = v) (hown : OwnE u base v l) (hx : a.eval x = .slice (some ⟨B, 0, none⟩) 1 1) (hB : u.cell? ⟨B, 0, none⟩ = some (.int .i64 p)) (hB1 : u.cell? ⟨B, 1, none⟩ = some (.int .i64 q)) (hl : l.length ≤ 1000) (hbase : base ≤ u.heap.size)
    (h : ∀ g cap u', OwnE u' base (.slice (some ⟨g, 0, none⟩) (l ++ [(p, q)]).length cap) (l ++ [(p, q)]) → u.grownBy u' v.ownBlock → K (a.put o.dst (.slice (some ⟨g, 0, none⟩) (l ++ [(p, q)]).length cap)) u') : o.wp Try.prog a u K Q := by
  obtain ⟨i0, hi, hi0, hi1, hi2⟩ := info_parts Try.infoEdge
  refine wp_append_lies u s x 42 ho base 52 i0 _ 2 16 Try.underlying42 hi hi0 hi1 hi2 rfl (by decide) v l.length (cellsE l) hv hown ⟨B, 0, none⟩ 1 1 [.int .i64 p, .int .i64 q] hx rfl (fun j y hy => ?_) (by simp; exact ⟨rfl, rfl⟩) (by omega) (by simp only [maxLen]; omega) (by omega) hbase _ rfl ?_
  · match j, hy with
    | 0, hy => simp at hy; subst hy; simpa [Addr.add] using hB
    | 1, hy => simp at hy; subst hy; simpa [Addr.add] using hB1
  · intro g cap u' h1 h2 _ _
    have h6 : OwnE u' base (.slice (some ⟨g, 0, none⟩) (l ++ [(p, q)]).length cap) (l ++ [(p, q)]) := by simpa [OwnE, cellsE_append, cellsE] using h1
    have := h g cap u' h6 h2
    simpa using this

section
variable {ops : Array Oper} {o : Oper} {a : Act} {K : Act → World → Prop} {Q : Exit → Act → World → Prop} {E : Prop}
theorem step_of (hgd : o.guard = none) {P : Program} {u : World} (h : o.wp P a u K Q) : if Region.wanted o (yielded ops a.tmps) = true then Oper.wp P o a u K Q else E := by
  have hw : Region.wanted o (yielded ops a.tmps) = true := by simp [Region.wanted, hgd]
  rw [if_pos hw]
  exact h
end

/-- Edges that are different, of at most 16 on each side, are not many. -/
theorem few_edges {l : List Edge} (hE : ∀ x ∈ l, 0 ≤ x.1 ∧ x.1 < 16 ∧ 0 ≤ x.2 ∧ x.2 < 16) (hd : l.Nodup) : l.length ≤ 256 := by
  have hnd : (l.map (fun z => z.1 * 16 + z.2)).Nodup := by
    rw [List.nodup_iff_pairwise_ne, List.pairwise_map]
    refine List.Pairwise.imp_of_mem ?_ hd
    intro a b ha hb hne e
    have h1 := hE a ha
    have h2 := hE b hb
    exact hne (Prod.ext (by omega) (by omega))
  have := pigeon 256 _ hnd (fun x hx => by
    obtain ⟨z, hz, rfl⟩ := List.mem_map.1 hx
    have := hE z hz
    omega)
  simpa using this

def P.turn (l : List Edge) : List Edge := l.map (fun z => (z.2, z.1))
theorem turn_turn (l : List Edge) : P.turn (P.turn l) = l := by
  unfold P.turn
  rw [List.map_map]
  exact (List.map_congr_left (fun _ _ => rfl)).trans (List.map_id l)
theorem isM_turn {l m : List Edge} (h : IsM l m) : IsM (P.turn l) (P.turn m) := by
  refine ⟨fun x hx => ?_, ?_⟩
  · obtain ⟨z, hz, rfl⟩ := List.mem_map.1 hx
    exact List.mem_map.2 ⟨z, h.1 z hz, rfl⟩
  · unfold P.turn
    rw [List.pairwise_map]
    exact h.2.imp (fun h => ⟨h.2, h.1⟩)
theorem max_turn {l : List Edge} {n : Nat} (h : MaxM l n) : MaxM (P.turn l) n := by
  obtain ⟨⟨m, h1, h2⟩, h3⟩ := h
  refine ⟨⟨P.turn m, isM_turn h1, by simpa [P.turn] using h2⟩, fun m' hm' => ?_⟩
  have := h3 (P.turn m') (by have := isM_turn hm'; rwa [turn_turn] at this)
  simpa [P.turn] using this
theorem turn_nodup {l : List Edge} (h : l.Nodup) : (P.turn l).Nodup := by
  unfold P.turn
  rw [List.nodup_iff_pairwise_ne, List.pairwise_map]
  refine h.imp (fun hne e => hne ?_)
  simp only [Prod.mk.injEq] at e
  exact Prod.ext e.2 e.1
/-- An edge more matches at most one more, never fewer. -/
theorem max_more {l : List Edge} {x : Edge} {n k : Nat} (h : MaxM l n) (h' : MaxM (l ++ [x]) k) : k = n ∨ k = n + 1 := by
  obtain ⟨⟨m, h1, h2⟩, h3⟩ := h
  obtain ⟨⟨m', h1', h2'⟩, h3'⟩ := h'
  have a1 := h3' m ⟨fun z hz => by simp [h1.1 z hz], h1.2⟩
  have hf : IsM l (m'.filter (fun z => decide (z ≠ x))) := by
    refine ⟨fun z hz => ?_, h1'.2.filter _⟩
    obtain ⟨b1, b2⟩ := List.mem_filter.1 hz
    have := h1'.1 z b1
    simp at b2
    rcases List.mem_append.1 this with c | c
    · exact c
    · simp at c; exact absurd c b2
  have a2 := h3 _ hf
  have hone : ∀ (q : List Edge), q.Pairwise (fun a b => a.1 ≠ b.1 ∧ a.2 ≠ b.2) → q.length ≤ (q.filter (fun z => decide (z ≠ x))).length + 1 := by
    intro q
    induction q with
    | nil => intro _; simp
    | cons z q ih =>
      intro hp
      obtain ⟨p1, p2⟩ := List.pairwise_cons.1 hp
      by_cases e : z = x
      · have hall : q.filter (fun z => decide (z ≠ x)) = q := by
          rw [List.filter_eq_self]
          intro y hy
          have := (p1 y hy).1
          simp
          intro e2
          rw [e, e2] at this
          exact this rfl
        rw [List.filter_cons_of_neg (by simp [e]), hall]
        simp
      · rw [List.filter_cons_of_pos (by simp [e])]
        have := ih p2
        simp only [List.length_cons]
        omega
  have a3 := hone m' h1'.2
  omega

end Go.Proofs.Ytcifdkggigfnlab
