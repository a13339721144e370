import Derived.Test.YtlamhfbdeinkkaeGreatBaAo
import Derived.Deep.AppendSrc
import Derived.Deep.Upon
import Derived.Deep.AppendLies
import Derived.Deep.RegionHeld3
import Derived.Test.YtlamhfbdeinkkaeGreatBoDo
set_option maxRecDepth 10000
/- Appends inside a statement whose order is open, of whatever elements. -/
namespace Go.Proofs.YtlamhfbdeinkkaeGreat
open Go.RowKit
set_option linter.unusedSimpArgs false
set_option linter.unusedVariables false
set_option linter.unnecessarySimpa false

theorem run_append_fresh' (u : World) {t e : TypeId} {i : TypeInfo} {z : Value} {size bytes : Nat} (ty : TypeId) (ht : Tryz.prog.underlying t = some (.slice e)) (hi : Tryz.prog.info? e = some i) (hz : i.zero = some z) (hsize : i.size = size) (hby : i.bytes = bytes)
    (hzs : z.cells.size = size) (hsz : 0 < size) (hold : ∀ b0 : Option Addr, (Builtin.firstCells i.size 0 (.slice b0 0 0)).run Tryz.prog u.drew = .ok ([] : List Value).toArray u.drew) (b0 : Option Addr) (ad : Addr) (m c : Nat) (news : List Value) (hl : news.length = m * size) (hnews : ∀ j x, news[j]? = some x → u.cell? (ad.add j) = some x) (h1 : ∀ x ∈ news, x.oneCell' = true)
    (hm : 0 < m) (hmm : m ≤ 1000) (hbb : bytes ≤ 1000) :
    ∃ cap u', (Builtin.append_ #[t, t] ty #[.slice b0 0 0, .slice (some ad) m c]).run Tryz.prog u = .ok (.slice (some ⟨u.heap.size, 0, none⟩) m cap) u' ∧
      u'.ownsRow u.heap.size e size (.slice (some ⟨u.heap.size, 0, none⟩) m cap) m news ∧ Below u.heap.size u u' := by
  have hmb : m * bytes ≤ 1000000 := Nat.le_trans (Nat.mul_le_mul hmm hbb) (by omega)
  obtain ⟨v', u', hr, hown, hg, _, hblk⟩ := run_append_own_at (P := Tryz.prog) u u.heap.size t ty e i z size bytes ht hi hz hsize hby hzs hsz (.slice none 0 0) 0 [] (World.ownsRow_nil ..) ad m c news hl hnews h1 (by simp only [maxLen]; omega) (by rw [Nat.zero_add]; omega) (Nat.le_refl _)
  have src : Src Tryz.prog i.size t (.slice (some ad) m c) m news u := Src.ofSlice u ht ad m c news (by rw [hl, hsize]) hnews h1
  have key : ∀ b1 : Option Addr, _ := fun b1 => run_append_grow_src (P := Tryz.prog) u t t ty e i z ht hi hz b1 0 0 [] (hold b1) (.slice (some ad) m c) m news src (by omega) (by omega) (by rw [Nat.zero_add, nextslicecap_zero hm, hby]; omega)
  have h3 := (key b0).trans ((key none).symm.trans hr)
  obtain ⟨g, cap, rfl, hgb, hlt⟩ := hown.form (by omega)
  have hge : g = u.heap.size := by rcases hblk with h | h <;> simpa [Value.ownBlock] using h
  subst hge
  refine ⟨cap, u', ?_, ?_, ?_⟩
  · simpa using h3
  · simpa using hown
  · exact (Below.refl _ u).grown hg (Nat.le_refl _) (fun k hk => by cases hk)

theorem first0' (w : World) (size : Nat) (b0 : Option Addr) : (Builtin.firstCells size 0 (.slice b0 0 0)).run Tryz.prog w = .ok ([] : List Value).toArray w := by
  cases b0 with
  | none => exact run_firstCells_none w size 0 0 0
  | some a => exact run_firstCells_some w size 0 a 0 0 [] (by simp) (by simp)

section
variable {α : Type} {cells : α → List Value} {size : Nat} {e : TypeId}

/-- 'append([]T{}, x...)', x of at most 1000: nothing that was there is other. -/
theorem wpC_app1 {t : TypeId} {z : Value} {bytes : Nat} (hinfo : (Tryz.prog.info? e).map (fun i => (i.zero, i.size, i.bytes)) = some (some z, size, bytes)) (hu : Tryz.prog.underlying t = some (.slice e)) (hzs : z.cells.size = size) (hs0 : 0 < size) (hc : ∀ x, (cells x).length = size) (h1c : ∀ x, ∀ u ∈ cells x, u.oneCell' = true) (hby : bytes ≤ 1000)
    {o : Oper} {a : Act} {K : Act → World → Prop} {Q : Exit → Act → World → Prop} {u W0 : World} (s x : Operand) (ho : o.op = .call { callee := .builtin .append, args := #[s, x], argTypes := #[t, t] }) (B : Nat) (hao : Option Addr) (hcap : Nat) (l : List α)
    (hv : a.eval s = .slice (some ⟨B, 0, none⟩) 0 0) (hbase : W0.heap.size ≤ B) (hB : u.heap[B]? = some (.cells #[] e (0, 0))) (hx : a.eval x = .slice hao l.length hcap) (hin : SlAt (RC cells) size u hao hcap l) (hl : l.length ≤ 1000) (hB0 : Below W0.heap.size W0 u)
    (h : ∀ ao cap u', OwnC cells size e u' W0.heap.size (.slice ao l.length cap) l → Below u.heap.size u u' → Below W0.heap.size W0 u' → K (a.put o.dst (.slice ao l.length cap)) u') : o.wp Tryz.prog a u K Q := by
  obtain ⟨i0, hi, hi0, hi1, hi2⟩ := info_parts hinfo
  have go : ∀ ao cap u', (Builtin.append_ #[t, t] o.type #[.slice (some ⟨B, 0, none⟩) 0 0, .slice hao l.length hcap]).run Tryz.prog u = .ok (.slice ao l.length cap) u' → OwnC cells size e u' W0.heap.size (.slice ao l.length cap) l → Below u.heap.size u u' → o.wp Tryz.prog a u K Q := by
    intro ao cap u' hr h1 h2
    unfold Oper.wp execOp
    simp only [ho, resolve, invoke, builtin, Sem.run_bind, Sem.run_pure, Result.andThen_ok, List.map_toArray, List.map_cons, List.map_nil, hv, hx, hr]
    exact h ao cap u' h1 h2 (bvia hB0 h2)
  rcases Nat.eq_zero_or_pos l.length with h0 | h0
  · obtain rfl : l = [] := List.eq_nil_of_length_eq_zero h0
    have src : Src Tryz.prog i0.size t (.slice hao 0 hcap) 0 [] u := by
      cases hao with
      | none => exact Src.ofNil u hu hcap
      | some ad => exact Src.ofSlice u hu ad 0 hcap [] (by simp) (by simp) (by simp)
    refine go (some ⟨B, 0, none⟩) 0 u (run_append_nothing u t t o.type e i0 hu hi _ 0 0 (Nat.le_refl _) _ src) ?_ (Below.refl _ _)
    exact ⟨by simp, .inr ⟨B, 0, #[], rfl, hbase, hB, by simp, by simp [maxLen], by simp, by simp⟩⟩
  · obtain ⟨b, off, rfl, hn⟩ := SlAt.news hc hin h0 hs0
    obtain ⟨cap, u', hr, hown, hb⟩ := run_append_fresh' u o.type hu hi hi0 hi1 hi2 hzs hs0 (fun b0 => first0' _ _ b0) (some ⟨B, 0, none⟩) ⟨b, off, none⟩ l.length hcap (l.flatMap cells) (flatC_len hc _) hn (fun u hu => by
      obtain ⟨y, _, hy⟩ := List.mem_flatMap.1 hu
      exact h1c y u hy) h0 hl hby
    refine go _ cap u' hr ?_ hb
    refine ⟨hown.1, ?_⟩
    rcases hown.2 with ⟨h1, _⟩ | ⟨g, cap', cur, h1, h2, r⟩
    · cases h1
    · exact .inr ⟨g, cap', cur, h1, Nat.le_trans hB0.size h2, r⟩

/-- 'append(v, y)': L is what comes. -/
theorem wpC_app3 {t : TypeId} {z : Value} {bytes : Nat} (hinfo : (Tryz.prog.info? e).map (fun i => (i.zero, i.size, i.bytes)) = some (some z, size, bytes)) (hu : Tryz.prog.underlying t = some (.slice e)) (hzs : z.cells.size = size) (hs0 : 0 < size) (hc : ∀ x, (cells x).length = size) (h1c : ∀ x, ∀ u ∈ cells x, u.oneCell' = true) (hby : bytes ≤ 1000)
    {o : Oper} {a : Act} {K : Act → World → Prop} {Q : Exit → Act → World → Prop} {u : World} {base : Nat} (s x : Operand) (ho : o.op = .call { callee := .builtin .append, args := #[s, x], argTypes := #[t, t] }) (v : Value) (B : Nat) (l L : List α) (y : α) (hL : l ++ [y] = L)
    (hv : a.eval s = v) (hown : OwnC cells size e u base v l) (hx : a.eval x = .slice (some ⟨B, 0, none⟩) 1 1) (hy : ∀ j c, (cells y)[j]? = some c → u.cell? ⟨B, j, none⟩ = some c) (hl : l.length ≤ 1000) (hbase : base ≤ u.heap.size)
    (h : ∀ g cap u', OwnC cells size e u' base (.slice (some ⟨g, 0, none⟩) L.length cap) L → u.grownBy u' v.ownBlock → K (a.put o.dst (.slice (some ⟨g, 0, none⟩) L.length cap)) u') : o.wp Tryz.prog a u K Q := by
  subst hL
  obtain ⟨i0, hi, hi0, hi1, hi2⟩ := info_parts hinfo
  have hmb : (l.length + 1) * bytes ≤ 1001 * 1000 := Nat.mul_le_mul (by omega) hby
  refine wp_append_lies u s x t ho base e i0 z size bytes hu hi hi0 hi1 hi2 hzs hs0 v l.length (l.flatMap cells) hv hown ⟨B, 0, none⟩ 1 1 (cells y) hx (by rw [hc]; omega) (fun j c hj => ?_) (h1c y) (by omega) (by simp only [maxLen]; omega) (by omega) hbase _ rfl ?_
  · rw [Go.WideShapes.add_plain, Nat.zero_add]
    exact hy j c hj
  · intro g cap u' h1 h2 _ _
    have h6 : OwnC cells size e u' base (.slice (some ⟨g, 0, none⟩) (l ++ [y]).length cap) (l ++ [y]) := by
      show u'.ownsRow base e size _ (l ++ [y]).length _
      rw [List.flatMap_append, List.length_append]
      simpa using h1
    have := h g cap u' h6 h2
    rw [List.length_append] at this
    simpa using this
end

section
variable {ops : Array Oper} {o : Oper} {a : Act} {K : Act → World → Prop} {Q : Exit → Act → World → Prop} {E : Prop}
theorem step_of' (hgd : o.guard = none) {P : Program} {u : World} (h : o.wp P a u K Q) : if Region.wanted o (yielded ops a.tmps) = true then Oper.wp P o a u K Q else E := by
  have hw : Region.wanted o (yielded ops a.tmps) = true := by simp [Region.wanted, hgd]
  rw [if_pos hw]
  exact h
end

end Go.Proofs.YtlamhfbdeinkkaeGreat
namespace Go.Proofs.YtlamhfbdeinkkaeGreat.Bk
open Go.RowKit
set_option linter.unusedSimpArgs false
set_option linter.unusedVariables false

section
variable {α : Type} {cells : α → List Value} {size : Nat} {e : TypeId}
theorem SlAt.part {R : World → α → List Value → Prop} {w : World} {ao : Option Addr} {cap : Nat} {A B : List α} (h : SlAt R size w ao cap (A ++ B)) : SlAt R size w ao cap A := by
  have hle := h.le
  rw [List.length_append] at hle
  refine ⟨by omega, h.max, h.nil, fun h0 => ?_⟩
  obtain ⟨b, off, rfl, hlt, hc⟩ := h.cells (by rw [List.length_append]; omega)
  refine ⟨b, off, rfl, hlt, fun i hi => ?_⟩
  have := hc i (by rw [List.length_append]; omega)
  rwa [List.getElem_append_left hi] at this
def tailOf (size : Nat) (ao : Option Addr) (cap k : Nat) : Option Addr := if cap = k then ao else ao.map fun x => x.add (k * size)
theorem SlAt.rest {R : World → α → List Value → Prop} {w : World} {ao : Option Addr} {cap : Nat} {A B : List α} (h : SlAt R size w ao cap (A ++ B)) : SlAt R size w (tailOf size ao cap A.length) (cap - A.length) B := by
  have hle := h.le
  have hmx := h.max
  rw [List.length_append] at hle
  refine ⟨by omega, by omega, fun hn => ?_, fun h0 => ?_⟩
  · have : ao = none := by
      unfold tailOf at hn
      split at hn
      · exact hn
      · simpa using hn
    have := h.nil this
    omega
  · obtain ⟨b, off, rfl, hlt, hc⟩ := h.cells (by rw [List.length_append]; omega)
    refine ⟨b, off + A.length * size, by rw [tailOf, if_neg (by omega)]; simp [Addr.add], hlt, fun i hi => ?_⟩
    obtain ⟨cs, h1, h2, h3⟩ := hc (A.length + i) (by rw [List.length_append]; omega)
    rw [List.getElem_append_right (by omega)] at h1
    refine ⟨cs, by simpa using h1, h2, fun j u hj => ?_⟩
    have := h3 j u hj
    rw [Nat.add_mul] at this
    rw [show off + A.length * size + i * size + j = off + (A.length * size + i * size) + j by omega]
    exact this
end

theorem cellsV_len (x : BkV) : (cellsV x).length = 11 := rfl
theorem cellsV_one (x : BkV) : ∀ u ∈ cellsV x, u.oneCell' = true := by
  intro u hu
  simp [cellsV, cellsBk] at hu
  rcases hu with rfl | rfl | rfl | rfl | rfl | rfl | rfl | rfl | rfl | rfl | rfl <;> rfl
theorem Tryz.infoBk : (Tryz.prog.info? 37).map (fun i => (i.zero, i.size, i.bytes)) = some (some (.agg #[.int .i64 0, .int .i64 0, .int .i64 0, .int .i64 0, .bool false, .int .i64 0, .int .i64 0, .int .i64 0, .int .i64 0, .int .i64 0, .slice none 0 0]), 11, 104) := by kernel_rfl
abbrev OwnB (w : World) (base : Nat) (v : Value) (l : List BkV) : Prop := OwnC cellsV 11 37 w base v l

theorem BkVsAt.plain {w : World} {ao : Option Addr} {cap : Nat} {l : List BkV} (h : BkVsAt w ao cap l) : SlAt (RC cellsV) 11 w ao cap l := by
  refine ⟨h.le, h.max, h.nil, fun h0 => ?_⟩
  obtain ⟨b, off, rfl, hlt, hc⟩ := h.cells h0
  refine ⟨b, off, rfl, hlt, fun i hi => ?_⟩
  obtain ⟨cs, h1, h2, h3⟩ := hc i hi
  exact ⟨cs, h1.1, h2, h3⟩
theorem BkVsAt.ents {w : World} {ao : Option Addr} {cap : Nat} {l : List BkV} (h : BkVsAt w ao cap l) : ∀ x ∈ l, Fo.EntsAt w x.2.1 x.2.2 x.1.fol := by
  intro x hx
  obtain ⟨i, hi, rfl⟩ := List.getElem_of_mem hx
  obtain ⟨b, off, _, _, hc⟩ := h.cells (by omega)
  obtain ⟨cs, h1, _⟩ := hc i hi
  exact h1.2
theorem bkvs_of {w : World} {ao : Option Addr} {cap : Nat} {l : List BkV} (h : SlAt (RC cellsV) 11 w ao cap l) (he : ∀ x ∈ l, Fo.EntsAt w x.2.1 x.2.2 x.1.fol) : BkVsAt w ao cap l := by
  refine ⟨h.le, h.max, h.nil, fun h0 => ?_⟩
  obtain ⟨b, off, rfl, hlt, hc⟩ := h.cells h0
  refine ⟨b, off, rfl, hlt, fun i hi => ?_⟩
  obtain ⟨cs, h1, h2, h3⟩ := hc i hi
  exact ⟨cs, ⟨h1, he _ (List.getElem_mem hi)⟩, h2, h3⟩

theorem mine_gone {cabin : Int} {A B : List Bkg} {x : Bkg} (h : P.live x = false) : P.mine cabin (A ++ x :: B) = P.mine cabin (A ++ B) := by
  rw [P.mine, P.mine, List.filter_append, List.filter_append, List.filter_cons, if_neg (by simp [P.hasC, h])]
theorem soul_gone {k : Int} {A B : List Bkg} {x : Bkg} (h : P.live x = false) : P.soul k (A ++ x :: B) = P.soul k (A ++ B) := by
  rw [soul_append, soul_append, P.soul, onLeg_gone h]; omega
end Go.Proofs.YtlamhfbdeinkkaeGreat.Bk
