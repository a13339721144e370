/- Appends onto a slice that is empty; a category that may serve more. -/
import Derived.Test.YtnadhpemmehedaaShipJ
import Derived.Deep.AppendSrc
import Derived.Deep.Upon
import Derived.Deep.AppendLies
import Derived.Deep.RegionHeld3
import Derived.OneCell
namespace Go.Proofs.Ytnadhpemmehedaa
open Go.RowKit Go.Maps Go.WideMaps
set_option linter.unusedSimpArgs false
set_option linter.unusedVariables false
set_option linter.unnecessarySimpa false

theorem run_append_fresh (u : World) {t e : TypeId} {i : TypeInfo} {z : Value} {size bytes : Nat} (ty : TypeId) (ht : Try.prog.underlying t = some (.slice e)) (hi : Try.prog.info? e = some i) (hz : i.zero = some z) (hsize : i.size = size) (hby : i.bytes = bytes)
    (hzs : z.cells.size = size) (hsz : 0 < size) (hold : ∀ b0 : Option Addr, (Builtin.firstCells i.size 0 (.slice b0 0 0)).run Try.prog u.drew = .ok ([] : List Value).toArray u.drew) (b0 : Option Addr) (ad : Addr) (m c : Nat) (news : List Value) (hl : news.length = m * size) (hnews : ∀ j x, news[j]? = some x → u.cell? (ad.add j) = some x) (h1 : ∀ x ∈ news, x.oneCell' = true)
    (hm : 0 < m) (hmm : m ≤ 1000) (hbb : bytes ≤ 1000) :
    ∃ cap u', (Builtin.append_ #[t, t] ty #[.slice b0 0 0, .slice (some ad) m c]).run Try.prog u = .ok (.slice (some ⟨u.heap.size, 0, none⟩) m cap) u' ∧
      u'.ownsRow u.heap.size e size (.slice (some ⟨u.heap.size, 0, none⟩) m cap) m news ∧ Below u.heap.size u u' := by
  have hmb : m * bytes ≤ 1000000 := Nat.le_trans (Nat.mul_le_mul hmm hbb) (by omega)
  obtain ⟨v', u', hr, hown, hg, _, hblk⟩ := run_append_own_at (P := Try.prog) u u.heap.size t ty e i z size bytes ht hi hz hsize hby hzs hsz (.slice none 0 0) 0 [] (World.ownsRow_nil ..) ad m c news hl hnews h1 (by simp only [maxLen]; omega) (by rw [Nat.zero_add]; omega) (Nat.le_refl _)
  have src : Src Try.prog i.size t (.slice (some ad) m c) m news u := Src.ofSlice u ht ad m c news (by rw [hl, hsize]) hnews h1
  have key : ∀ b1 : Option Addr, _ := fun b1 => run_append_grow_src (P := Try.prog) u t t ty e i z ht hi hz b1 0 0 [] (hold b1) (.slice (some ad) m c) m news src (by omega) (by omega) (by rw [Nat.zero_add, nextslicecap_zero hm, hby]; omega)
  have h3 := (key b0).trans ((key none).symm.trans hr)
  obtain ⟨g, cap, rfl, hgb, hlt⟩ := hown.form (by omega)
  have hge : g = u.heap.size := by rcases hblk with h | h <;> simpa [Value.ownBlock] using h
  subst hge
  refine ⟨cap, u', ?_, ?_, ?_⟩
  · simpa using h3
  · simpa using hown
  · exact (Below.refl _ u).grown hg (Nat.le_refl _) (fun k hk => by cases hk)

theorem first0 (w : World) (size : Nat) (b0 : Option Addr) : (Builtin.firstCells size 0 (.slice b0 0 0)).run Try.prog w = .ok ([] : List Value).toArray w := by
  cases b0 with
  | none => exact run_firstCells_none w size 0 0 0
  | some a => exact run_firstCells_some w size 0 a 0 0 [] (by simp) (by simp)

/-- 'append([]T{}, x...)', x not empty. -/
theorem wpList_append_fresh {ops : Array Oper} {rest : List Oper} {o : Oper} {a : Act} {Q : Exit → Act → World → Prop} {u : World} (hgd : o.guard = none) (s x : Operand) (t : TypeId) (ho : o.op = .call { callee := .builtin .append, args := #[s, x], argTypes := #[t, t] }) {e : TypeId} {i : TypeInfo} {z : Value} {size bytes : Nat} (ht : Try.prog.underlying t = some (.slice e)) (hi : Try.prog.info? e = some i) (hz : i.zero = some z) (hsize : i.size = size) (hby : i.bytes = bytes)
    (hzs : z.cells.size = size) (hsz : 0 < size) (b0 : Option Addr) (ad : Addr) (m c : Nat) (news : List Value) (hv : a.eval s = .slice b0 0 0) (hx : a.eval x = .slice (some ad) m c) (hl : news.length = m * size) (hnews : ∀ j x, news[j]? = some x → u.cell? (ad.add j) = some x) (h1 : ∀ x ∈ news, x.oneCell' = true)
    (hm : 0 < m) (hmm : m ≤ 1000) (hbb : bytes ≤ 1000) (H : Nat) (hH : u.heap.size = H)
    (h : ∀ cap u', u'.ownsRow H e size (.slice (some ⟨H, 0, none⟩) m cap) m news → Below H u u' → wpList Try.prog ops Q rest (a.put o.dst (.slice (some ⟨H, 0, none⟩) m cap)) u') : wpList Try.prog ops Q (o :: rest) a u := by
  subst hH
  refine wpList_plain hgd fun K hK => ?_
  obtain ⟨cap, u', hr, hown, hb⟩ := run_append_fresh u o.type ht hi hz hsize hby hzs hsz (fun b0 => first0 _ _ b0) b0 ad m c news hl hnews h1 hm hmm hbb
  unfold Oper.wp execOp
  simp only [ho, resolve, invoke, builtin, Sem.run_bind, Sem.run_pure, Result.andThen_ok, List.map_toArray, List.map_cons, List.map_nil, hv, hx, hr]
  exact hK _ _ (h cap u' hown hb)

/-- The cells of a slice of ints. -/
theorem IntsAt.news {w : World} {ao : Option Addr} {cap : Nat} {l : List Int} (h : IntsAt w ao cap l) (h0 : 0 < l.length) : ∃ b off, ao = some ⟨b, off, none⟩ ∧ ∀ j x, (l.map (Value.int .i64))[j]? = some x → w.cell? ((⟨b, off, none⟩ : Addr).add j) = some x := by
  obtain ⟨b, off, rfl, _, hc⟩ := h.cells h0
  refine ⟨b, off, rfl, fun j x hx => ?_⟩
  have hj := (List.getElem?_eq_some_iff.1 hx).1
  simp at hj
  obtain ⟨cs, h1, _, h3⟩ := hc j hj
  subst h1
  have := h3 0 _ rfl
  rw [Go.WideShapes.add_plain]
  simp [hj] at hx
  subst hx
  simpa using this

/-- 'append([]int{}, x...)'. -/
theorem wp_app1 {o : Oper} {a : Act} {K : Act → World → Prop} {Q : Exit → Act → World → Prop} {u W0 : World} (s x : Operand) (ho : o.op = .call { callee := .builtin .append, args := #[s, x], argTypes := #[47, 47] }) (B : Nat) (hao : Option Addr) (hcap : Nat) (l : List Int)
    (hv : a.eval s = .slice (some ⟨B, 0, none⟩) 0 0) (hbase : W0.heap.size ≤ B) (hB : u.heap[B]? = some (.cells #[] 3 (0, 0))) (hx : a.eval x = .slice hao l.length hcap) (hin : IntsAt u hao hcap l) (hl : l.length ≤ 1000) (hB0 : Below W0.heap.size W0 u)
    (h : ∀ ao cap u', OwnI u' W0.heap.size (.slice ao l.length cap) l → Below u.heap.size u u' → Below W0.heap.size W0 u' → K (a.put o.dst (.slice ao l.length cap)) u') : o.wp Try.prog a u K Q := by
  obtain ⟨i0, hi, hi0, hi1, hi2⟩ := info_parts Try.infoInt
  have go : ∀ ao cap u', (Builtin.append_ #[47, 47] o.type #[.slice (some ⟨B, 0, none⟩) 0 0, .slice hao l.length hcap]).run Try.prog u = .ok (.slice ao l.length cap) u' → OwnI u' W0.heap.size (.slice ao l.length cap) l → Below u.heap.size u u' → o.wp Try.prog a u K Q := by
    intro ao cap u' hr h1 h2
    unfold Oper.wp execOp
    simp only [ho, resolve, invoke, builtin, Sem.run_bind, Sem.run_pure, Result.andThen_ok, List.map_toArray, List.map_cons, List.map_nil, hv, hx, hr]
    exact h ao cap u' h1 h2 (bvia hB0 h2)
  rcases Nat.eq_zero_or_pos l.length with h0 | h0
  · have hl0 : l = [] := by simpa using h0
    subst hl0
    have src : Src Try.prog i0.size 47 (.slice hao 0 hcap) 0 [] u := by
      cases hao with
      | none => exact Src.ofNil u Try.underlying47 hcap
      | some ad => exact Src.ofSlice u Try.underlying47 ad 0 hcap [] (by simp) (by simp) (by simp)
    refine go (some ⟨B, 0, none⟩) 0 u (run_append_nothing u 47 47 o.type 3 i0 Try.underlying47 hi _ 0 0 (Nat.le_refl _) _ src) ?_ (Below.refl _ _)
    exact ⟨by simp, .inr ⟨B, 0, #[], rfl, hbase, hB, by simp, by simp [maxLen], by simp, by simp⟩⟩
  · obtain ⟨b, off, rfl, hn⟩ := IntsAt.news hin h0
    obtain ⟨cap, u', hr, hown, hb⟩ := run_append_fresh u o.type Try.underlying47 hi hi0 hi1 hi2 rfl (by decide) (fun b0 => first0 _ _ b0) (some ⟨B, 0, none⟩) ⟨b, off, none⟩ l.length hcap (l.map (Value.int .i64)) (by simp) hn (by simp; exact fun _ _ => rfl) h0 hl (by omega)
    refine go _ cap u' hr ?_ hb
    refine ⟨hown.1, ?_⟩
    rcases hown.2 with ⟨h1, _⟩ | ⟨g, cap', cur, h1, h2, r⟩
    · cases h1
    · exact .inr ⟨g, cap', cur, h1, Nat.le_trans hB0.size h2, r⟩

/-- 'append(v, n)'. -/
theorem wp_app2 {o : Oper} {a : Act} {K : Act → World → Prop} {Q : Exit → Act → World → Prop} {u W0 : World} (s x : Operand) (ho : o.op = .call { callee := .builtin .append, args := #[s, x], argTypes := #[47, 47] }) (v : Value) (B : Nat) (l : List Int) (n : Int)
    (hv : a.eval s = v) (hown : OwnI u W0.heap.size v l) (hx : a.eval x = .slice (some ⟨B, 0, none⟩) 1 1) (hB : u.cell? ⟨B, 0, none⟩ = some (.int .i64 n)) (hl : l.length ≤ 1000) (hB0 : Below W0.heap.size W0 u)
    (h : ∀ g cap u', W0.heap.size ≤ g → OwnI u' W0.heap.size (.slice (some ⟨g, 0, none⟩) (l ++ [n]).length cap) (l ++ [n]) → Below W0.heap.size W0 u' → K (a.put o.dst (.slice (some ⟨g, 0, none⟩) (l ++ [n]).length cap)) u') : o.wp Try.prog a u K Q := by
  obtain ⟨i0, hi, hi0, hi1, hi2⟩ := info_parts Try.infoInt
  refine wp_append_lies u s x 47 ho W0.heap.size 3 i0 _ 1 8 Try.underlying47 hi hi0 hi1 hi2 rfl (by decide) v l.length (l.map (Value.int .i64)) hv hown ⟨B, 0, none⟩ 1 1 [.int .i64 n] hx rfl (fun j y hy => ?_) (by simp; exact rfl) (by omega) (by simp only [maxLen]; omega) (by omega) hB0.size _ rfl ?_
  · match j, hy with
    | 0, hy =>
      simp at hy
      subst hy
      simpa [Addr.add] using hB
  · intro g cap u' h1 h2 h3 h4
    have h5 := (h1.lt g rfl).1
    have h6 : OwnI u' W0.heap.size (.slice (some ⟨g, 0, none⟩) (l ++ [n]).length cap) (l ++ [n]) := by simpa [OwnI] using h1
    have := h g cap u' h5 h6 (grownI_below hB0 hown (Nat.le_refl _) h2)
    simpa using this

section
variable {ops : Array Oper} {o : Oper} {a : Act} {K : Act → World → Prop} {Q : Exit → Act → World → Prop} {E : Prop}
theorem step_of (hgd : o.guard = none) {P : Program} {u : World} (h : o.wp P a u K Q) : if Region.wanted o (yielded ops a.tmps) = true then Oper.wp P o a u K Q else E := by
  have hw : Region.wanted o (yielded ops a.tmps) = true := by simp [Region.wanted, hgd]
  rw [if_pos hw]
  exact h
end

theorem SlAt.flat {α : Type} {R : World → α → List Value → Prop} {size : Nat} {w : World} {ao : Option Addr} {cap : Nat} {l : List α} (h : SlAt R size w ao cap l) (h0 : 0 < l.length) (hs0 : 0 < size) :
    ∃ b off, ∃ q : Nat → List Value, ao = some ⟨b, off, none⟩ ∧ b < w.heap.size ∧ (∀ i (hi : i < l.length), R w l[i] (q i) ∧ (q i).length = size) ∧ ((List.range l.length).map q).flatten.length = l.length * size ∧ (∀ i j, i < l.length → j < size → ((List.range l.length).map q).flatten[i * size + j]? = (q i)[j]?) ∧
      ∀ j x, ((List.range l.length).map q).flatten[j]? = some x → w.cell? ((⟨b, off, none⟩ : Addr).add j) = some x := by
  obtain ⟨b, off, rfl, hlt, hc⟩ := h.cells h0
  have each : ∀ i, i < l.length → ∃ cs : List Value, (∀ hi : i < l.length, R w l[i] cs) ∧ cs.length = size ∧ ∀ j u, cs[j]? = some u → w.cell? ⟨b, off + i * size + j, none⟩ = some u := by
    intro i hi
    obtain ⟨cs, h1, h2, h3⟩ := hc i hi
    exact ⟨cs, fun _ => h1, h2, h3⟩
  obtain ⟨q, hq⟩ := Go.Deep.choose_lt each
  have hall : ∀ c ∈ (List.range l.length).map q, c.length = size := by
    intro c hc
    obtain ⟨i, hi, rfl⟩ := List.mem_map.1 hc
    exact (hq i (by simpa using hi)).2.1
  have hfl : ((List.range l.length).map q).flatten.length = l.length * size := by
    have key : ∀ (L : List (List Value)), (∀ c ∈ L, c.length = size) → L.flatten.length = L.length * size := by
      intro L
      induction L with
      | nil => simp
      | cons c L ih => intro hL; simp only [List.flatten_cons, List.length_append, List.length_cons, hL c (by simp), ih (fun c hc => hL c (by simp [hc])), Nat.succ_mul]; omega
    simpa using key _ hall
  have hget : ∀ i j, i < l.length → j < size → ((List.range l.length).map q).flatten[i * size + j]? = (q i)[j]? := fun i j hi hj => flat_get _ hall i j (q i) (by simp [hi]) hj
  refine ⟨b, off, q, rfl, hlt, fun i hi => ⟨(hq i hi).1 hi, (hq i hi).2.1⟩, hfl, hget, fun j x hx => ?_⟩
  have hj := (List.getElem?_eq_some_iff.1 hx).1
  rw [hfl] at hj
  have e1 : j = j / size * size + j % size := by rw [Nat.mul_comm]; exact (Nat.div_add_mod j size).symm
  have h1 : j / size < l.length := (Nat.div_lt_iff_lt_mul hs0).2 hj
  have h2 : j % size < size := Nat.mod_lt _ hs0
  rw [e1, hget _ _ h1 h2] at hx
  have := (hq _ h1).2.2 _ _ hx
  rw [Go.WideShapes.add_plain, e1]
  simpa [Nat.add_assoc] using this

/-- Each cell of a list of categories is one. -/
theorem cats_one {w : World} {l : List Cat} {q : Nat → List Value} (h : ∀ i (hi : i < l.length), RCat w l[i] (q i) ∧ (q i).length = 2) : ∀ x ∈ ((List.range l.length).map q).flatten, x.oneCell' = true := by
  intro x hx
  obtain ⟨c, hc, hxc⟩ := List.mem_flatten.1 hx
  obtain ⟨i, hi, rfl⟩ := List.mem_map.1 hc
  obtain ⟨⟨hao, hcap, e, _⟩, _⟩ := h i (by simpa using hi)
  rw [e] at hxc
  simp at hxc
  rcases hxc with rfl | rfl <;> rfl

/-- A category may be served by one more. -/
def P.more (cs : List Cat) (c : Nat) (other : Int) : List Cat := cs.set c ((cs.getD c (ByteArray.empty, [])).1, (cs.getD c (ByteArray.empty, [])).2 ++ [other])
theorem more_len (cs : List Cat) (c : Nat) (other : Int) : (P.more cs c other).length = cs.length := by simp [P.more]

theorem more_base {cs : List Cat} {c : Nat} {other : Int} {a b : Nat} (h : P.base cs a b = true) : P.base (P.more cs c other) a b = true := by
  simp only [P.base, more_len] at *
  rw [Bool.and_eq_true] at *
  refine ⟨h.1, ?_⟩
  have h2 := h.2
  rw [Bool.or_eq_true] at *
  rcases h2 with h2 | h2
  · exact .inl h2
  · right
    have hb : b < cs.length := by simpa using h.1
    unfold P.edge P.more at *
    by_cases e : c = b
    · subst e
      simp only [List.getD_eq_getElem?_getD, List.getElem?_set, hb] at *
      simp at *
      exact .inl h2
    · simp only [List.getD_eq_getElem?_getD, List.getElem?_set, e] at *
      simpa using h2

theorem war_more {T T' : Tab} (h : ∀ a b, T a b = true → T' a b = true) : ∀ (m : Nat) {a b : Nat}, P.war T m a b = true → P.war T' m a b = true := by
  intro m
  induction m with
  | zero => exact fun h1 => h _ _ h1
  | succ m ih =>
    intro a b h1
    simp only [P.war, P.step, Bool.or_eq_true, Bool.and_eq_true] at *
    rcases h1 with h1 | ⟨h1, h2⟩
    · exact .inl (ih h1)
    · exact .inr ⟨ih h1, ih h2⟩

theorem serves_more {legs souls : Int} {cs : List Cat} {bs : List Cab} {a b : Int} {c : Nat} {other : Int} (h : P.servesB legs souls cs bs a b = true) (h2 : P.servesE legs souls (P.more cs c other) bs a b = 0) : P.servesB legs souls (P.more cs c other) bs a b = true := by
  rw [P.servesB, Bool.and_eq_true] at *
  refine ⟨by simpa using h2, ?_⟩
  have := h.2
  rw [P.serves] at *
  rw [more_len]
  exact war_more (fun a b => more_base) _ this

theorem more_at {w F : World} {cao bao : Option Addr} {cc bc : Nat} {cs : List Cat} {bs : List Cab} {c : Nat} {other : Int} {q : Nat → List Value} {H cap : Nat} {ao2 : Option Addr} {cap2 : Nat} {nm : ByteArray} {hl : List Int} (hB : Below w.heap.size w F) (hs : ShipAt w cao bao cc bc cs bs) (hc : c < cs.length) (hcs : cs[c] = (nm, hl))
    (hq : ∀ i (hi : i < cs.length), RCat w cs[i] (q i) ∧ (q i).length = 2) (hcap : cs.length ≤ cap) (hmax : cap ≤ maxLen) (hH : H < F.heap.size) (hcell : ∀ i j x, i < cs.length → ¬ (i = c ∧ j = 1) → (q i)[j]? = some x → F.cell? ⟨H, i * 2 + j, none⟩ = some x)
    (hput : F.cell? ⟨H, c * 2 + 1, none⟩ = some (.slice ao2 (hl ++ [other]).length cap2)) (hin : IntsAt F ao2 cap2 (hl ++ [other])) : ShipAt F (some ⟨H, 0, none⟩) bao cap bc (P.more cs c other) bs := by
  refine ⟨⟨by rw [more_len]; exact hcap, hmax, (fun h => by cases h), fun h0 => ⟨H, 0, rfl, hH, fun i hi => ?_⟩⟩, SlAt.below RCab.mono hs.cabs hB⟩
  have hi' : i < cs.length := by rw [more_len] at hi; exact hi
  obtain ⟨hr, hlen⟩ := hq i hi'
  by_cases e : i = c
  · subst e
    have hel : (P.more cs i other)[i] = (nm, hl ++ [other]) := by simp [P.more, hi', hcs]
    rw [hel]
    obtain ⟨hao, hcp, e1, h2, h3⟩ := hr
    rw [hcs] at e1 h3
    refine ⟨[.string nm, .slice ao2 (hl ++ [other]).length cap2], ⟨ao2, cap2, rfl, hin, h3⟩, rfl, fun j u hj => ?_⟩
    match j, hj with
    | 0, hj =>
      have := hcell i 0 u hi' (by omega) (by rw [e1]; simpa using hj)
      simpa using this
    | 1, hj =>
      simp at hj
      subst hj
      simpa using hput
  · have hel : (P.more cs c other)[i] = cs[i] := by simp [P.more, Ne.symm e]
    rw [hel]
    exact ⟨q i, RCat.mono _ _ _ _ hB hr, hlen, fun j u hj => by simpa using hcell i j u hi' (by omega) hj⟩

end Go.Proofs.Ytnadhpemmehedaa
