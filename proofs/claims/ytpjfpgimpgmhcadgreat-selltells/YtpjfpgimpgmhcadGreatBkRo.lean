/- Lists of bookings that a law makes; BookGone's mathematics. -/
import Derived.Test.YtpjfpgimpgmhcadGreatBoDo
import Derived.Test.YtpjfpgimpgmhcadGreatBaCo
namespace Go.Proofs.YtpjfpgimpgmhcadGreat.Bk
open Go.RowKit
set_option linter.unusedSimpArgs false
set_option linter.unusedVariables false

section
variable {α : Type} {cells : α → List Value} {size : Nat} {e : TypeId}
/-- 'append(v, l2...)' in an open order: v of the call's own, l2 whatever. -/
theorem wpW_many {t : TypeId} {z : Value} {bytes : Nat} (hinfo : (Tryz.prog.info? e).map (fun i => (i.zero, i.size, i.bytes)) = some (some z, size, bytes)) (hu : Tryz.prog.underlying t = some (.slice e)) (hzs : z.cells.size = size) (hs0 : 0 < size) (hc : ∀ x, (cells x).length = size) (h1c : ∀ x, ∀ u ∈ cells x, u.oneCell' = true)
    {o : Oper} {a : Act} {K : Act → World → Prop} {Q : Exit → Act → World → Prop} {u : World} {base : Nat} (s x : Operand) (ho : o.op = .call { callee := .builtin .append, args := #[s, x], argTypes := #[t, t] }) (v : Value) (l l2 L : List α) (m2 mL : Nat) (hL : l ++ l2 = L) (hm2 : l2.length = m2) (hmL : L.length = mL) (ao2 : Option Addr) (cap2 : Nat)
    (hv : a.eval s = v) (hown : OwnC cells size e u base v l) (hx : a.eval x = .slice ao2 m2 cap2) (h2 : SlAt (RC cells) size u ao2 cap2 l2) (h63 : mL ≤ maxLen) (hby : mL * bytes ≤ 140737488355328) (hbase : base ≤ u.heap.size)
    (h : ∀ ao cap u', OwnC cells size e u' base (.slice ao mL cap) L → u.grownBy u' v.ownBlock → K (a.put o.dst (.slice ao mL cap)) u') : o.wp Tryz.prog a u K Q := by
  subst hL hm2 hmL
  obtain ⟨i0, hi, hi0, hi1, hi2⟩ := info_parts hinfo
  rw [List.length_append] at h63 hby
  rcases Nat.eq_zero_or_pos l2.length with h0 | h0
  · obtain rfl : l2 = [] := List.eq_nil_of_length_eq_zero h0
    obtain ⟨ao, cap, rfl, hat⟩ := OwnC.at hc hown
    have src : Src Tryz.prog i0.size t (.slice ao2 0 cap2) 0 [] u := by
      cases ao2 with
      | none => exact Src.ofNil u hu cap2
      | some ad => exact Src.ofSlice u hu ad 0 cap2 [] (by simp) (by simp) (by simp)
    have hr := run_append_nothing u t t o.type e i0 hu hi ao l.length cap hat.le _ src
    have hk : K (a.put o.dst (.slice ao l.length cap)) u := by simpa using h ao cap u (by simpa using hown) ⟨rfl, rfl, rfl, Nat.le_refl _, fun _ _ _ => rfl⟩
    unfold Oper.wp execOp
    simp only [ho, resolve, invoke, builtin, Sem.run_bind, Sem.run_pure, Result.andThen_ok, List.map_toArray, List.map_cons, List.map_nil, hv, hx]
    simp only [List.length_nil, hr, Result.andThen_ok]
    exact hk
  · obtain ⟨b, off, rfl, hn⟩ := SlAt.news hc h2 h0 hs0
    refine wp_append_lies u s x t ho base e i0 z size bytes hu hi hi0 hi1 hi2 hzs hs0 v l.length (l.flatMap cells) hv hown ⟨b, off, none⟩ l2.length cap2 (l2.flatMap cells) hx (flatC_len hc _) hn (fun u hu => by
      obtain ⟨y, _, hy⟩ := List.mem_flatMap.1 hu
      exact h1c y u hy) h0 h63 hby hbase _ rfl ?_
    intro g cap u' h1 h2 _ _
    have h6 : OwnC cells size e u' base (.slice (some ⟨g, 0, none⟩) (l ++ l2).length cap) (l ++ l2) := by
      show u'.ownsRow base e size _ (l ++ l2).length _
      rw [List.flatMap_append, List.length_append]
      exact h1
    have := h _ cap u' h6 h2
    rw [List.length_append] at this
    exact this

theorem SlAt.part {R : World → α → List Value → Prop} {w : World} {ao : Option Addr} {cap : Nat} {A B : List α} (h : SlAt R size w ao cap (A ++ B)) : SlAt R size w ao cap A := by
  have hle := h.le
  rw [List.length_append] at hle
  refine ⟨by omega, h.max, h.nil, fun h0 => ?_⟩
  obtain ⟨b, off, rfl, hlt, hc⟩ := h.cells (by rw [List.length_append]; omega)
  refine ⟨b, off, rfl, hlt, fun i hi => ?_⟩
  have := hc i (by rw [List.length_append]; omega)
  rwa [List.getElem_append_left hi] at this
def tailOf (size : Nat) (ao : Option Addr) (cap k : Nat) : Option Addr := if cap = k then ao else ao.map fun x => x.add (k * size)
theorem SlAt.rest {R : World → α → List Value → Prop} {w : World} {ao : Option Addr} {cap : Nat} {A B : List α} (h : SlAt R size w ao cap (A ++ B)) : SlAt R size w (tailOf size ao cap A.length) (cap - A.length) B := by
  have hle := h.le
  have hmx := h.max
  rw [List.length_append] at hle
  refine ⟨by omega, by omega, fun hn => ?_, fun h0 => ?_⟩
  · have : ao = none := by
      unfold tailOf at hn
      split at hn
      · exact hn
      · simpa using hn
    have := h.nil this
    omega
  · obtain ⟨b, off, rfl, hlt, hc⟩ := h.cells (by rw [List.length_append]; omega)
    refine ⟨b, off + A.length * size, by rw [tailOf, if_neg (by omega)]; simp [Addr.add], hlt, fun i hi => ?_⟩
    obtain ⟨cs, h1, h2, h3⟩ := hc (A.length + i) (by rw [List.length_append]; omega)
    rw [List.getElem_append_right (by omega)] at h1
    refine ⟨cs, by simpa using h1, h2, fun j u hj => ?_⟩
    have := h3 j u hj
    rw [Nat.add_mul] at this
    rw [show off + A.length * size + i * size + j = off + (A.length * size + i * size) + j by omega]
    exact this
end

theorem cellsV_len (x : BkV) : (cellsV x).length = 11 := rfl
theorem cellsV_one (x : BkV) : ∀ u ∈ cellsV x, u.oneCell' = true := by
  intro u hu
  simp [cellsV, cellsBk] at hu
  rcases hu with rfl | rfl | rfl | rfl | rfl | rfl | rfl | rfl | rfl | rfl | rfl <;> rfl
theorem Tryz.infoBk : (Tryz.prog.info? 42).map (fun i => (i.zero, i.size, i.bytes)) = some (some (.agg #[.int .i64 0, .int .i64 0, .int .i64 0, .int .i64 0, .bool false, .int .i64 0, .int .i64 0, .int .i64 0, .int .i64 0, .int .i64 0, .slice none 0 0]), 11, 104) := by kernel_rfl
abbrev OwnB (w : World) (base : Nat) (v : Value) (l : List BkV) : Prop := OwnC cellsV 11 42 w base v l

theorem BkVsAt.plain {w : World} {ao : Option Addr} {cap : Nat} {l : List BkV} (h : BkVsAt w ao cap l) : SlAt (RC cellsV) 11 w ao cap l := by
  refine ⟨h.le, h.max, h.nil, fun h0 => ?_⟩
  obtain ⟨b, off, rfl, hlt, hc⟩ := h.cells h0
  refine ⟨b, off, rfl, hlt, fun i hi => ?_⟩
  obtain ⟨cs, h1, h2, h3⟩ := hc i hi
  exact ⟨cs, h1.1, h2, h3⟩
theorem BkVsAt.ents {w : World} {ao : Option Addr} {cap : Nat} {l : List BkV} (h : BkVsAt w ao cap l) : ∀ x ∈ l, Fo.EntsAt w x.2.1 x.2.2 x.1.fol := by
  intro x hx
  obtain ⟨i, hi, rfl⟩ := List.getElem_of_mem hx
  obtain ⟨b, off, _, _, hc⟩ := h.cells (by omega)
  obtain ⟨cs, h1, _⟩ := hc i hi
  exact h1.2
theorem bkvs_of {w : World} {ao : Option Addr} {cap : Nat} {l : List BkV} (h : SlAt (RC cellsV) 11 w ao cap l) (he : ∀ x ∈ l, Fo.EntsAt w x.2.1 x.2.2 x.1.fol) : BkVsAt w ao cap l := by
  refine ⟨h.le, h.max, h.nil, fun h0 => ?_⟩
  obtain ⟨b, off, rfl, hlt, hc⟩ := h.cells h0
  refine ⟨b, off, rfl, hlt, fun i hi => ?_⟩
  obtain ⟨cs, h1, h2, h3⟩ := hc i hi
  exact ⟨cs, ⟨h1, he _ (List.getElem_mem hi)⟩, h2, h3⟩

theorem Tryz.sizeBk : (Tryz.prog.info? 42).map (fun i => i.size) = some 11 := by kernel_rfl
theorem run_sizeBk (wx : World) : (sizeOf 42).run Tryz.prog wx = .ok 11 wx := by
  have h := Tryz.sizeBk
  cases hi : Tryz.prog.info? 42 with
  | none => rw [hi] at h; cases h
  | some i =>
    rw [hi] at h
    simp at h
    simp [sizeOf, typeInfo, hi, h]
theorem run_headB (ao : Option Addr) (n cap k : Nat) (hk : k ≤ cap) (wx : World) : (Instr.slice 30 (.slice ao n cap) none (some (.int .i64 (k : Int))) none).run Tryz.prog wx = .ok (.slice ao k cap) wx := by
  simp [Instr.slice, run_underlying Tryz.underlying30, Instr.sliceBounds, Instr.sliceBound, asIntOf, run_sizeBk, hk]
  intro _
  cases ao <;> simp [Addr.add]
theorem run_tailB (ao : Option Addr) (n cap k : Nat) (hk : k ≤ n) (wx : World) : (Instr.slice 30 (.slice ao n cap) (some (.int .i64 (k : Int))) none none).run Tryz.prog wx = .ok (.slice (tailOf 11 ao cap k) (n - k) (cap - k)) wx := by
  simp [Instr.slice, run_underlying Tryz.underlying30, Instr.sliceBounds, Instr.sliceBound, asIntOf, run_sizeBk, hk, tailOf]

end Go.Proofs.YtpjfpgimpgmhcadGreat.Bk
