import Derived.Test.YtlamhfbdeinkkaeGreatFoAs
import Derived.Test.YtlamhfbdeinkkaeGreatBaAs
set_option maxRecDepth 10000
/- Walks of worth, with, Add. -/
namespace Go.Proofs.YtlamhfbdeinkkaeGreat.Fo
open Go.RowKit
set_option linter.unusedSimpArgs false
set_option linter.unusedVariables false

def cellsN (x : Ent) : List Value := [.int .i64 x.1, .int .i64 x.2.1, .int .i64 x.2.2]
theorem cellsN_len (x : Ent) : (cellsN x).length = 3 := rfl
theorem cellsN_one (x : Ent) : ∀ u ∈ cellsN x, u.oneCell' = true := by simp [cellsN]; exact ⟨rfl, rfl, rfl⟩
/-- The value v is a slice of the call's own that holds the entries l. -/
abbrev OwnN (w : World) (base : Nat) (v : Value) (l : List Ent) : Prop := OwnC cellsN 3 59 w base v l
theorem Tryz.infoEntry : (Tryz.prog.info? 59).map (fun i => (i.zero, i.size, i.bytes)) = some (some (.agg #[.int .i64 0, .int .i64 0, .int .i64 0]), 3, 24) := by kernel_rfl
theorem OwnN.at {w : World} {base : Nat} {v : Value} {l : List Ent} (h : OwnN w base v l) : ∃ ao cap, v = .slice ao l.length cap ∧ EntsAt w ao cap l := OwnC.at cellsN_len h

/-- 'append(v, l2...)'. -/
theorem wpList_app_ents {ops : Array Oper} {rest : List Oper} {o : Oper} {a : Act} {Q : Exit → Act → World → Prop} {W0 : World} (hgd : o.guard = none) (s x : Operand)
    (ho : o.op = .call { callee := .builtin .append, args := #[s, x], argTypes := #[35, 35] }) (base : Nat) (v : Value) (l : List Ent) (ao : Option Addr) (cap : Nat) (l2 : List Ent) (hs : a.eval s = v) (hown : OwnN W0 base v l)
    (hx : a.eval x = .slice ao l2.length cap) (h2 : EntsAt W0 ao cap l2) (hb : base ≤ W0.heap.size) (hn : l.length ≤ 1000000) (hn2 : l2.length ≤ 1000000)
    (h : ∀ v' w', OwnN w' base v' (l ++ l2) → W0.grownBy w' v.ownBlock → wpList Tryz.prog ops Q rest (a.put o.dst v') w') : wpList Tryz.prog ops Q (o :: rest) a W0 :=
  wpList_app_many Tryz.infoEntry Tryz.underlying35 rfl (by decide) cellsN_len cellsN_one (by decide) hgd s x ho base v l ao cap l2 hs hown hx h2 hb hn hn2 h

def P.worth (l : List Ent) : List Ent := l.filter fun x => x.2.2 != 0

end Go.Proofs.YtlamhfbdeinkkaeGreat.Fo
/- Walks of with, Add, Cancel. -/
namespace Go.Proofs.YtlamhfbdeinkkaeGreat.Fo
open Go.RowKit
set_option linter.unusedSimpArgs false
set_option linter.unusedVariables false

/-- The sum of the entries that count, plainly. -/
def P.ftot (p : Ent → Bool) : List Ent → Int
  | [] => 0
  | x :: r => (if p x = true then x.2.2 else 0) + P.ftot p r
/-- What 'with' hands back. -/
def P.plus (l c : List Ent) : List Ent := if P.folE (l ++ c) = 0 then l ++ c else []

set_option maxHeartbeats 1000000 in
theorem with_any' (ao : Option Addr) (cap : Nat) (l : List Ent) (bo : Option Addr) (bc : Nat) (c : List Ent) (w : World) (hl : EntsAt w ao cap l) (hc : EntsAt w bo bc c) (h12 : l.length ≤ 12) (h13 : c.length ≤ 12) :
    Calls Tryz.prog 119 #[.slice ao l.length cap, .slice bo c.length bc] w fun e w' => ∃ v, e = .returned (.tuple #[v, .int .i64 (P.folE (l ++ c))]) ∧ OwnN w' w.heap.size v (P.plus l c) ∧ Below w.heap.size w w' := by
  have hle := hl.le
  have hmx := hl.max
  unfold maxLen at hmx
  have hle2 := hc.le
  have hmx2 := hc.max
  unfold maxLen at hmx2
  obtain ⟨i0, hi, hi0, hi1, hi2⟩ := info_parts Tryz.infoEntry
  obtain ⟨L, hL⟩ : ∃ L, l ++ c = L := ⟨_, rfl⟩
  rw [hL]
  have HL : Aside (l ++ c = L) := hL
  clear hL
  go_enter Tryz.func119, Tryz.ntmps119
  have HN : Aside (∀ w', w.grownBy w' none → Below w.heap.size w w') := fun w' hg => (Below.refl _ w).grown hg (Nat.le_refl _) (fun j hj => by cases hj)
  go_wp2_with (first
    | (at_make; refine wpList_make_own _ rfl _ _ 35 rfl w.heap.size 59 i0 _ 3 Tryz.underlying35 hi hi0 hi1 .i64 .i64 _ (l.length + c.length) rfl rfl (by first | rfl | (simp; omega) | omega) (by rw [hi2]; omega) (by unfold maxLen; omega) (Nat.le_refl _) ?_; intro w0 hown0 hgrow0; have hB0 := HN.out _ hgrow0; have hl0 := SlAt.below REnt.mono hl hB0; have hc0 := SlAt.below REnt.mono hc hB0; have hs0 := hB0.size; clear hgrow0)
    | (at_builtin; refine wpList_app_ents rfl (.tmp 14) (.tmp 15) rfl w.heap.size _ [] ao cap l rfl hown0 rfl hl0 hs0 (by simp) (by omega) ?_; intro v1 w1 hown1 hgr1; have hB1 := OwnC.grown (cells := cellsN) (l := []) hB0 hown0 (Nat.le_refl _) hgr1; have hc1 := SlAt.below REnt.mono hc hB1; have hs1 := hB1.size; clear hgr1)
    | (at_builtin; refine wpList_app_ents rfl (.tmp 17) (.tmp 18) rfl w.heap.size _ l bo bc c rfl hown1 rfl hc1 hs1 (by omega) (by omega) ?_; intro v2 w2 hown2 hgr2; have hB2 := OwnC.grown hB1 hown1 (Nat.le_refl _) hgr2; rw [HL.out] at hown2; obtain ⟨ao2, cap2, rfl, hl2⟩ := hown2.at; clear hgr2)
    | fail)
  refine (folCheck_any _ _ _ _ hl2).mono ?_
  rintro e w3 ⟨rfl, hb3⟩
  have hown3 := OwnC.below hown2 hb3
  have HO : Aside (OwnN w3 w.heap.size (.slice ao2 L.length cap2) L) := hown3
  clear hown0 hown1 hown2 hown3 hl0 hc0 hc1 hl2
  by_cases he : P.folE L = 0
  · rw [he]
    go_wp2
    go_ret2
    exact ⟨_, ret2_int he.symm, by rw [P.plus, HL.out, if_pos he]; exact HO.out, bvia hB2 hb3⟩
  · have he2 : (P.folE L == 0) = false := by simpa using he
    go_wp2
    go_ret2
    exact ⟨_, rfl, by rw [P.plus, HL.out, if_neg he]; exact OwnC.nil _ _, bvia hB2 hb3⟩

/-- One entry in a block of its own. -/
theorem ents_one {w : World} {b : Nat} (d k m : Int) (hb : w.heap[b]? = some (.cells #[.int .i64 d, .int .i64 k, .int .i64 m] 59 (0, 0))) : EntsAt w (some ⟨b, 0, none⟩) 1 [(d, k, m)] :=
  SlAt.ofBlock (l := [((d, k, m) : Ent)]) [[.int .i64 d, .int .i64 k, .int .i64 m]] hb rfl rfl (fun i hi => by
    obtain rfl : i = 0 := by simp at hi; omega
    exact ⟨_, rfl, rfl⟩) (by simp) (by simp [maxLen])

def P.addE (l : List Ent) (x : Ent) : Int := if P.folE l = 0 then P.folE (l ++ [x]) else P.folE l
def P.add (l : List Ent) (x : Ent) : List Ent := if P.folE l = 0 then P.plus l [x] else []

set_option maxHeartbeats 1000000 in
theorem add_any (ao : Option Addr) (cap : Nat) (l : List Ent) (d k m : Int) (w : World) (hl : EntsAt w ao cap l) :
    Calls Tryz.prog 66 #[.slice ao l.length cap, .agg #[.int .i64 d, .int .i64 k, .int .i64 m]] w fun e w' => ∃ v, e = .returned (.tuple #[v, .int .i64 (P.addE l (d, k, m))]) ∧ OwnN w' w.heap.size v (P.add l (d, k, m)) ∧ Below w.heap.size w w' := by
  by_cases he : P.folE l = 0
  · have HE : Aside (P.addE l (d, k, m) = P.folE (l ++ [(d, k, m)])) := by show _ = _; rw [P.addE, if_pos he]
    have HV : Aside (P.add l (d, k, m) = P.plus l [(d, k, m)]) := by show _ = _; rw [P.add, if_pos he]
    have h12 := folE_len he
    go_enter Tryz.func66, Tryz.ntmps66
    go_wp2_with fail
    refine (folCheck_any ao cap l _ (SlAt.below REnt.mono hl (by go_grown))).mono ?_
    rintro e w1 ⟨rfl, hb1⟩
    have k0 : w1.cell? ⟨w.heap.size, 0, none⟩ = some (.int .i64 d) := cellIn hb1 (by simp)
    have k1 : w1.cell? ⟨w.heap.size, 1, none⟩ = some (.int .i64 k) := cellIn hb1 (by simp)
    have k2 : w1.cell? ⟨w.heap.size, 2, none⟩ = some (.int .i64 m) := cellIn hb1 (by simp)
    have hB1 : Below w.heap.size w w1 := bvia (by go_grown) hb1
    clear hb1
    rw [he]
    go_wp2_with fail
    refine (with_any' ao cap l _ 1 [(d, k, m)] _ (SlAt.below REnt.mono hl (bvia hB1 (by go_grown))) (ents_one d k m (heap_alloc_new _ _)) h12 (by simp)).mono ?_
    rintro e w2 ⟨v, rfl, hown, hb2⟩
    have hb2' : Below w.heap.size w w2 := bvia (bvia hB1 (by go_grown)) hb2
    have HO : Aside (OwnN w2 w.heap.size v (P.plus l [(d, k, m)])) := by
      refine ⟨hown.1, hown.2.imp id ?_⟩
      rintro ⟨g, c, cur, h1, h2, h3⟩
      have := hB1.size
      exact ⟨g, c, cur, h1, by simp at h2; omega, h3⟩
    clear hown
    go_wp2
    go_ret2
    exact ⟨_, ret2_int HE.out.symm, by rw [HV.out]; exact HO.out, hb2'⟩
  · have he2 : (P.folE l == 0) = false := by simpa using he
    have HE : Aside (P.addE l (d, k, m) = P.folE l) := by show _ = _; rw [P.addE, if_neg he]
    have HV : Aside (P.add l (d, k, m) = []) := by show _ = _; rw [P.add, if_neg he]
    go_enter Tryz.func66, Tryz.ntmps66
    go_wp2_with fail
    refine (folCheck_any ao cap l _ (SlAt.below REnt.mono hl (by go_grown))).mono ?_
    rintro e w1 ⟨rfl, hb1⟩
    have hB1 : Below w.heap.size w w1 := bvia (by go_grown) hb1
    clear hb1
    go_wp2
    go_ret2
    exact ⟨_, ret2_int HE.out.symm, by rw [HV.out]; exact OwnC.nil _ _, hB1⟩

end Go.Proofs.YtlamhfbdeinkkaeGreat.Fo
/- Walk of Cancel. -/
namespace Go.Proofs.YtlamhfbdeinkkaeGreat.Fo
open Go.RowKit
set_option linter.unusedSimpArgs false
set_option linter.unusedVariables false

/-- What comes behind all at Cancel. -/
def P.come (l : List Ent) (day pen : Int) : List Ent :=
  P.worth [(day, 4, -P.ftot P.isFare l), (day, 3, pen), (day, 4, max 0 (-(P.ftot P.all l - P.ftot P.isFare l + pen)))]
def P.can (l : List Ent) (day pen : Int) : List Ent := if P.folE l = 0 then (if pen < 0 ∨ 100000000 < pen then [] else P.plus l (P.come l day pen)) else []
end Go.Proofs.YtlamhfbdeinkkaeGreat.Fo
/- Walks of sheet, folioBegun; the walk of FolioPaid. -/
namespace Go.Proofs.YtlamhfbdeinkkaeGreat.Fo
open Go.RowKit
set_option linter.unusedSimpArgs false
set_option linter.unusedVariables false

def T.S : List Ent := [(1, 1, 1000), (3, 2, -400)]
def T.C : List Ent := [(1, 1, 1000), (3, 2, -400), (5, 4, -1000), (5, 3, 100), (5, 4, 300)]
def T.A : List Ent := [(1, 1, 1000), (3, 2, -400), (3, 2, -600)]

end Go.Proofs.YtlamhfbdeinkkaeGreat.Fo
/- Walks of SameFolio; the walk of FolioCancel. -/
namespace Go.Proofs.YtlamhfbdeinkkaeGreat.Fo
open Go.RowKit
set_option linter.unusedSimpArgs false
set_option linter.unusedVariables false

theorem Tryz.sizeEntry : (Tryz.prog.info? 59).map (fun i => i.size) = some 3 := by kernel_rfl
theorem run_sizeEntry (wx : World) : (sizeOf 59).run Tryz.prog wx = .ok 3 wx := by
  have h := Tryz.sizeEntry
  cases hi : Tryz.prog.info? 59 with
  | none => rw [hi] at h; cases h
  | some i =>
    rw [hi] at h
    simp only [Option.map_some, Option.some.injEq] at h
    simp [sizeOf, typeInfo, hi, h]
/-- 'l[:n]' -/
theorem run_head (ao : Option Addr) (m cap n : Nat) (hn : n ≤ cap) (wx : World) : (Instr.slice 35 (.slice ao m cap) none (some (.int .i64 (n : Int))) none).run Tryz.prog wx = .ok (.slice ao n cap) wx := by
  simp [Instr.slice, run_underlying Tryz.underlying35, Instr.sliceBounds, Instr.sliceBound, asIntOf, run_sizeEntry, hn]
  intro _
  cases ao <;> simp [Addr.add]
theorem EntsAt.head {w : World} {ao : Option Addr} {cap : Nat} {a b : List Ent} (h : EntsAt w ao cap (a ++ b)) : EntsAt w ao cap a := by
  have hle := h.le
  rw [List.length_append] at hle
  refine ⟨by omega, h.max, h.nil, fun h0 => ?_⟩
  obtain ⟨bb, off, rfl, hlt, hc⟩ := h.cells (by rw [List.length_append]; omega)
  refine ⟨bb, off, rfl, hlt, fun i hi => ?_⟩
  have := hc i (by rw [List.length_append]; omega)
  rwa [List.getElem_append_left hi] at this

end Go.Proofs.YtlamhfbdeinkkaeGreat.Fo
/- Walks of the reference: SumOf, CheckFolio. -/
namespace Go.Proofs.YtlamhfbdeinkkaeGreat.Fo
open Go.RowKit
set_option linter.unusedSimpArgs false
set_option linter.unusedVariables false

end Go.Proofs.YtlamhfbdeinkkaeGreat.Fo
