/- The reference: PromisesOf. -/
import Derived.Test.YtpjfpgimpgmhcaeGreatStA
import Derived.Test.YtpjfpgimpgmhcaeGreatBoC
import Derived.OwnWalk
namespace Go.Proofs.YtpjfpgimpgmhcaeGreat.St
open Go.RowKit Bk
set_option linter.unusedSimpArgs false
set_option linter.unusedVariables false
set_option maxRecDepth 10000

def cellsI (n : Int) : List Value := [.int .i64 n]
def cellsG (x : Int × Int) : List Value := [.int .i64 x.1, .int .i64 x.2]
theorem cellsI_len (n : Int) : (cellsI n).length = 1 := rfl
theorem cellsG_len (x : Int × Int) : (cellsG x).length = 2 := rfl
theorem cellsI_one (n : Int) : ∀ u ∈ cellsI n, u.oneCell' = true := by simp [cellsI]; rfl
theorem cellsG_one (x : Int × Int) : ∀ u ∈ cellsG x, u.oneCell' = true := by simp [cellsG]; exact ⟨rfl, rfl⟩
abbrev OwnJ (w : World) (base : Nat) (v : Value) (l : List Int) : Prop := OwnC cellsI 1 3 w base v l
abbrev OwnG (w : World) (base : Nat) (v : Value) (l : List (Int × Int)) : Prop := OwnC cellsG 2 75 w base v l
theorem Tryz.infoI : (Tryz.prog.info? 3).map (fun i => (i.zero, i.size, i.bytes)) = some (some (.int .i64 0), 1, 8) := by kernel_rfl
theorem Tryz.infoG : (Tryz.prog.info? 75).map (fun i => (i.zero, i.size, i.bytes)) = some (some (.agg #[.int .i64 0, .int .i64 0]), 2, 16) := by kernel_rfl
theorem OwnJ.at {w : World} {base : Nat} {v : Value} {l : List Int} (h : OwnJ w base v l) : ∃ ao cap, v = .slice ao l.length cap ∧ IntsAt w ao cap l := OwnC.at cellsI_len h
theorem wpList_app_int {ops : Array Oper} {rest : List Oper} {o : Oper} {a : Act} {Q : Exit → Act → World → Prop} {W0 : World} (hgd : o.guard = none) (s x : Operand)
    (ho : o.op = .call { callee := .builtin .append, args := #[s, x], argTypes := #[47, 47] }) (base : Nat) (v : Value) (l : List Int) (n : Int) (hs : a.eval s = v) (hown : OwnJ W0 base v l)
    (H : Nat) (hH : W0.heap.size = H) (hx : a.eval x = .slice (some ⟨H, 0, none⟩) 1 1) (hb : base ≤ W0.heap.size) (hn : l.length ≤ 1000000)
    (h : ∀ v' w', OwnJ w' base v' (l ++ [n]) → W0.grownBy w' v.ownBlock → wpList Tryz.prog ops Q rest (a.put o.dst v') w') : wpList Tryz.prog ops Q (o :: rest) a (W0.alloc (.cells #[.int .i64 n] 3)) :=
  wpList_app_one Tryz.infoI Tryz.underlying47 rfl (by decide) cellsI_len cellsI_one (by decide) hgd s x ho base v l n _ rfl hs hown H hH hx hb hn h
/-- H2: may cabin c keep the promise b? -/
def P.elC (s : Vsl) (l : List Bkg) (b : Bkg) (c : Nat) : Bool := decide (P.mine c l = []) && P.elig s b c
def P.edgs (s : Vsl) (l : List Bkg) (i : Nat) (b : Bkg) (n : Nat) : List (Int × Int) := ((List.range n).filter (P.elC s l b)).map fun c => ((i : Int), ((c : Nat) : Int))
def P.pids (l : List Bkg) : List Int := (l.filter P.opn).map fun b => b.id
def P.pedg (s : Vsl) (l : List Bkg) : Nat → List Bkg → List (Int × Int)
  | _, [] => []
  | i, b :: t => if P.opn b = true then P.edgs s l i b s.bs.length ++ P.pedg s l (i + 1) t else P.pedg s l i t

theorem edgs_on (s : Vsl) (l : List Bkg) (i : Nat) (b : Bkg) (n : Nat) : P.edgs s l i b (n + 1) = P.edgs s l i b n ++ (if P.elC s l b n = true then [((i : Int), ((n : Nat) : Int))] else []) := by
  rw [P.edgs, List.range_succ, List.filter_append, List.map_append]
  congr 1
  cases h : P.elC s l b n <;> simp [List.filter_cons, h]
theorem take_snoc' {α : Type} {l : List α} {x : α} {k : Nat} (hk : k < l.length) (hd : l.drop k = x :: l.drop (k + 1)) : l.take (k + 1) = l.take k ++ [x] := by
  have h1 := List.drop_eq_getElem_cons hk
  rw [hd] at h1
  simp only [List.cons.injEq] at h1
  rw [List.take_succ_eq_append_getElem hk, ← h1.1]
theorem pids_len (m : List Bkg) : (P.pids m).length = (m.filter P.opn).length := by simp [P.pids]
end Go.Proofs.YtpjfpgimpgmhcaeGreat.St
