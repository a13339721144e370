import Derived.Test.YtlamhfbdeinkkaeGreatMaEs
import Derived.Test.YtlamhfbdeinkkaeGreatStBs
import Derived.Test.YtlamhfbdeinkkaeGreatBoDs
import Derived.Deep.RegionHeld3
set_option maxRecDepth 10000
/- Walks of the reference's IsMatching and DoLack, of what is a matching and of what lacks. -/
namespace Go.Proofs.YtlamhfbdeinkkaeGreat.Ma
open Go.RowKit Go.Maps Go.WideMaps
set_option linter.unusedSimpArgs false
set_option linter.unusedVariables false

end Go.Proofs.YtlamhfbdeinkkaeGreat.Ma
/- The walk of the reference's DoLack, of left ones that lack. -/
namespace Go.Proofs.YtlamhfbdeinkkaeGreat.Ma
open Go.RowKit Go.Maps Go.WideMaps
set_option linter.unusedSimpArgs false
set_option linter.unusedVariables false

end Go.Proofs.YtlamhfbdeinkkaeGreat.Ma
/- Walks of pairs, matchBegun; of the laws MatchEither and MatchAlone. -/
namespace Go.Proofs.YtlamhfbdeinkkaeGreat.Ma
open Go.RowKit Go.Maps Go.WideMaps
set_option linter.unusedSimpArgs false
set_option linter.unusedVariables false

def P.pairs : List Edge := [(0, 1), (1, 1), (2, 0), (2, 1)]
end Go.Proofs.YtlamhfbdeinkkaeGreat.Ma
/- The walk of the reference's grow: the same search, over lists. -/
namespace Go.Proofs.YtlamhfbdeinkkaeGreat.Ma
open Go.RowKit Go.Maps Go.WideMaps
set_option linter.unusedSimpArgs false
set_option linter.unusedVariables false

/-- A matching in memory, as the reference has it: G who has each right one (C cells, those behind R are h's), M who was met. -/
structure GSt (w : World) (G M C : Nat) (h : Nat → Value) (R : Nat) (s : Nat → Int) (A : List Int) : Prop where
  owner : w.rowIs G 3 C (fun r => if r < R then .int .i64 (s r) else h r)
  met : w.rowIs M 4 R (fun r => .bool (P.hasInt A r))
  gm : G ≠ M
theorem GSt.cellAt {w : World} {G M C : Nat} {h : Nat → Value} {R : Nat} {s : Nat → Int} {A : List Int} (k : GSt w G M C h R s A) (hC : R ≤ C) {r : Nat} (hr : r < R) : w.cell? ⟨G, r, none⟩ = some (.int .i64 (s r)) := by
  rw [k.owner.cell (by omega), if_pos hr]

end Go.Proofs.YtlamhfbdeinkkaeGreat.Ma
/- The walk of the reference's Size; of the law MatchTells. -/
namespace Go.Proofs.YtlamhfbdeinkkaeGreat.Ma
open Go.RowKit Go.Maps Go.WideMaps
set_option linter.unusedSimpArgs false
set_option linter.unusedVariables false

end Go.Proofs.YtlamhfbdeinkkaeGreat.Ma
namespace Go.Proofs.YtlamhfbdeinkkaeGreat.St
open Go.RowKit Bk
set_option linter.unusedSimpArgs false
set_option linter.unusedVariables false
set_option maxRecDepth 10000

theorem gr_of {n m : Int} {l seen : List (Int × Int)} (h : ∀ x ∈ l, 0 ≤ x.1 ∧ x.1 < n ∧ 0 ≤ x.2 ∧ x.2 < m) (hd : l.Nodup) (hs : ∀ x ∈ l, ¬ x ∈ seen) : Ma.P.gr n m seen l = 0 := by
  induction l generalizing seen with
  | nil => rfl
  | cons y l ih =>
    rw [Ma.P.gr, if_pos (Ma.inE_iff.2 (h y (by simp))), if_neg (fun e => hs y (by simp) ((Ma.hasEdge_iff _ _).1 e))]
    refine ih (fun x hx => h x (by simp [hx])) (List.nodup_cons.1 hd).2 (fun x hx hm => ?_)
    rcases List.mem_append.1 hm with h1 | h1
    · exact hs x (by simp [hx]) h1
    · simp at h1
      subst h1
      exact (List.nodup_cons.1 hd).1 hx
theorem graph_of {n m : Int} {l : List (Int × Int)} (h1 : 0 ≤ n ∧ n ≤ 16) (h2 : 0 ≤ m ∧ m ≤ 16) (h : ∀ x ∈ l, 0 ≤ x.1 ∧ x.1 < n ∧ 0 ≤ x.2 ∧ x.2 < m) (hd : l.Nodup) : Ma.P.graphE n m l = 0 := by
  rw [Ma.P.graphE, if_pos (by simp [P.btw]; omega)]
  exact gr_of h hd (by simp)
theorem edgs_mem {s : Vsl} {l : List Bkg} {i : Nat} {b : Bkg} {n : Nat} {x : Int × Int} (h : x ∈ P.edgs s l i b n) : x.1 = i ∧ 0 ≤ x.2 ∧ x.2 < n := by
  obtain ⟨c, hc, rfl⟩ := List.mem_map.1 h
  have := List.mem_range.1 (List.mem_filter.1 hc).1
  exact ⟨rfl, by simp, by simpa using this⟩
theorem edgs_nodup (s : Vsl) (l : List Bkg) (i : Nat) (b : Bkg) (n : Nat) : (P.edgs s l i b n).Nodup := by
  induction n with
  | zero => simp [P.edgs]
  | succ n ih =>
    rw [edgs_on]
    refine List.nodup_append.2 ⟨ih, by split <;> simp, fun x hx y hy e => ?_⟩
    subst e
    have h1 := edgs_mem hx
    split at hy
    · simp at hy
      rw [hy] at h1
      simp at h1
    · simp at hy
theorem pedg_mem {s : Vsl} {l m : List Bkg} {i : Nat} {x : Int × Int} (h : x ∈ P.pedg s l i m) : (i : Int) ≤ x.1 ∧ x.1 < i + (m.filter P.opn).length ∧ 0 ≤ x.2 ∧ x.2 < s.bs.length := by
  induction m generalizing i with
  | nil => simp [P.pedg] at h
  | cons b t ih =>
    rw [P.pedg] at h
    rw [List.filter_cons]
    split at h
    · rename_i ho
      rw [if_pos ho, List.length_cons]
      rcases List.mem_append.1 h with h1 | h1
      · have := edgs_mem h1
        omega
      · have := ih h1
        omega
    · rename_i ho
      rw [if_neg ho]
      exact ih h
theorem pedg_nodup (s : Vsl) (l m : List Bkg) (i : Nat) : (P.pedg s l i m).Nodup := by
  induction m generalizing i with
  | nil => simp [P.pedg]
  | cons b t ih =>
    rw [P.pedg]
    split
    · refine List.nodup_append.2 ⟨edgs_nodup .., ih _, fun x hx y hy e => ?_⟩
      subst e
      have h1 := edgs_mem hx
      have h2 := pedg_mem hy
      omega
    · exact ih _
theorem pedg_graph {s : Vsl} {l : List Bkg} (h16 : l.length ≤ 16) (h12 : s.bs.length ≤ 12) : Ma.P.graphE ((P.pids l).length : Nat) (s.bs.length : Nat) (P.pedg s l 0 l) = 0 := by
  have hl : (P.pids l).length ≤ 16 := by
    rw [pids_len]
    have := List.length_filter_le P.opn l
    omega
  refine graph_of (by omega) (by omega) (fun x hx => ?_) (pedg_nodup ..)
  have := pedg_mem hx
  rw [pids_len]
  omega

/-- H1: of bookings that are right, together. -/
def P.twice (x : Sail) : Bool := (List.range x.s.bs.length).any fun c => !P.addsB x.s.legs (P.mine (c : Nat) x.bks)
def P.many (x : Sail) : Bool := decide (x.s.souls < P.mst 0 (P.soulsL x.s.legs.toNat x.bks))
def P.Room (x : Sail) (r : Int) : Prop :=
  (P.twice x = true ∧ r = 6) ∨ (P.twice x = false ∧ P.many x = true ∧ r = 8) ∨
  (P.twice x = false ∧ P.many x = false ∧ ∃ c, Ma.MaxM (P.pedg x.s x.bks 0 x.bks) c ∧ r = if c < (P.pids x.bks).length then 9 else 0)
theorem Room.one {x : Sail} {r r' : Int} (h : P.Room x r) (h' : P.Room x r') : r = r' := by
  rcases h with ⟨a, rfl⟩ | ⟨a, b, rfl⟩ | ⟨a, b, c, hc, rfl⟩ <;> rcases h' with ⟨a', rfl⟩ | ⟨a', b', rfl⟩ | ⟨a', b', c', hc', rfl⟩ <;> simp_all
  rw [Ma.MaxM.one hc hc']
theorem twice_hit {x : Sail} {c : Nat} (hc : c < x.s.bs.length) (h : P.addsB x.s.legs (P.mine c x.bks) = false) : P.twice x = true := by
  rw [P.twice, List.any_eq_true]
  exact ⟨c, List.mem_range.2 hc, by simp [h]⟩
theorem twice_none {x : Sail} (h : ∀ c, c < x.s.bs.length → P.addsB x.s.legs (P.mine (c : Nat) x.bks) = true) : P.twice x = false := by
  rw [P.twice, List.any_eq_false]
  intro c hc
  have := h c (List.mem_range.1 hc)
  simp at this
  simp [this]

end Go.Proofs.YtlamhfbdeinkkaeGreat.St
