import Derived.Test.YtlamhfbdeinkkaeGreatMaEr
import Derived.Test.YtlamhfbdeinkkaeGreatStBr
import Derived.Test.YtlamhfbdeinkkaeGreatBoDr
import Derived.Deep.RegionHeld3
import Derived.Test.YtlamhfbdeinkkaeGreatStAr
set_option maxRecDepth 10000
/- Walks of the reference's IsMatching and DoLack, of what is a matching and of what lacks. -/
namespace Go.Proofs.YtlamhfbdeinkkaeGreat.Ma
open Go.RowKit Go.Maps Go.WideMaps
set_option linter.unusedSimpArgs false
set_option linter.unusedVariables false

end Go.Proofs.YtlamhfbdeinkkaeGreat.Ma
/- The walk of the reference's DoLack, of left ones that lack. -/
namespace Go.Proofs.YtlamhfbdeinkkaeGreat.Ma
open Go.RowKit Go.Maps Go.WideMaps
set_option linter.unusedSimpArgs false
set_option linter.unusedVariables false

end Go.Proofs.YtlamhfbdeinkkaeGreat.Ma
/- Walks of pairs, matchBegun; of the laws MatchEither and MatchAlone. -/
namespace Go.Proofs.YtlamhfbdeinkkaeGreat.Ma
open Go.RowKit Go.Maps Go.WideMaps
set_option linter.unusedSimpArgs false
set_option linter.unusedVariables false

def P.pairs : List Edge := [(0, 1), (1, 1), (2, 0), (2, 1)]
end Go.Proofs.YtlamhfbdeinkkaeGreat.Ma
/- The walk of the reference's grow: the same search, over lists. -/
namespace Go.Proofs.YtlamhfbdeinkkaeGreat.Ma
open Go.RowKit Go.Maps Go.WideMaps
set_option linter.unusedSimpArgs false
set_option linter.unusedVariables false

/-- A matching in memory, as the reference has it: G who has each right one (C cells, those behind R are h's), M who was met. -/
structure GSt (w : World) (G M C : Nat) (h : Nat → Value) (R : Nat) (s : Nat → Int) (A : List Int) : Prop where
  owner : w.rowIs G 3 C (fun r => if r < R then .int .i64 (s r) else h r)
  met : w.rowIs M 4 R (fun r => .bool (P.hasInt A r))
  gm : G ≠ M
theorem GSt.cellAt {w : World} {G M C : Nat} {h : Nat → Value} {R : Nat} {s : Nat → Int} {A : List Int} (k : GSt w G M C h R s A) (hC : R ≤ C) {r : Nat} (hr : r < R) : w.cell? ⟨G, r, none⟩ = some (.int .i64 (s r)) := by
  rw [k.owner.cell (by omega), if_pos hr]

end Go.Proofs.YtlamhfbdeinkkaeGreat.Ma
/- The walk of the reference's Size; of the law MatchTells. -/
namespace Go.Proofs.YtlamhfbdeinkkaeGreat.Ma
open Go.RowKit Go.Maps Go.WideMaps
set_option linter.unusedSimpArgs false
set_option linter.unusedVariables false

set_option maxHeartbeats 1000000 in
/-- Of a graph without edges nobody is matched. -/
theorem grow_nil (hv mv : Value) (ao : Option Addr) (cap : Nat) (x : Int) (w : World) :
    Calls Tryz.prog 186 #[.slice ao 0 cap, hv, mv, .int .i64 x] w fun e w' => e = .returned (.bool false) ∧ w' = w := by
  go_enter Tryz.func186, Tryz.ntmps186
  go_wp2
  go_loopg [9] 0 (fun g iv wr => iv = .int .i64 0 ∧ wr = w)
  case atStart => exact ⟨rfl, rfl⟩
  case round =>
    obtain ⟨rfl, rfl⟩ := hrel
    go_wp2
    go_ret
    exact ⟨rfl, rfl⟩

end Go.Proofs.YtlamhfbdeinkkaeGreat.Ma
namespace Go.Proofs.YtlamhfbdeinkkaeGreat.St
open Go.RowKit Bk
set_option linter.unusedSimpArgs false
set_option linter.unusedVariables false
set_option maxRecDepth 10000

theorem gr_of {n m : Int} {l seen : List (Int × Int)} (h : ∀ x ∈ l, 0 ≤ x.1 ∧ x.1 < n ∧ 0 ≤ x.2 ∧ x.2 < m) (hd : l.Nodup) (hs : ∀ x ∈ l, ¬ x ∈ seen) : Ma.P.gr n m seen l = 0 := by
  induction l generalizing seen with
  | nil => rfl
  | cons y l ih =>
    rw [Ma.P.gr, if_pos (Ma.inE_iff.2 (h y (by simp))), if_neg (fun e => hs y (by simp) ((Ma.hasEdge_iff _ _).1 e))]
    refine ih (fun x hx => h x (by simp [hx])) (List.nodup_cons.1 hd).2 (fun x hx hm => ?_)
    rcases List.mem_append.1 hm with h1 | h1
    · exact hs x (by simp [hx]) h1
    · simp at h1
      subst h1
      exact (List.nodup_cons.1 hd).1 hx
theorem graph_of {n m : Int} {l : List (Int × Int)} (h1 : 0 ≤ n ∧ n ≤ 16) (h2 : 0 ≤ m ∧ m ≤ 16) (h : ∀ x ∈ l, 0 ≤ x.1 ∧ x.1 < n ∧ 0 ≤ x.2 ∧ x.2 < m) (hd : l.Nodup) : Ma.P.graphE n m l = 0 := by
  rw [Ma.P.graphE, if_pos (by simp [P.btw]; omega)]
  exact gr_of h hd (by simp)
theorem edgs_mem {s : Vsl} {l : List Bkg} {i : Nat} {b : Bkg} {n : Nat} {x : Int × Int} (h : x ∈ P.edgs s l i b n) : x.1 = i ∧ 0 ≤ x.2 ∧ x.2 < n := by
  obtain ⟨c, hc, rfl⟩ := List.mem_map.1 h
  have := List.mem_range.1 (List.mem_filter.1 hc).1
  exact ⟨rfl, by simp, by simpa using this⟩
theorem edgs_nodup (s : Vsl) (l : List Bkg) (i : Nat) (b : Bkg) (n : Nat) : (P.edgs s l i b n).Nodup := by
  induction n with
  | zero => simp [P.edgs]
  | succ n ih =>
    rw [edgs_on]
    refine List.nodup_append.2 ⟨ih, by split <;> simp, fun x hx y hy e => ?_⟩
    subst e
    have h1 := edgs_mem hx
    split at hy
    · simp at hy
      rw [hy] at h1
      simp at h1
    · simp at hy
theorem pedg_mem {s : Vsl} {l m : List Bkg} {i : Nat} {x : Int × Int} (h : x ∈ P.pedg s l i m) : (i : Int) ≤ x.1 ∧ x.1 < i + (m.filter P.opn).length ∧ 0 ≤ x.2 ∧ x.2 < s.bs.length := by
  induction m generalizing i with
  | nil => simp [P.pedg] at h
  | cons b t ih =>
    rw [P.pedg] at h
    rw [List.filter_cons]
    split at h
    · rename_i ho
      rw [if_pos ho, List.length_cons]
      rcases List.mem_append.1 h with h1 | h1
      · have := edgs_mem h1
        omega
      · have := ih h1
        omega
    · rename_i ho
      rw [if_neg ho]
      exact ih h
theorem pedg_nodup (s : Vsl) (l m : List Bkg) (i : Nat) : (P.pedg s l i m).Nodup := by
  induction m generalizing i with
  | nil => simp [P.pedg]
  | cons b t ih =>
    rw [P.pedg]
    split
    · refine List.nodup_append.2 ⟨edgs_nodup .., ih _, fun x hx y hy e => ?_⟩
      subst e
      have h1 := edgs_mem hx
      have h2 := pedg_mem hy
      omega
    · exact ih _
theorem pedg_graph {s : Vsl} {l : List Bkg} (h16 : l.length ≤ 16) (h12 : s.bs.length ≤ 12) : Ma.P.graphE ((P.pids l).length : Nat) (s.bs.length : Nat) (P.pedg s l 0 l) = 0 := by
  have hl : (P.pids l).length ≤ 16 := by
    rw [pids_len]
    have := List.length_filter_le P.opn l
    omega
  refine graph_of (by omega) (by omega) (fun x hx => ?_) (pedg_nodup ..)
  have := pedg_mem hx
  rw [pids_len]
  omega

/-- H1: of bookings that are right, together. -/
def P.twice (x : Sail) : Bool := (List.range x.s.bs.length).any fun c => !P.addsB x.s.legs (P.mine (c : Nat) x.bks)
def P.many (x : Sail) : Bool := decide (x.s.souls < P.mst 0 (P.soulsL x.s.legs.toNat x.bks))
def P.Room (x : Sail) (r : Int) : Prop :=
  (P.twice x = true ∧ r = 6) ∨ (P.twice x = false ∧ P.many x = true ∧ r = 8) ∨
  (P.twice x = false ∧ P.many x = false ∧ ∃ c, Ma.MaxM (P.pedg x.s x.bks 0 x.bks) c ∧ r = if c < (P.pids x.bks).length then 9 else 0)
theorem Room.one {x : Sail} {r r' : Int} (h : P.Room x r) (h' : P.Room x r') : r = r' := by
  rcases h with ⟨a, rfl⟩ | ⟨a, b, rfl⟩ | ⟨a, b, c, hc, rfl⟩ <;> rcases h' with ⟨a', rfl⟩ | ⟨a', b', rfl⟩ | ⟨a', b', c', hc', rfl⟩ <;> simp_all
  rw [Ma.MaxM.one hc hc']
theorem twice_hit {x : Sail} {c : Nat} (hc : c < x.s.bs.length) (h : P.addsB x.s.legs (P.mine c x.bks) = false) : P.twice x = true := by
  rw [P.twice, List.any_eq_true]
  exact ⟨c, List.mem_range.2 hc, by simp [h]⟩
theorem twice_none {x : Sail} (h : ∀ c, c < x.s.bs.length → P.addsB x.s.legs (P.mine (c : Nat) x.bks) = true) : P.twice x = false := by
  rw [P.twice, List.any_eq_false]
  intro c hc
  have := h c (List.mem_range.1 hc)
  simp at this
  simp [this]

end Go.Proofs.YtlamhfbdeinkkaeGreat.St
namespace Go.Proofs.YtlamhfbdeinkkaeGreat.St
open Go.RowKit Bk
set_option linter.unusedSimpArgs false
set_option linter.unusedVariables false
set_option maxRecDepth 10000

def P.fareS (x : Sail) : Int := Fo.P.fareE x.L x.al x.th x.B x.dn x.s.cs.length x.s.legs
/-- H1, ahead of any booking. -/
def P.frame (x : Sail) : Int :=
  if P.shp x.s = 0 then (if P.fareS x = 0 then (if (P.btw x.day 0 9999 && P.btw x.lvs 0 9999) = true then (if 16 < x.bks.length then 2 else 0) else 3) else P.fareS x) else P.shp x.s
/-- H1, booking by booking. -/
def P.bksI (s : Vsl) : Int → List Bkg → Int
  | _, [] => 0
  | p, b :: t => if P.bkE s b = 0 then (if b.id ≤ p then 4 else P.bksI s b.id t) else P.bkE s b
/-- Is a live promise otherwise than the sailing is closed, or is not? -/
def P.clB (x : Sail) (b : Bkg) : Bool := decide (b.kind = 2) && P.live b && (if x.cl = true then decide (b.cabin < 0) else decide (0 ≤ b.cabin))
/-- H1, ahead of what the bookings are together. -/
def P.pre (x : Sail) : Int := if P.frame x = 0 then (if P.bksI x.s 0 x.bks = 0 then (if x.bks.any (P.clB x) = true then 4 else 0) else P.bksI x.s 0 x.bks) else P.frame x
theorem pre_frame {x : Sail} (h : ¬ P.frame x = 0) : P.pre x = P.frame x := by rw [P.pre, if_neg h]
theorem frame_shp {x : Sail} (h : ¬ P.shp x.s = 0) : P.frame x = P.shp x.s := by rw [P.frame, if_neg h]
theorem frame_fare {x : Sail} (h : P.shp x.s = 0) (h1 : ¬ P.fareS x = 0) : P.frame x = P.fareS x := by rw [P.frame, if_pos h, if_neg h1]
theorem frame_day {x : Sail} (h : P.shp x.s = 0) (h1 : P.fareS x = 0) (h2 : (P.btw x.day 0 9999 && P.btw x.lvs 0 9999) = false) : P.frame x = 3 := by rw [P.frame, if_pos h, if_pos h1, if_neg (by simp [h2])]
theorem frame_many {x : Sail} (h : P.shp x.s = 0) (h1 : P.fareS x = 0) (h2 : (P.btw x.day 0 9999 && P.btw x.lvs 0 9999) = true) (h3 : 16 < x.bks.length) : P.frame x = 2 := by rw [P.frame, if_pos h, if_pos h1, if_pos h2, if_pos h3]
theorem frame_ok {x : Sail} (h : P.shp x.s = 0) (h1 : P.fareS x = 0) (h2 : (P.btw x.day 0 9999 && P.btw x.lvs 0 9999) = true) (h3 : ¬ 16 < x.bks.length) : P.frame x = 0 := by rw [P.frame, if_pos h, if_pos h1, if_pos h2, if_neg h3]
end Go.Proofs.YtlamhfbdeinkkaeGreat.St
namespace Go.Proofs.YtlamhfbdeinkkaeGreat.St
open Go.RowKit Bk
set_option linter.unusedSimpArgs false
set_option linter.unusedVariables false
set_option maxRecDepth 10000

/-- H1. -/
def P.SailE (x : Sail) (r : Int) : Prop := (¬ P.pre x = 0 ∧ r = P.pre x) ∨ (P.pre x = 0 ∧ ∃ q, P.Room x q ∧ r = if q = 8 then 2 else q)
theorem SailE.one {x : Sail} {r r' : Int} (h : P.SailE x r) (h' : P.SailE x r') : r = r' := by
  rcases h with ⟨a, rfl⟩ | ⟨a, q, hq, rfl⟩ <;> rcases h' with ⟨a', rfl⟩ | ⟨a', q', hq', rfl⟩
  · rfl
  · exact absurd a' a
  · exact absurd a a'
  · rw [Room.one hq hq']
theorem frame_zero {x : Sail} (h : P.frame x = 0) : P.shp x.s = 0 ∧ P.fareS x = 0 ∧ P.btw x.day 0 9999 = true ∧ P.btw x.lvs 0 9999 = true ∧ x.bks.length ≤ 16 := by
  unfold P.frame at h
  split at h
  · split at h
    · split at h
      · rename_i h1 h2 h3
        obtain ⟨h4, h5⟩ := Bool.and_eq_true_iff.1 h3
        split at h
        · omega
        · exact ⟨h1, h2, h4, h5, by omega⟩
      · omega
    · contradiction
  · contradiction
theorem pre_bks {x : Sail} (h : P.frame x = 0) (h1 : ¬ P.bksI x.s 0 x.bks = 0) : P.pre x = P.bksI x.s 0 x.bks := by rw [P.pre, if_pos h, if_neg h1]
theorem pre_cl {x : Sail} (h : P.frame x = 0) (h1 : P.bksI x.s 0 x.bks = 0) (h2 : x.bks.any (P.clB x) = true) : P.pre x = 4 := by rw [P.pre, if_pos h, if_pos h1, if_pos h2]
theorem pre_ok {x : Sail} (h : P.frame x = 0) (h1 : P.bksI x.s 0 x.bks = 0) (h2 : x.bks.any (P.clB x) = false) : P.pre x = 0 := by rw [P.pre, if_pos h, if_pos h1, if_neg (by simp [h2])]
theorem bksI_ok {s : Vsl} {p : Int} {l : List Bkg} (h : P.bksI s p l = 0) : ∀ b ∈ l, P.bkE s b = 0 := by
  induction l generalizing p with
  | nil => simp
  | cons b t ih =>
    rw [P.bksI] at h
    split at h
    · rename_i hb
      split at h
      · omega
      · intro y hy
        rcases List.mem_cons.1 hy with rfl | hy
        · exact hb
        · exact ih h y hy
    · contradiction
theorem bksI_bad {s : Vsl} {p : Int} {y : Bkg} {t : List Bkg} (h : ¬ P.bkE s y = 0) : P.bksI s p (y :: t) = P.bkE s y := by rw [P.bksI, if_neg h]
theorem bksI_low {s : Vsl} {p : Int} {y : Bkg} {t : List Bkg} (h : P.bkE s y = 0) (hp : y.id ≤ p) : P.bksI s p (y :: t) = 4 := by rw [P.bksI, if_pos h, if_pos hp]
theorem bksI_on {s : Vsl} {p : Int} {y : Bkg} {t : List Bkg} (h : P.bkE s y = 0) (hp : ¬ y.id ≤ p) : P.bksI s p (y :: t) = P.bksI s y.id t := by rw [P.bksI, if_pos h, if_neg hp]

end Go.Proofs.YtlamhfbdeinkkaeGreat.St
namespace Go.Proofs.YtlamhfbdeinkkaeGreat.St
open Go.RowKit Bk
set_option linter.unusedSimpArgs false
set_option linter.unusedVariables false
set_option maxRecDepth 10000

end Go.Proofs.YtlamhfbdeinkkaeGreat.St
