/- The walk of the reference's CheckShip. -/
import Derived.Test.YtnadhpemmehedaaShipP
import Derived.Test.YtnadhpemmehedaaShipQ
namespace Go.Proofs.Ytnadhpemmehedaa
open Go.RowKit
set_option linter.unusedSimpArgs false
set_option linter.unusedVariables false
set_option linter.unnecessarySimpa false

theorem CatsAt.all {w : World} {ao : Option Addr} {cap : Nat} {l : List Cat} (h : CatsAt w ao cap l) (h0 : 0 < l.length) : ∃ b off, ao = some ⟨b, off, none⟩ ∧ ∀ k (hk : k < l.length), ∃ hao hcap, w.cell? ⟨b, off + k * 2, none⟩ = some (.string l[k].1) ∧ w.cell? ⟨b, off + k * 2 + 1, none⟩ = some (.slice hao l[k].2.length hcap) ∧ IntsAt w hao hcap l[k].2 ∧ l[k].1.size ≤ maxLen := by
  obtain ⟨b, off, rfl, _, hc⟩ := h.cells h0
  refine ⟨b, off, rfl, fun k hk => ?_⟩
  obtain ⟨cs, ⟨hao, hcap, e, h1, h2⟩, _, h3⟩ := hc k hk
  subst e
  exact ⟨hao, hcap, by simpa using h3 0 _ rfl, by simpa using h3 1 _ rfl, h1, h2⟩
theorem CabsAt.all {w : World} {ao : Option Addr} {cap : Nat} {l : List Cab} (h : CabsAt w ao cap l) (h0 : 0 < l.length) : ∃ b off, ao = some ⟨b, off, none⟩ ∧ ∀ k (hk : k < l.length), w.cell? ⟨b, off + k * 4, none⟩ = some (.string l[k].1) ∧ w.cell? ⟨b, off + k * 4 + 1, none⟩ = some (.int .i64 l[k].2.1) ∧ w.cell? ⟨b, off + k * 4 + 2, none⟩ = some (.int .i64 l[k].2.2.1) ∧ w.cell? ⟨b, off + k * 4 + 3, none⟩ = some (.bool l[k].2.2.2) ∧ l[k].1.size ≤ maxLen := by
  obtain ⟨b, off, rfl, _, hc⟩ := h.cells h0
  refine ⟨b, off, rfl, fun k hk => ?_⟩
  obtain ⟨cs, ⟨e, h2⟩, _, h3⟩ := hc k hk
  subst e
  exact ⟨by simpa using h3 0 _ rfl, by simpa using h3 1 _ rfl, by simpa using h3 2 _ rfl, by simpa using h3 3 _ rfl, h2⟩

/-- The names ahead of i. -/
def P.names {β : Type} (l : List (ByteArray × β)) (i : Nat) : List ByteArray := (l.take i).map (·.1)
theorem names_succ {β : Type} {l : List (ByteArray × β)} {i : Nat} (hi : i < l.length) : P.names l (i + 1) = P.names l i ++ [l[i].1] := by
  unfold P.names
  rw [List.take_succ_eq_append_getElem hi, List.map_append]
  rfl
theorem names_has {β : Type} {l : List (ByteArray × β)} {i k : Nat} (hi : i ≤ l.length) (hk : k < i) {nm : ByteArray} (h : (l[k]'(by omega)).1 = nm) : P.hasName (P.names l i) nm = true := by
  unfold P.hasName P.names
  rw [List.any_eq_true]
  refine ⟨nm, ?_, by simp⟩
  rw [List.mem_map]
  exact ⟨l[k]'(by omega), by rw [List.mem_take_iff_getElem]; exact ⟨k, by omega, rfl⟩, h⟩
theorem names_not {β : Type} {l : List (ByteArray × β)} {i : Nat} (hi : i ≤ l.length) {nm : ByteArray} (h : ∀ k (hk : k < i), (l[k]'(by omega)).1 ≠ nm) : P.hasName (P.names l i) nm = false := by
  unfold P.hasName P.names
  rw [List.any_eq_false]
  intro x hx
  rw [List.mem_map] at hx
  obtain ⟨y, hy, rfl⟩ := hx
  rw [List.mem_take_iff_getElem] at hy
  obtain ⟨k, hk, rfl⟩ := hy
  simpa using h k (by omega)
theorem ints_has {l : List Int} {i k : Nat} (hi : i ≤ l.length) (hk : k < i) {x : Int} (h : l[k]'(by omega) = x) : P.hasInt (l.take i) x = true := by
  rw [hasInt_mem, List.mem_take_iff_getElem]
  exact ⟨k, by omega, h⟩
theorem ints_not {l : List Int} {i : Nat} (hi : i ≤ l.length) {x : Int} (h : ∀ k (hk : k < i), l[k]'(by omega) ≠ x) : P.hasInt (l.take i) x = false := by
  cases e : P.hasInt (l.take i) x with
  | false => rfl
  | true =>
    rw [hasInt_mem, List.mem_take_iff_getElem] at e
    obtain ⟨k, hk, e⟩ := e
    exact absurd e (h k (by omega))

theorem cats_at {n : Int} {l : List Cat} {i : Nat} (hi : i < l.length) : P.cats n (P.names l i) (l.drop i) = (if P.meetE (P.names l i) l[i].1 = 0 then (if P.high n [] l[i].2 = 0 then P.cats n (P.names l (i + 1)) (l.drop (i + 1)) else P.high n [] l[i].2) else P.meetE (P.names l i) l[i].1) := by
  rw [List.drop_eq_getElem_cons hi, P.cats, names_succ hi]
theorem cabs_at {n : Int} {l : List Cab} {i : Nat} (hi : i < l.length) : P.cabs n (P.names l i) (l.drop i) = (if P.meetE (P.names l i) l[i].1 = 0 then (if (P.btw l[i].2.1 0 (n - 1) && P.btw l[i].2.2.1 1 4) = true then P.cabs n (P.names l (i + 1)) (l.drop (i + 1)) else 3) else P.meetE (P.names l i) l[i].1) := by
  rw [List.drop_eq_getElem_cons hi, P.cabs, names_succ hi]
theorem high_at {n : Int} {l : List Int} {i : Nat} (hi : i < l.length) : P.high n (l.take i) (l.drop i) = (if P.btw l[i] 0 (n - 1) = true then (if P.hasInt (l.take i) l[i] = true then 6 else P.high n (l.take (i + 1)) (l.drop (i + 1))) else 3) := by
  rw [List.drop_eq_getElem_cons hi, P.high, List.take_succ_eq_append_getElem hi]

end Go.Proofs.Ytnadhpemmehedaa
