/- Walks of the reference on requests: namesOf, valueOf, numberBytes. -/
import Derived.Test.YtfiaeokdcbmedafDoorCdE
import Derived.Deep.RegionWith
import Derived.Laws.Concat
namespace Go.Proofs.YtfiaeokdcbmedafDoor
open Go.RowKit
set_option linter.unusedSimpArgs false
set_option linter.unusedVariables false

/-- The letter of a part. -/
def P.letter : Nat → UInt8
  | 0 => 105
  | 1 => 103
  | 2 => 99
  | 3 => 107
  | 4 => 102
  | 5 => 116
  | 6 => 108
  | 7 => 117
  | _ => 97
theorem letter_inj {p q : Nat} (hp : p < 9) (hq : q < 9) (h : P.letter p = P.letter q) : p = q := by
  have : ∀ p q : Fin 9, P.letter p = P.letter q → p = q := by decide
  have := this ⟨p, hp⟩ ⟨q, hq⟩ h
  simpa using this

set_option maxHeartbeats 2000000 in
theorem namesOf_any (k : Int) (w : World) : Calls Tryd.prog 16 #[.int .i64 k] w fun e w' => e = .returned (.string ⟨((P.names k).map P.letter).toArray⟩) ∧ w = w' := by
  by_cases h1 : k = 1
  · subst h1
    go_enter Tryd.func16, Tryd.ntmps16
    go_wp2
    go_ret
    exact ⟨rfl, rfl⟩
  have k1 : (k == 1) = false := by simpa using h1
  by_cases h2 : k = 2
  · subst h2
    go_enter Tryd.func16, Tryd.ntmps16
    go_wp2
    go_ret
    exact ⟨rfl, rfl⟩
  have k2 : (k == 2) = false := by simpa using h2
  by_cases h3 : k = 3
  · subst h3
    go_enter Tryd.func16, Tryd.ntmps16
    go_wp2
    go_ret
    exact ⟨rfl, rfl⟩
  have k3 : (k == 3) = false := by simpa using h3
  by_cases h5 : k = 5
  · subst h5
    go_enter Tryd.func16, Tryd.ntmps16
    go_wp2
    go_ret
    exact ⟨rfl, rfl⟩
  have k5 : (k == 5) = false := by simpa using h5
  by_cases h4 : k = 4
  · subst h4
    go_enter Tryd.func16, Tryd.ntmps16
    go_wp2
    go_ret
    exact ⟨rfl, rfl⟩
  have k4 : (k == 4) = false := by simpa using h4
  by_cases h6 : k = 6
  · subst h6
    go_enter Tryd.func16, Tryd.ntmps16
    go_wp2
    go_ret
    exact ⟨rfl, rfl⟩
  have k6 : (k == 6) = false := by simpa using h6
  by_cases h7 : k = 7
  · subst h7
    go_enter Tryd.func16, Tryd.ntmps16
    go_wp2
    go_ret
    exact ⟨rfl, rfl⟩
  have k7 : (k == 7) = false := by simpa using h7
  have e : P.names k = [] := by simp [P.names, h1, h2, h3, h4, h5, h6, h7]
  rw [e]
  clear e h1 h2 h3 h4 h5 h6 h7
  go_enter Tryd.func16, Tryd.ntmps16
  go_wp2
  go_ret
  exact ⟨rfl, rfl⟩

set_option maxHeartbeats 4000000 in
theorem valueOf_any (a : Ask) (p : Nat) (w : World) (hp : p < 9) : Calls Tryd.prog 17 #[V.ask a, .int .u8 ((P.letter p).toNat : Int)] w fun e w' => e = .returned (.tuple #[.int .i64 (P.num a p), .int .i64 (P.size p), .int .i64 (P.mostOf p)]) ∧ Below w.heap.size w w' := by
  match p, hp with
  | 0, _ =>
    have hl : ((P.letter 0).toNat : Int) = 105 := rfl
    rw [hl]
    go_enter Tryd.func17, Tryd.ntmps17
    go_wp2
    go_ret3
    exact ⟨rfl, by go_grown⟩
  | 1, _ =>
    have hl : ((P.letter 1).toNat : Int) = 103 := rfl
    rw [hl]
    go_enter Tryd.func17, Tryd.ntmps17
    go_wp2
    go_ret3
    exact ⟨rfl, by go_grown⟩
  | 2, _ =>
    have hl : ((P.letter 2).toNat : Int) = 99 := rfl
    rw [hl]
    go_enter Tryd.func17, Tryd.ntmps17
    go_wp2
    go_ret3
    exact ⟨rfl, by go_grown⟩
  | 3, _ =>
    have hl : ((P.letter 3).toNat : Int) = 107 := rfl
    rw [hl]
    go_enter Tryd.func17, Tryd.ntmps17
    go_wp2
    go_ret3
    exact ⟨rfl, by go_grown⟩
  | 4, _ =>
    have hl : ((P.letter 4).toNat : Int) = 102 := rfl
    rw [hl]
    go_enter Tryd.func17, Tryd.ntmps17
    go_wp2
    go_ret3
    exact ⟨rfl, by go_grown⟩
  | 5, _ =>
    have hl : ((P.letter 5).toNat : Int) = 116 := rfl
    rw [hl]
    go_enter Tryd.func17, Tryd.ntmps17
    go_wp2
    go_ret3
    exact ⟨rfl, by go_grown⟩
  | 6, _ =>
    have hl : ((P.letter 6).toNat : Int) = 108 := rfl
    rw [hl]
    obtain ⟨a0, a1, a2, a3, a4, a5, a6, a7, a8, a9, a10⟩ := a
    cases a4
    all_goals
      go_enter Tryd.func17, Tryd.ntmps17
      go_wp2
      go_ret3
      exact ⟨rfl, by go_grown⟩
  | 7, _ =>
    have hl : ((P.letter 7).toNat : Int) = 117 := rfl
    rw [hl]
    go_enter Tryd.func17, Tryd.ntmps17
    go_wp2
    go_ret3
    exact ⟨rfl, by go_grown⟩
  | 8, _ =>
    have hl : ((P.letter 8).toNat : Int) = 97 := rfl
    rw [hl]
    go_enter Tryd.func17, Tryd.ntmps17
    go_wp2
    go_ret3
    exact ⟨rfl, by go_grown⟩


theorem alB' (w : World) (o : Obj) : Below w.heap.size w (w.alloc o) := by go_grown
theorem alc (w : World) (v : Value) : ((w.alloc (.cells #[v] 5)).drew).cell? ⟨w.heap.size, 0, none⟩ = some v := by simp
/-- 'string([]byte{y})'. -/
theorem conv1 (y : UInt8) (w : World) (b : Nat) (h : w.cell? ⟨b, 0, none⟩ = some (.int .u8 (y.toNat : Int))) : (convert 54 9 (.slice (some ⟨b, 0, none⟩) 1 1)).run Tryd.prog w = .ok (.string ⟨[y].toArray⟩) w := by
  refine Lib.run_convert_whole w _ 5 _ Tryd.underlying54 Tryd.underlying5 Tryd.underlying9 b 0 ⟨[y].toArray⟩ (fun i hi => ?_) 1
  have hi' : i < 1 := by simpa [ByteArray.size] using hi
  obtain rfl : i = 0 := by omega
  rw [Nat.zero_add, h]
  simp [ByteArray.getElem_eq_getElem_data]
theorem byte_mod (n : Int) : IntKind.u8.wrap (n % 256) = ((P.byte n).toNat : Int) := by
  rw [byte_wrap, P.byte, P.byte, Int.emod_emod_of_dvd _ (by decide)]
theorem cat_bytes (a b : List UInt8) : (ByteArray.mk a.toArray) ++ (ByteArray.mk b.toArray) = ⟨(a ++ b).toArray⟩ := by
  apply ByteArray.ext
  simp

theorem tmod_byte {n : Int} (h : 0 ≤ n) : n.tmod 256 = n % 256 := Int.tmod_eq_emod_of_nonneg h
theorem tdiv_byte {n : Int} (h : 0 ≤ n) : n.tdiv 256 = n / 256 := Int.tdiv_eq_ediv_of_nonneg h

set_option maxHeartbeats 2000000 in
theorem numberBytes_any (m : Nat) : ∀ (n : Int) (w : World), m ≤ 4 → 0 ≤ n → n < 9223372036854775808 → Calls Tryd.prog 18 #[.int .i64 n, .int .i64 m] w fun e w' => e = .returned (.string ⟨(P.be n m).toArray⟩) ∧ Below w.heap.size w w' := by
  induction m with
  | zero =>
    intro n w _ _ _
    go_enter Tryd.func18, Tryd.ntmps18
    go_wp2
    go_ret
    exact ⟨rfl, Below.refl _ _⟩
  | succ m ih =>
    intro n w hm h0 h1
    have e1 := tmod_byte h0
    have e2 := tdiv_byte h0
    have e3 : IntKind.i64.wrap (n / 256) = n / 256 := by have := wrap_small (n / 256).toNat (by omega); rwa [Int.toNat_of_nonneg (by omega)] at this
    have e4 : IntKind.i64.wrap (m : Int) = m := wrap_small m (by omega)
    have e5 := byte_mod n
    have c0 := conv1 (P.byte n) ((w.alloc (.cells #[.int .u8 ((P.byte n).toNat : Int)] 5)).drew) w.heap.size (by go_simp)
    have hadd := fun wx : World => run_string_add_sum (P := Tryd.prog) (w := wx) ⟨(P.be (n / 256) m).toArray⟩ ⟨[P.byte n].toArray⟩ (by simp [ByteArray.size, be_len]; omega)
    rw [cat_bytes] at hadd
    have hne : (((m + 1 : Nat) : Int) == 0) = false := by simp; omega
    go_enter Tryd.func18, Tryd.ntmps18
    go_wp2
    go_region_with
      (first
        | (go_at_call 18; refine (ih (n / 256) _ (by omega) (by omega) (by omega)).mono ?_; rintro e w3 ⟨rfl, hb3⟩; have c2 := conv1 (P.byte n) (w3.alloc (.cells #[.int .u8 ((P.byte n).toNat : Int)] 5)) w3.heap.size (by go_simp); (first | (have c1 := conv1 (P.byte n) w3 w.heap.size (by with_reducible exact cellIn hb3 (alc _ _))) | skip)))
    all_goals
      go_wp2
      go_ret
      first
        | exact ⟨rfl, bvia (drB _) (bvia hb3 (alB' _ _))⟩
        | exact ⟨rfl, bvia (bvia (alB' _ _) (drB _)) hb3⟩

end Go.Proofs.YtfiaeokdcbmedafDoor
