import Derived.Test.YtlamhfbdeinkkaeGreatBaAt
import Derived.Deep.LoopGhost
import Derived.WalkSmall
import Derived.Lib.QuietBelow
import Derived.RangeFuncNested
import Derived.RangeFuncBound
import Derived.RangeFuncCalls
import Derived.RangeFuncLeaves
import Derived.Shelf.Abstract
import Derived.Shelf.RegionOpen
import Derived.OwnWalkIn
import Derived.TacticsInMore
import Derived.LoopNIn
import Derived.LoopIn
set_option maxRecDepth 10000
/- Walks of the leaves of fares: within, isPart, part, PartOf, span.Check, CheckSpan. -/
namespace Go.Proofs.YtlamhfbdeinkkaeGreat.Fo
open Go.RowKit
set_option linter.unusedSimpArgs false
set_option linter.unusedVariables false

set_option maxHeartbeats 400000 in
theorem check_any (f t n : Int) (w : World) :
    Calls Tryz.prog 58 #[.agg #[.int .i64 f, .int .i64 t], .int .i64 n] w fun e w' => e = .returned (.int .i64 (P.chk f t n)) ∧ Below w.heap.size w w' := by
  cases hs : P.sails n <;> by_cases h1 : f < 0 <;> by_cases h2 : n < t <;> by_cases h3 : t ≤ f
  all_goals
    go_enter Tryz.func58, Tryz.ntmps58
    go_wp2_with (go_at_call 114; refine (sails_any _ _).mono ?_; rintro e w' ⟨rfl, rfl⟩; rw [hs])
    go_ret
    refine ⟨by simp [P.chk, hs, h1, h2, h3] <;> (repeat' split) <;> first | rfl | omega, ?_⟩
    go_grown

set_option maxHeartbeats 400000 in
theorem checkSpan_any (f t n : Int) (w : World) :
    Calls Tryz.prog 127 #[.agg #[.int .i64 f, .int .i64 t], .int .i64 n] w fun e w' => e = .returned (.int .i64 (P.chk f t n)) ∧ Below w.heap.size w w' := by
  cases hs : P.sails n <;> by_cases h1 : f < 0 <;> by_cases h2 : n < t <;> by_cases h3 : t ≤ f
  all_goals
    go_enter Tryz.func127, Tryz.ntmps127
    go_wp2_with (go_at_call 74; refine (between17_any _ _).mono ?_; rintro e w' ⟨rfl, rfl⟩; rw [hs])
    go_ret
    refine ⟨by simp [P.chk, hs, h1, h2, h3] <;> (repeat' split) <;> first | rfl | omega, ?_⟩
    go_grown

theorem chk_zero {f t n : Int} (h : P.chk f t n = 0) : 0 ≤ f ∧ f < t ∧ t ≤ n ∧ n ≤ 7 ∧ 1 ≤ n ∧ P.sails n = true := by
  unfold P.chk at h
  split at h
  · omega
  · split at h
    · omega
    · rename_i h1 h2
      have hs : P.sails n = true := by cases hh : P.sails n <;> simp_all
      have hs2 := hs
      simp [P.sails] at hs2
      exact ⟨by omega, by omega, by omega, hs2.2, hs2.1, hs⟩

set_option maxHeartbeats 400000 in
theorem within_any (n a b : Int) (w : World) :
    Calls Tryz.prog 168 #[.int .i64 n, .int .i64 a, .int .i64 b] w fun e w' => e = .returned (.bool (P.btw n a b)) ∧ w = w' := by
  by_cases h1 : a ≤ n <;> by_cases h2 : n ≤ b
  all_goals
    go_enter Tryz.func168, Tryz.ntmps168
    go_wp2
    go_ret
    simp [P.btw, h1, h2]

set_option maxHeartbeats 400000 in
theorem isPart_any (n : Int) (w : World) :
    Calls Tryz.prog 170 #[.int .i64 n] w fun e w' => e = .returned (.bool (P.btw n 0 100)) ∧ w = w' := by
  go_enter Tryz.func170, Tryz.ntmps170
  go_wp2_with (go_at_call 168; refine (within_any _ _ _ _).mono ?_; rintro e w1 ⟨rfl, rfl⟩)
  go_ret
  simp

def P.part (a h : Int) : Int := (a * h + 50) / 100

set_option maxHeartbeats 400000 in
theorem part_any (a h : Int) (w : World) (h0 : 0 ≤ a * h) (h1 : a * h ≤ 1000000000000) :
    Calls Tryz.prog 183 #[.int .i64 a, .int .i64 h] w fun e w' => e = .returned (.int .i64 (P.part a h)) ∧ w = w' := by
  go_enter Tryz.func183, Tryz.ntmps183
  go_wp2
  go_ret
  simp [P.part]

set_option maxHeartbeats 400000 in
theorem partOf_any (a h : Int) (w : World) (h0 : 0 ≤ a * h) (h1 : a * h ≤ 1000000000000) :
    Calls Tryz.prog 187 #[.int .i64 a, .int .i64 h] w fun e w' => e = .returned (.int .i64 (P.part a h)) ∧ w = w' := by
  go_enter Tryz.func187, Tryz.ntmps187
  go_wp2
  all_goals
    go_ret
    simp [P.part]
    omega

end Go.Proofs.YtlamhfbdeinkkaeGreat.Fo
/- How fares lie in memory; walks of IndexFunc, ContainsFunc over numbers, over lists of numbers, over bands; checkLegs. -/
namespace Go.Proofs.YtlamhfbdeinkkaeGreat.Fo
open Go.RowKit
set_option linter.unusedSimpArgs false
set_option linter.unusedVariables false

/-- A list of numbers, as an element. -/
def RRow (w : World) (l : List Int) (cs : List Value) : Prop := ∃ ao cap, cs = [.slice ao l.length cap] ∧ IntsAt w ao cap l
theorem RRow.mono : Mono RRow := fun _ _ _ _ hb ⟨ao, cap, h, hi⟩ => ⟨ao, cap, h, SlAt.below RInt.mono hi hb⟩
abbrev RowsAt (w : World) (ao : Option Addr) (cap : Nat) (l : List (List Int)) : Prop := SlAt RRow 1 w ao cap l
/-- A pair of numbers, as an element. -/
def RPair (_ : World) (x : Int × Int) (cs : List Value) : Prop := cs = [.int .i64 x.1, .int .i64 x.2]
theorem RPair.mono : Mono RPair := fun _ _ _ _ _ h => h
abbrev PairsAt (w : World) (ao : Option Addr) (cap : Nat) (l : List (Int × Int)) : Prop := SlAt RPair 2 w ao cap l

theorem RowsAt.get {w w' : World} {ao : Option Addr} {cap : Nat} {l : List (List Int)} (h : RowsAt w ao cap l) (hb : Below w.heap.size w w') (k : Nat) (hk : k < l.length) :
    ∃ b off r ro rc, ao = some ⟨b, off, none⟩ ∧ b < w.heap.size ∧ l.drop k = r :: l.drop (k + 1) ∧ w'.cell? ⟨b, off + k, none⟩ = some (.slice ro r.length rc) ∧ IntsAt w' ro rc r := by
  obtain ⟨b, off, x, cs, h1, h2, h3, h4, h5, h6⟩ := SlAt.get RRow.mono h hb k hk
  obtain ⟨ro, rc, rfl, hr⟩ := h4
  exact ⟨b, off, x, ro, rc, h1, h2, h3, by simpa using h6 0 _ rfl, hr⟩

theorem PairsAt.get {w w' : World} {ao : Option Addr} {cap : Nat} {l : List (Int × Int)} (h : PairsAt w ao cap l) (hb : Below w.heap.size w w') (k : Nat) (hk : k < l.length) :
    ∃ b off x y, ao = some ⟨b, off, none⟩ ∧ b < w.heap.size ∧ l.drop k = (x, y) :: l.drop (k + 1) ∧ w'.cell? ⟨b, off + k * 2, none⟩ = some (.int .i64 x) ∧ w'.cell? ⟨b, off + k * 2 + 1, none⟩ = some (.int .i64 y) := by
  obtain ⟨b, off, ⟨x, y⟩, cs, h1, h2, h3, h4, h5, h6⟩ := SlAt.get RPair.mono h hb k hk
  subst h4
  exact ⟨b, off, x, y, h1, h2, h3, by simpa using h6 0 _ rfl, by simpa using h6 1 _ rfl⟩

section
variable {α : Type} {l : List α} {p : α → Bool} {k : Nat} {x : α}
theorem getA (hk : k < l.length) (hD : l.drop k = x :: l.drop (k + 1)) : l[k] = x := by
  have := List.drop_eq_getElem_cons hk
  rw [hD] at this
  simp only [List.cons.injEq] at this
  exact this.1.symm
theorem memA (hk : k < l.length) (hD : l.drop k = x :: l.drop (k + 1)) : x ∈ l := by rw [← getA hk hD]; exact List.getElem_mem hk
theorem any_hit (hk : k < l.length) (hD : l.drop k = x :: l.drop (k + 1)) (h : p x = true) : l.any p = true := by
  rw [List.any_eq_true]
  exact ⟨x, memA hk hD, h⟩
theorem any_on (hP : (l.drop k).any p = l.any p) (hD : l.drop k = x :: l.drop (k + 1)) (h : p x = false) : (l.drop (k + 1)).any p = l.any p := by
  rw [hD, List.any_cons, h, Bool.false_or] at hP
  exact hP
theorem any_none (hP : (l.drop l.length).any p = l.any p) : l.any p = false := by
  rw [List.drop_of_length_le (Nat.le_refl _)] at hP
  simpa using hP.symm
end

set_option maxHeartbeats 1000000 in
/-- 'IndexFunc' of numbers, with whatever function literal that answers p: it is below 0 just if there is none. -/
theorem indexFunc_any (ao : Option Addr) (cap : Nat) (l : List Int) (F : Nat) (cs : Array Value) (p : Int → Bool) (w : World) (hl : IntsAt w ao cap l)
    (hcf : ∀ (args : Array Value) (wx : World), (callFunc F args).run Tryz.prog wx = .ok (.enter F args) wx)
    (hp : Hid (∀ (x : Int) (wx : World), x ∈ l → Below w.heap.size w wx → Calls Tryz.prog F (#[.int .i64 x] ++ cs) wx fun e w' => e = .returned (.bool (p x)) ∧ Below wx.heap.size wx w')) :
    Calls Tryz.prog 174 #[.slice ao l.length cap, .func (.func F) #[] cs] w fun e w' => ∃ n : Int, e = .returned (.int .i64 n) ∧ decide (0 ≤ n) = l.any p ∧ Below w.heap.size w w' := by
  have hle := hl.le
  have hmx := hl.max
  unfold maxLen at hmx
  go_enter Tryz.func174, Tryz.ntmps174
  go_wp2
  go_loopg [8] l.length (fun g i wr => ∃ (k : Nat), k ≤ l.length ∧ g = l.length - k ∧ i = .int .i64 k ∧ (l.drop k).any p = l.any p ∧ Below w.heap.size w wr)
  case atStart => exact ⟨0, Nat.zero_le _, rfl, rfl, rfl, Below.refl _ _⟩
  case round =>
    obtain ⟨k, hk, rfl, rfl, hP, hB⟩ := hrel
    have HP : Aside ((l.drop k).any p = l.any p) := hP
    clear hP
    by_cases hlt : k < l.length
    · obtain ⟨b, off, x, rfl, hbw, hd, hc0⟩ := hl.get hB k hlt
      have HD : Aside (l.drop k = x :: l.drop (k + 1)) := hd
      have hx : x ∈ l := memA hlt hd
      clear hd
      cases hpf : p x
      · go_wp2_with fail
        refine (hp.out x _ hx hB).mono ?_
        rintro e w1 ⟨rfl, hb1⟩
        rw [hpf]
        go_wp2
        go_roundg (l.length - (k + 1))
        case measure => omega
        case rel => exact ⟨k + 1, by omega, rfl, by go_num, any_on HP.out HD.out hpf, bvia hB hb1⟩
      · go_wp2_with fail
        refine (hp.out x _ hx hB).mono ?_
        rintro e w1 ⟨rfl, hb1⟩
        rw [hpf]
        go_wp2
        go_ret
        exact ⟨_, rfl, by rw [any_hit hlt HD.out hpf, decide_eq_true_iff]; omega, bvia hB hb1⟩
    · obtain rfl : k = l.length := by omega
      go_wp2
      go_ret
      exact ⟨_, rfl, by rw [any_none HP.out]; rfl, hB⟩

set_option maxHeartbeats 1000000 in
theorem containsFunc_any (ao : Option Addr) (cap : Nat) (l : List Int) (F : Nat) (cs : Array Value) (p : Int → Bool) (w : World) (hl : IntsAt w ao cap l)
    (hcf : ∀ (args : Array Value) (wx : World), (callFunc F args).run Tryz.prog wx = .ok (.enter F args) wx)
    (hp : Hid (∀ (x : Int) (wx : World), x ∈ l → Below w.heap.size w wx → Calls Tryz.prog F (#[.int .i64 x] ++ cs) wx fun e w' => e = .returned (.bool (p x)) ∧ Below wx.heap.size wx w')) :
    Calls Tryz.prog 111 #[.slice ao l.length cap, .func (.func F) #[] cs] w fun e w' => e = .returned (.bool (l.any p)) ∧ Below w.heap.size w w' := by
  go_enter Tryz.func111, Tryz.ntmps111
  go_wp2_with fail
  refine (indexFunc_any ao cap l F cs p w hl hcf hp).mono ?_
  rintro e w1 ⟨n, rfl, hn, hb1⟩
  have HN : Aside (decide (0 ≤ n) = l.any p) := hn
  clear hn
  go_wp2
  go_ret
  exact ⟨ret_bool (by rw [← HN.out]), hb1⟩

set_option maxHeartbeats 1000000 in
/-- 'IndexFunc' of lists of numbers. -/
theorem indexRows_any (ao : Option Addr) (cap : Nat) (l : List (List Int)) (F : Nat) (cs : Array Value) (p : List Int → Bool) (w : World) (hl : RowsAt w ao cap l)
    (hcf : ∀ (args : Array Value) (wx : World), (callFunc F args).run Tryz.prog wx = .ok (.enter F args) wx)
    (hp : Hid (∀ (r : List Int) (ro : Option Addr) (rc : Nat) (wx : World), IntsAt wx ro rc r → Below w.heap.size w wx → Calls Tryz.prog F (#[.slice ro r.length rc] ++ cs) wx fun e w' => e = .returned (.bool (p r)) ∧ Below wx.heap.size wx w')) :
    Calls Tryz.prog 242 #[.slice ao l.length cap, .func (.func F) #[] cs] w fun e w' => ∃ n : Int, e = .returned (.int .i64 n) ∧ decide (0 ≤ n) = l.any p ∧ Below w.heap.size w w' := by
  have hle := hl.le
  have hmx := hl.max
  unfold maxLen at hmx
  go_enter Tryz.func242, Tryz.ntmps242
  go_wp2
  go_loopg [8] l.length (fun g i wr => ∃ (k : Nat), k ≤ l.length ∧ g = l.length - k ∧ i = .int .i64 k ∧ (l.drop k).any p = l.any p ∧ Below w.heap.size w wr)
  case atStart => exact ⟨0, Nat.zero_le _, rfl, rfl, rfl, Below.refl _ _⟩
  case round =>
    obtain ⟨k, hk, rfl, rfl, hP, hB⟩ := hrel
    have HP : Aside ((l.drop k).any p = l.any p) := hP
    clear hP
    by_cases hlt : k < l.length
    · obtain ⟨b, off, x, ro, rc, rfl, hbw, hd, hc0, hr⟩ := RowsAt.get hl hB k hlt
      have HD : Aside (l.drop k = x :: l.drop (k + 1)) := hd
      have HR : Aside (IntsAt wr ro rc x) := hr
      clear hd hr
      cases hpf : p x
      · go_wp2_with fail
        refine (hp.out x _ _ _ HR.out hB).mono ?_
        rintro e w1 ⟨rfl, hb1⟩
        rw [hpf]
        go_wp2
        go_roundg (l.length - (k + 1))
        case measure => omega
        case rel => exact ⟨k + 1, by omega, rfl, by go_num, any_on HP.out HD.out hpf, bvia hB hb1⟩
      · go_wp2_with fail
        refine (hp.out x _ _ _ HR.out hB).mono ?_
        rintro e w1 ⟨rfl, hb1⟩
        rw [hpf]
        go_wp2
        go_ret
        exact ⟨_, rfl, by rw [any_hit hlt HD.out hpf, decide_eq_true_iff]; omega, bvia hB hb1⟩
    · obtain rfl : k = l.length := by omega
      go_wp2
      go_ret
      exact ⟨_, rfl, by rw [any_none HP.out]; rfl, hB⟩

set_option maxHeartbeats 1000000 in
theorem containsRows_any (ao : Option Addr) (cap : Nat) (l : List (List Int)) (F : Nat) (cs : Array Value) (p : List Int → Bool) (w : World) (hl : RowsAt w ao cap l)
    (hcf : ∀ (args : Array Value) (wx : World), (callFunc F args).run Tryz.prog wx = .ok (.enter F args) wx)
    (hp : Hid (∀ (r : List Int) (ro : Option Addr) (rc : Nat) (wx : World), IntsAt wx ro rc r → Below w.heap.size w wx → Calls Tryz.prog F (#[.slice ro r.length rc] ++ cs) wx fun e w' => e = .returned (.bool (p r)) ∧ Below wx.heap.size wx w')) :
    Calls Tryz.prog 215 #[.slice ao l.length cap, .func (.func F) #[] cs] w fun e w' => e = .returned (.bool (l.any p)) ∧ Below w.heap.size w w' := by
  go_enter Tryz.func215, Tryz.ntmps215
  go_wp2_with fail
  refine (indexRows_any ao cap l F cs p w hl hcf hp).mono ?_
  rintro e w1 ⟨n, rfl, hn, hb1⟩
  have HN : Aside (decide (0 ≤ n) = l.any p) := hn
  clear hn
  go_wp2
  go_ret
  exact ⟨ret_bool (by rw [← HN.out]), hb1⟩

theorem arr1 (a : Value) : (#[a] ++ #[] : Array Value) = #[a] := rfl
theorem arr2 (a b : Value) : (#[a] ++ #[b] : Array Value) = #[a, b] := rfl

set_option maxHeartbeats 400000 in
theorem legs1_any (ro : Option Addr) (rc : Nat) (r : List Int) (n : Int) (g : Nat) (w : World) (h : IntsAt w ro rc r) (h0 : w.cell? ⟨g, 0, none⟩ = some (.int .i64 n)) :
    Calls Tryz.prog 216 #[.slice ro r.length rc, .pointer (some ⟨g, 0, none⟩)] w fun e w' => e = .returned (.bool (decide ((r.length : Int) ≠ n))) ∧ Below w.heap.size w w' := by
  have hle := h.le
  have hmx := h.max
  unfold maxLen at hmx
  go_enter Tryz.func216, Tryz.ntmps216
  go_wp2
  go_ret
  exact ⟨ret_bool (by by_cases e : (r.length : Int) = n <;> simp [e]), Below.refl _ _⟩

set_option maxHeartbeats 400000 in
theorem legs2_any (n : Int) (w : World) :
    Calls Tryz.prog 217 #[.int .i64 n] w fun e w' => e = .returned (.bool (!P.btw n 0 100000)) ∧ Below w.heap.size w w' := by
  go_enter Tryz.func217, Tryz.ntmps217
  go_wp2_with (go_at_call 168; refine (within_any _ _ _ _).mono ?_; rintro e w1 ⟨rfl, rfl⟩)
  go_ret
  exact ⟨rfl, Below.refl _ _⟩

def P.badRow (r : List Int) : Bool := r.any (fun n => !P.btw n 0 100000)

set_option maxHeartbeats 400000 in
theorem legs3_any (ro : Option Addr) (rc : Nat) (r : List Int) (g : Nat) (w : World) (h : IntsAt w ro rc r) (h0 : w.cell? ⟨g, 0, none⟩ = some (.func (.func 217) #[] #[])) :
    Calls Tryz.prog 218 #[.slice ro r.length rc, .pointer (some ⟨g, 0, none⟩)] w fun e w' => e = .returned (.bool (P.badRow r)) ∧ Below w.heap.size w w' := by
  go_enter Tryz.func218, Tryz.ntmps218
  go_wp2_with (go_at_call 111; refine (containsFunc_any ro rc r 217 #[] (fun n => !P.btw n 0 100000) w h (fun args wx => by go_simp) (fun x wx _ _ => by rw [arr1]; exact legs2_any x wx)).mono ?_; rintro e w1 ⟨rfl, hb1⟩)
  go_ret
  exact ⟨rfl, hb1⟩

/-- E1 of the legs: 1, 3 or 0. -/
def P.legsE (L : List (List Int)) (c n : Int) : Int := if (L.length : Int) = c then (if L.any (fun r => decide ((r.length : Int) ≠ n)) = true then 1 else if L.any P.badRow = true then 3 else 0) else 1

end Go.Proofs.YtlamhfbdeinkkaeGreat.Fo
/- Entries in memory; walks of isAmount, checkEntry, every, Cancel's literal. -/
namespace Go.Proofs.YtlamhfbdeinkkaeGreat.Fo
open Go.RowKit
set_option linter.unusedSimpArgs false
set_option linter.unusedVariables false

/-- An entry: its day, its kind, its amount. -/
abbrev Ent := Int × Int × Int
def REnt (_ : World) (x : Ent) (cs : List Value) : Prop := cs = [.int .i64 x.1, .int .i64 x.2.1, .int .i64 x.2.2]
theorem REnt.mono : Mono REnt := fun _ _ _ _ _ h => h
abbrev EntsAt (w : World) (ao : Option Addr) (cap : Nat) (l : List Ent) : Prop := SlAt REnt 3 w ao cap l
abbrev V.ent (x : Ent) : Value := .agg #[.int .i64 x.1, .int .i64 x.2.1, .int .i64 x.2.2]

theorem EntsAt.get {w w' : World} {ao : Option Addr} {cap : Nat} {l : List Ent} (h : EntsAt w ao cap l) (hb : Below w.heap.size w w') (k : Nat) (hk : k < l.length) :
    ∃ b off x y z, ao = some ⟨b, off, none⟩ ∧ b < w.heap.size ∧ l.drop k = (x, y, z) :: l.drop (k + 1) ∧ w'.cell? ⟨b, off + k * 3, none⟩ = some (.int .i64 x) ∧ w'.cell? ⟨b, off + k * 3 + 1, none⟩ = some (.int .i64 y) ∧ w'.cell? ⟨b, off + k * 3 + 2, none⟩ = some (.int .i64 z) := by
  obtain ⟨b, off, ⟨x, y, z⟩, cs, h1, h2, h3, h4, h5, h6⟩ := SlAt.get REnt.mono h hb k hk
  subst h4
  exact ⟨b, off, x, y, z, h1, h2, h3, by simpa using h6 0 _ rfl, by simpa using h6 1 _ rfl, by simpa using h6 2 _ rfl⟩

abbrev P.amt (n : Int) : Bool := P.btw n (-100000000) 100000000

set_option maxHeartbeats 400000 in
theorem isAmount_any (n : Int) (w : World) :
    Calls Tryz.prog 137 #[.int .i64 n] w fun e w' => e = .returned (.bool (P.amt n)) ∧ w = w' := by
  by_cases h1 : -100000000 ≤ n <;> by_cases h2 : n ≤ 100000000
  all_goals
    go_enter Tryz.func137, Tryz.ntmps137
    go_wp2
    go_ret
    simp [P.amt, P.btw, h1, h2]

/-- F1 of one entry by itself. -/
def P.entB (x : Ent) : Int := if P.btw x.2.1 1 4 = true then (if P.btw x.1 0 9999 = true ∧ P.amt x.2.2 = true then (if x.2.2 < 0 ∧ (x.2.1 = 1 ∨ x.2.1 = 3) ∨ 0 < x.2.2 ∧ x.2.1 = 2 then 4 else 0) else 3) else 7
/-- F1 of one entry behind one of a day. -/
def P.entE (x : Ent) (day : Int) : Int := if P.entB x = 0 then (if x.1 < day then 4 else 0) else P.entB x

set_option maxHeartbeats 4000000 in
theorem checkEntry_any (d k a day : Int) (w : World) :
    Calls Tryz.prog 135 #[.agg #[.int .i64 d, .int .i64 k, .int .i64 a], .int .i64 day] w fun e w' => e = .returned (.int .i64 (P.entE (d, k, a) day)) ∧ Below w.heap.size w w' := by
  by_cases hk : 1 ≤ k ∧ k ≤ 4
  rotate_left
  · have HE : Aside (P.entE (d, k, a) day = 7) := by
      have : P.entB (d, k, a) = 7 := by rw [P.entB, if_neg (by simp [P.btw]; omega)]
      show _ = _; rw [P.entE, this]; rfl
    by_cases h1 : k < 1
    · go_enter Tryz.func135, Tryz.ntmps135
      go_wp2
      go_ret
      exact ⟨ret_int HE.out.symm, by go_grown⟩
    · have h2 : 4 < k := by omega
      go_enter Tryz.func135, Tryz.ntmps135
      go_wp2
      go_ret
      exact ⟨ret_int HE.out.symm, by go_grown⟩
  have k1 : ¬ k < 1 := by omega
  have k2 : ¬ 4 < k := by omega
  by_cases hd : 0 ≤ d ∧ d ≤ 9999
  rotate_left
  · have HE : Aside (P.entE (d, k, a) day = 3) := by
      have : P.entB (d, k, a) = 3 := by rw [P.entB, if_pos (by simp [P.btw]; omega), if_neg (by simp [P.btw]; omega)]
      show _ = _; rw [P.entE, this]; rfl
    by_cases h1 : d < 0
    · go_enter Tryz.func135, Tryz.ntmps135
      go_wp2
      go_ret
      exact ⟨ret_int HE.out.symm, by go_grown⟩
    · have h2 : 9999 < d := by omega
      go_enter Tryz.func135, Tryz.ntmps135
      go_wp2
      go_ret
      exact ⟨ret_int HE.out.symm, by go_grown⟩
  have d1 : ¬ d < 0 := by omega
  have d2 : ¬ 9999 < d := by omega
  cases ha : P.amt a
  · have HE : Aside (P.entE (d, k, a) day = 3) := by
      have : P.entB (d, k, a) = 3 := by rw [P.entB, if_pos (by simp [P.btw]; omega), if_neg (by simp [ha])]
      show _ = _; rw [P.entE, this]; rfl
    go_enter Tryz.func135, Tryz.ntmps135
    go_wp2_with (go_at_call 137; refine (isAmount_any _ _).mono ?_; rintro e w1 ⟨rfl, rfl⟩; rw [ha])
    go_ret
    exact ⟨ret_int HE.out.symm, by go_grown⟩
  have HB : Aside (P.entB (d, k, a) = if a < 0 ∧ (k = 1 ∨ k = 3) ∨ 0 < a ∧ k = 2 then 4 else 0) := by
    show _ = _
    rw [P.entB, if_pos (by simp [P.btw]; omega), if_pos ⟨by simp [P.btw]; omega, ha⟩]
  rcases (show k = 1 ∨ k = 2 ∨ k = 3 ∨ k = 4 by omega) with rfl | rfl | rfl | rfl <;> rcases Int.lt_trichotomy a 0 with h0 | rfl | h0 <;> by_cases hy : d < day
  all_goals
    try (have n1 : ¬ a < 0 := by omega)
    try (have n2 : ¬ 0 < a := by omega)
    go_enter Tryz.func135, Tryz.ntmps135
    go_wp2_with (go_at_call 137; refine (isAmount_any _ _).mono ?_; rintro e w1 ⟨rfl, rfl⟩; rw [ha])
    go_ret
    exact ⟨ret_int (by rw [P.entE, HB.out]; simp <;> omega), by go_grown⟩

end Go.Proofs.YtlamhfbdeinkkaeGreat.Fo
/- The sums of a folio, gone through by a loop over a function: sums, its function literal. -/
namespace Go.Proofs.YtlamhfbdeinkkaeGreat.Fo
open Go.RowKit Go.Shelf
set_option linter.unusedSimpArgs false
set_option linter.unusedVariables false
attribute [local go_sem] Oper.semAt_some

/-- The sums, up to each entry that counts. -/
def P.sumsL (p : Ent → Bool) : Int → List Ent → List Int
  | _, [] => []
  | s, x :: r => if p x = true then (s + x.2.2) :: P.sumsL p (s + x.2.2) r else P.sumsL p s r

/-- What a round keeps: all below n₀, and what lies in the cell of block B. -/
def Kept (n₀ B : Nat) (W W' : World) : Prop := Below n₀ W W' ∧ ∀ v, W.cell? ⟨B, 0, none⟩ = some v → W'.cell? ⟨B, 0, none⟩ = some v
theorem Kept.t {n₀ B : Nat} {A C D : World} (h : Kept n₀ B A C) (k : Kept n₀ B C D) : Kept n₀ B A D := ⟨h.1.trans k.1, fun v hv => k.2 v (h.2 v hv)⟩
theorem Kept.b {n₀ B : Nat} {w : World} (hn : n₀ ≤ w.heap.size) (hB : B < w.heap.size) (W : World) (l : Nat) (o o' : Obj) (hl : w.heap.size ≤ l) (h : W.heap[l]? = some o) (h1 : o.isCells = false) (h2 : o.isWalk = false) : Kept n₀ B W (W.putObj l o') :=
  ⟨belowK_b (w := w) hn W l o o' hl h h1 h2, fun v hv => by
    have e : (W.putObj l o').heap[B]? = W.heap[B]? := World.putObj_heap_other (by omega)
    rw [← hv]
    simp only [World.cell?, e]⟩

theorem grown_of_below {w w' : World} (h : Below w.heap.size w w') : w.grownBy w' none := ⟨h.os, h.tape, h.output, h.size, fun k hk _ => h.block k hk⟩

set_option maxRecDepth 100000 in
set_option maxHeartbeats 4000000 in
/-- The function literal of 'sums', for every loop body that keeps what lay below n₀, and the cell that holds which entries count. -/
theorem sums1_in (n : Nat) (hn : 1 ≤ n) (l Bl Bc n₀ : Nat) (ao : Option Addr) (cap : Nat) (es : List Ent) (F : Nat) (p : Ent → Bool) (J Jx : List Int → World → Prop) (W : World)
    (hcf : ∀ (args : Array Value) (wx : World), (callFunc F args).run Tryz.prog wx = .ok (.enter F args) wx)
    (hp : Hid (∀ (x : Ent) (wx : World), Calls Tryz.prog F #[V.ent x] wx fun e w' => e = .returned (.bool (p x)) ∧ Below wx.heap.size wx w'))
    (hJ : AbidesFrom W.heap.size J) (hJx : AbidesFrom W.heap.size Jx)
    (hY : ∀ pre x W1, J pre W1 → pre.length < es.length → YieldAt Fence.wide (n - 1) Tryz.prog l #[.int .i64 x] W1 fun e W' =>
      (e = .returned (.bool true) ∧ J (pre ++ [x]) W' ∧ Kept n₀ Bc W1 W') ∨ (e = .returned (.bool false) ∧ Jx (pre ++ [x]) W'))
    (w0 : World) (hw0 : w0.heap.size = n₀) (hb0 : Below n₀ w0 W) (hes : EntsAt w0 ao cap es) (h12 : es.length ≤ 12) (ha : ∀ x ∈ es, -100000000 ≤ x.2.2 ∧ x.2.2 ≤ 100000000)
    (hBl : W.cell? ⟨Bl, 0, none⟩ = some (.slice ao es.length cap)) (hBc : W.cell? ⟨Bc, 0, none⟩ = some (.func (.func F) #[] #[])) (h0 : J [] W) :
    CallsIn Fence.wide n Tryz.prog 188 #[.func (.yield l) #[] #[], .pointer (some ⟨Bl, 0, none⟩), .pointer (some ⟨Bc, 0, none⟩)] W fun e W' => (∃ v, e = .returned v) ∧
      ((∃ ys, ys = P.sumsL p 0 es ∧ J ys W') ∨ (∃ pre, pre <+: P.sumsL p 0 es ∧ Jx pre W')) := by
  have hle := hes.le
  have hmx := hes.max
  unfold maxLen at hmx
  have HA : Aside (∀ x ∈ es, -100000000 ≤ x.2.2 ∧ x.2.2 ≤ 100000000) := ha
  clear ha
  refine callsIn_of_wp Tryz.func188 rfl trivial ?_ rfl
  simp only [Tryz.ntmps188, List.size_toArray, List.length_cons, List.length_nil, Nat.reduceAdd, Nat.reduceSub, Array.replicate_succ, Array.replicate_zero, List.push_toArray, List.append_toArray, List.nil_append, List.cons_append]
  gi_wp2
  gi_loopw [4, 9] (fun u i wr => ∃ (k : Nat) (s : Int) (pre : List Int), k ≤ es.length ∧ i = .int .i64 k ∧ u = .int .i64 s ∧ pre ++ P.sumsL p s (es.drop k) = P.sumsL p 0 es ∧ pre.length ≤ k ∧ -100000000 * (k : Int) ≤ s ∧ s ≤ 100000000 * (k : Int) ∧ J pre wr ∧ Below n₀ w0 wr ∧ wr.cell? ⟨Bc, 0, none⟩ = some (.func (.func F) #[] #[]))
    (fun u i _ => es.length - (intOf i).toNat)
  case atStart => exact ⟨0, 0, [], Nat.zero_le _, rfl, rfl, rfl, by simp, by simp, by simp, h0, hb0, hBc⟩
  case round =>
    obtain ⟨k, s, pre, hk, rfl, rfl, hP, hpl, hs0, hs1, hJs, hbw, hc⟩ := hrel
    have HP : Aside (pre ++ P.sumsL p s (es.drop k) = P.sumsL p 0 es) := hP
    clear hP
    by_cases hlt : k < es.length
    · obtain ⟨b, off, x, y, z, rfl, hbl, hd, e0, e1, e2⟩ := EntsAt.get hes (w' := wr) (by rw [hw0]; exact hbw) k hlt
      have hz := HA.out _ (memA hlt hd)
      simp only at hz
      have hd' := HP.out
      rw [hd, P.sumsL] at hd'
      simp only at hd'
      have HP2 : Aside (pre ++ (if p (x, y, z) = true then (s + z) :: P.sumsL p (s + z) (es.drop (k + 1)) else P.sumsL p s (es.drop (k + 1))) = P.sumsL p 0 es) := hd'
      clear hd hd' HP
      have hBcl : Bc < wr.heap.size := World.block_lt_of_cell? wr _ hc
      have HBs : Aside (n₀ ≤ wr.heap.size) := by have := hbw.size; rw [← hw0]; rw [hw0]; have h2 := hb0.size; show n₀ ≤ _; omega
      gi_wp2_with fail
      refine ⟨trivial, (callsIn_wide.2 (hp.out (x, y, z) _)).mono ?_⟩
      rintro e w1 ⟨rfl, hb1⟩
      have hB1 : Below wr.heap.size wr w1 := bvia (by go_grown) hb1
      have hJ1 := hJ pre wr w1 none hJs (grown_of_below hB1) (fun r e => by cases e)
      have hz2 : w1.cell? ⟨wr.heap.size, 2, none⟩ = some (.int .i64 z) := cellIn hb1 (by simp)
      have hc1 := cellIn hB1 hc
      have hbw1 : Below n₀ w0 w1 := hbw.trans (hB1.mono HBs.out)
      clear hb1 hB1 hJs hbw hc e0 e1 e2
      cases hpx : p (x, y, z)
      · have HP3 : Aside (pre ++ P.sumsL p s (es.drop (k + 1)) = P.sumsL p 0 es) := by
          have := HP2.out
          rw [hpx] at this
          show _ = _
          simpa using this
        clear HP2
        gi_wp2
        go_roundw
        case rel => exact ⟨k + 1, s, pre, by omega, by simp, rfl, HP3.out, by omega, by omega, by omega, hJ1, hbw1, hc1⟩
        case measure => simp [intOf]; omega
      · have HP3 : Aside ((pre ++ [s + z]) ++ P.sumsL p (s + z) (es.drop (k + 1)) = P.sumsL p 0 es) := by
          have := HP2.out
          rw [hpx] at this
          show _ = _
          simpa using this
        clear HP2
        obtain ⟨fn, tmps, assign, body, hy, hR⟩ := hY pre (s + z) w1 hJ1 (by omega)
        gi_wp2
        refine hR.mono ?_
        rintro e W3 (⟨rfl, hJ3, hk3⟩ | ⟨rfl, hJx3⟩)
        · gi_wp2
          go_roundw
          case rel => exact ⟨k + 1, s + z, pre ++ [s + z], by omega, by simp, rfl, HP3.out, by simp; omega, by omega, by omega, hJ3, hbw1.trans hk3.1, hk3.2 _ hc1⟩
          case measure => simp [intOf]; omega
        · gi_wp2
          refine bodyPost_ret (results_none rfl _ _ _) rfl ?_
          exact ⟨⟨_, rfl⟩, .inr ⟨pre ++ [s + z], ⟨_, HP3.out⟩, hJx3⟩⟩
    · obtain rfl : k = es.length := by omega
      have hP := HP.out
      rw [List.drop_of_length_le (Nat.le_refl _), P.sumsL, List.append_nil] at hP
      gi_wp2
      go_end0
      exact ⟨⟨_, rfl⟩, .inl ⟨_, hP, hJs⟩⟩

end Go.Proofs.YtlamhfbdeinkkaeGreat.Fo
/- Walks of every, Cancel's literal, sums, sum. -/
namespace Go.Proofs.YtlamhfbdeinkkaeGreat.Fo
open Go.RowKit Go.Shelf
set_option linter.unusedSimpArgs false
set_option linter.unusedVariables false
attribute [local go_sem] Oper.semAt_some

set_option maxHeartbeats 400000 in
theorem every_any (x : Ent) (w : World) : Calls Tryz.prog 85 #[V.ent x] w fun e w' => e = .returned (.bool true) ∧ Below w.heap.size w w' := by
  go_enter Tryz.func85, Tryz.ntmps85
  go_wp2
  go_ret
  exact ⟨rfl, by go_grown⟩

def P.isFare (x : Ent) : Bool := decide (x.2.1 = 1) || decide (x.2.1 = 4)

set_option maxHeartbeats 400000 in
theorem cancel1_any (x : Ent) (w : World) : Calls Tryz.prog 122 #[V.ent x] w fun e w' => e = .returned (.bool (P.isFare x)) ∧ Below w.heap.size w w' := by
  obtain ⟨d, k, a⟩ := x
  by_cases h1 : k = 1
  · subst h1
    go_enter Tryz.func122, Tryz.ntmps122
    go_wp2
    go_ret
    exact ⟨rfl, by go_grown⟩
  · have h1' : (k == 1) = false := by simpa using h1
    go_enter Tryz.func122, Tryz.ntmps122
    go_wp2
    go_ret
    exact ⟨ret_bool (by by_cases h4 : k = 4 <;> simp [P.isFare, h1, h4]), by go_grown⟩

abbrev V.seq (b c : Nat) : Value := .func (.func 188) #[] #[.pointer (some ⟨b, 0, none⟩), .pointer (some ⟨c, 0, none⟩)]
abbrev W.seq (w : World) (ao : Option Addr) (cap len F : Nat) : World := (w.alloc (.cells #[.slice ao len cap] 35)).alloc (.cells #[.func (.func F) #[] #[]] 115)

set_option maxHeartbeats 400000 in
theorem sums_any (ao : Option Addr) (cap len F : Nat) (w : World) :
    Calls Tryz.prog 136 #[.slice ao len cap, .func (.func F) #[] #[]] w fun e w' => e = .returned (V.seq w.heap.size (w.heap.size + 1)) ∧ w' = W.seq w ao cap len F := by
  go_enter Tryz.func136, Tryz.ntmps136
  go_wp2
  go_ret
  exact ⟨rfl, rfl⟩

/-- 'sums(l, counts)' hands back a value that gives the sums. -/
theorem sums_stops (n : Nat) (hn : 1 ≤ n) (Bl Bc n₀ : Nat) (ao : Option Addr) (cap : Nat) (es : List Ent) (F : Nat) (p : Ent → Bool) (w : World)
    (hcf : ∀ (args : Array Value) (wx : World), (callFunc F args).run Tryz.prog wx = .ok (.enter F args) wx)
    (hp : Hid (∀ (x : Ent) (wx : World), Calls Tryz.prog F #[V.ent x] wx fun e w' => e = .returned (.bool (p x)) ∧ Below wx.heap.size wx w'))
    (w0 : World) (hw0 : w0.heap.size = n₀) (hb0 : Below n₀ w0 w) (hes : EntsAt w0 ao cap es) (h12 : es.length ≤ 12) (ha : ∀ x ∈ es, -100000000 ≤ x.2.2 ∧ x.2.2 ≤ 100000000)
    (hBl : w.cell? ⟨Bl, 0, none⟩ = some (.slice ao es.length cap)) (hBc : w.cell? ⟨Bc, 0, none⟩ = some (.func (.func F) #[] #[])) :
    SeqStopsK Fence.wide n Tryz.prog 188 #[.pointer (some ⟨Bl, 0, none⟩), .pointer (some ⟨Bc, 0, none⟩)] (fun x : Int => #[Value.int .i64 x]) (Kept n₀ Bc) (fun ys => ys = P.sumsL p 0 es) (fun pre => pre <+: P.sumsL p 0 es) es.length w :=
  fun l J Jx W hW hJ hJx hY h0 =>
    sums1_in n hn l Bl Bc n₀ ao cap es F p J Jx W hcf hp hJ hJx hY w0 hw0 (hb0.trans (hW.mono (by have := hb0.size; subst hw0; exact this))) hes h12 ha (cellIn hW hBl) (cellIn hW hBc) h0

/-- A cell that was laid just now; old cells and old marks behind a block more. -/
theorem newCell (W : World) (v : Value) (t : TypeId) : (W.alloc (.cells #[v] t)).cell? ⟨W.heap.size, 0, none⟩ = some v ∧ (W.alloc (.cells #[v] t)).frozen? ⟨W.heap.size, 0, none⟩ = false := by
  constructor <;> simp
theorem oldCell {W : World} {a : Addr} {v : Value} (o : Obj) (h : W.cell? a = some v) : (W.alloc o).cell? a = some v := cell_kept h (World.grownBy_alloc W o none) (fun r e => by cases e)
theorem oldMark {W : World} {a : Addr} {v : Value} (o : Obj) (h : W.cell? a = some v) (hf : W.frozen? a = false) : (W.alloc o).frozen? a = false := (frozen_kept h (World.grownBy_alloc W o none) (fun r e => by cases e)).trans hf

/-- The last one. -/
def P.last : List Int → Int := List.foldl (fun _ x => x) 0
theorem last_snoc (l : List Int) (x : Int) : P.last (l ++ [x]) = x := by simp [P.last]

set_option maxRecDepth 100000 in
set_option maxHeartbeats 4000000 in
theorem folioSum_any (ao : Option Addr) (cap : Nat) (es : List Ent) (F : Nat) (p : Ent → Bool) (w : World)
    (hcf : ∀ (args : Array Value) (wx : World), (callFunc F args).run Tryz.prog wx = .ok (.enter F args) wx)
    (hp : Hid (∀ (x : Ent) (wx : World), Calls Tryz.prog F #[V.ent x] wx fun e w' => e = .returned (.bool (p x)) ∧ Below wx.heap.size wx w'))
    (hes : EntsAt w ao cap es) (h12 : es.length ≤ 12) (ha : ∀ x ∈ es, -100000000 ≤ x.2.2 ∧ x.2.2 ≤ 100000000) :
    Calls Tryz.prog 84 #[.slice ao es.length cap, .func (.func F) #[] #[]] w fun e w' => e = .returned (.int .i64 (P.last (P.sumsL p 0 es))) ∧ Below w.heap.size w w' := by
  refine (callsIn_wide (n := 3)).1 ?_
  refine callsIn_of_wp_marks Tryz.func84 rfl trivial ?_ rfl
  simp only [Tryz.ntmps84, List.size_toArray, List.length_cons, List.length_nil, Nat.reduceAdd, Nat.reduceSub, Array.replicate_succ, Array.replicate_zero, List.push_toArray, List.append_toArray, List.nil_append, List.cons_append]
  gi_wp2_with (refine ⟨trivial, ?_⟩; gi_at_call 136; refine (callsIn_wide.2 (sums_any ao cap es.length F _)).mono ?_; rintro e w' ⟨rfl, rfl⟩)
  have c0 := newCell w (.int .i64 0) 3
  have q0 : (W.seq (w.alloc (.cells #[.int .i64 0] 3)) ao cap es.length F).cell? ⟨w.heap.size, 0, none⟩ = some (.int .i64 0) := oldCell _ (oldCell _ c0.1)
  have qf : (W.seq (w.alloc (.cells #[.int .i64 0] 3)) ao cap es.length F).frozen? ⟨w.heap.size, 0, none⟩ = false := oldMark _ (oldCell _ c0.1) (oldMark _ c0.1 c0.2)
  have q1 : (W.seq (w.alloc (.cells #[.int .i64 0] 3)) ao cap es.length F).cell? ⟨w.heap.size + 1, 0, none⟩ = some (.slice ao es.length cap) := by
    have := newCell (w.alloc (.cells #[.int .i64 0] 3)) (.slice ao es.length cap) 35
    rw [World.size_alloc] at this
    exact oldCell _ this.1
  have q2 : (W.seq (w.alloc (.cells #[.int .i64 0] 3)) ao cap es.length F).cell? ⟨w.heap.size + 1 + 1, 0, none⟩ = some (.func (.func F) #[] #[]) := by
    have := newCell ((w.alloc (.cells #[.int .i64 0] 3)).alloc (.cells #[.slice ao es.length cap] 35)) (.func (.func F) #[] #[]) 115
    rw [World.size_alloc, World.size_alloc] at this
    exact this.1
  have hsz : (W.seq (w.alloc (.cells #[.int .i64 0] 3)) ao cap es.length F).heap.size = w.heap.size + 1 + 1 + 1 := by simp [W.seq]
  have hB0 : Below w.heap.size w (W.seq (w.alloc (.cells #[.int .i64 0] 3)) ao cap es.length F) := (((Below.refl _ w).alloc (Nat.le_refl _) _).alloc (by simp) _).alloc (by simp; omega) _
  refine wpIn_rangeFunc_ownF rfl (by omega) (gf := 188) (lb := #[.pointer (some ⟨w.heap.size + 1, 0, none⟩), .pointer (some ⟨w.heap.size + 1 + 1, 0, none⟩)]) rfl trivial (enters_of Tryz.func188 (by kernel_rfl) rfl)
    (sums_stops 2 (by omega) (w.heap.size + 1) (w.heap.size + 1 + 1) w.heap.size ao cap es F p _ hcf hp w rfl hB0 hes h12 ha q1 q2) Kept.t (Kept.b (by omega) (by omega)) (Below.refl _ _) (fun _ => rfl)
    (fun pre W => (W.cell? ⟨w.heap.size, 0, none⟩ = some (.int .i64 (P.last pre)) ∧ W.frozen? ⟨w.heap.size, 0, none⟩ = false) ∧ Below w.heap.size w W)
    (fun _ _ _ => False)
    (OwnFrom.and (Own.from (fun s A B row hs hg hr => ⟨cell_kept hs.1 hg hr, (frozen_kept hs.1 hg hr).trans hs.2⟩) _) (ownFrom_below (Nat.le_refl _) (by omega)))
    (fun _ _ _ _ _ hs _ _ => hs)
    ⟨⟨q0, qf⟩, hB0⟩
    (fun x => { tmps := #[.slice ao es.length cap, .func (.func F) #[] #[], undef, undef, .int .i64 0, .pointer (some ⟨w.heap.size, 0, none⟩), .int .i64 x, .slice ao es.length cap, .func (.func F) #[] #[], V.seq (w.heap.size + 1) (w.heap.size + 1 + 1), .int .i64 x, undef, undef], defers := [] }) ?assign ?body ?done ?stop
  case assign =>
    intro l x W K hK
    gi_wp2
    exact hK
  case body =>
    rintro l pre x W ⟨⟨hc, hf⟩, hB⟩ _
    gi_wp2
    exact ⟨KeepsOthers.setCell _ _ _, ⟨(Below.refl w.heap.size W).setCell (p := ⟨w.heap.size, 0, none⟩) (Nat.le_refl _) _, fun v hv => by rw [World.cell?_setCell_other (h := by simp)]; exact hv⟩, ⟨by rw [last_snoc]; exact World.cell?_setCell_same' _ _ _ (by rw [hc]; rfl), by rw [World.frozen?_setCell]; exact hf⟩, hB.setCell (p := ⟨w.heap.size, 0, none⟩) (Nat.le_refl _) _⟩
  case done =>
    rintro D ys W hD rfl ⟨⟨hc, _⟩, hB⟩ hK
    gi_wp2
    refine ⟨by simp, .inl ⟨_, _, rfl, run_takeDeferred hK, ?_⟩⟩
    exact ⟨_, results_tmp rfl _ _ _, rfl, hB.trans (belowK_b (w := w) (Nat.le_refl _) W D _ _ (by omega) hK rfl rfl)⟩
  case stop =>
    rintro D c pre W _ _ h _
    exact h.elim

end Go.Proofs.YtlamhfbdeinkkaeGreat.Fo
/- Walks of Check, Owed. -/
namespace Go.Proofs.YtlamhfbdeinkkaeGreat.Fo
open Go.RowKit Go.Shelf
set_option linter.unusedSimpArgs false
set_option linter.unusedVariables false
attribute [local go_sem] Oper.semAt_some

/-- F1 of the entries, one by one. -/
def P.entsE : Int → List Ent → Int
  | _, [] => 0
  | day, x :: r => if P.entE x day = 0 then P.entsE x.1 r else P.entE x day
abbrev P.all : Ent → Bool := fun _ => true
/-- F1 of a folio. -/
def P.folE (l : List Ent) : Int := if 12 < l.length then 2 else if P.entsE 0 l = 0 then (if (P.sumsL P.all 0 l).all P.amt = true then 0 else 3) else P.entsE 0 l

theorem entE_amt {x : Ent} {day : Int} (h : P.entE x day = 0) : -100000000 ≤ x.2.2 ∧ x.2.2 ≤ 100000000 := by
  unfold P.entE at h
  split at h
  · rename_i h0
    unfold P.entB at h0
    repeat' split at h0
    all_goals first | omega | (rename_i hh; have := hh.2; simp [P.amt, P.btw] at this; exact this) | (rename_i hh _; have := hh.2; simp [P.amt, P.btw] at this; exact this)
  · omega

theorem entsE_amt : ∀ {l : List Ent} {day : Int}, P.entsE day l = 0 → ∀ x ∈ l, -100000000 ≤ x.2.2 ∧ x.2.2 ≤ 100000000 := by
  intro l
  induction l with
  | nil => intro _ _ x hx; cases hx
  | cons y r ih =>
    intro day h x hx
    rw [P.entsE] at h
    split at h
    · rename_i h0
      rcases List.mem_cons.1 hx with rfl | hx
      · exact entE_amt h0
      · exact ih h x hx
    · omega

theorem every_calls : ∀ (args : Array Value) (wx : World), (callFunc 85 args).run Tryz.prog wx = .ok (.enter 85 args) wx := enters_of Tryz.func85 (by kernel_rfl) rfl

set_option maxRecDepth 100000 in
set_option maxHeartbeats 8000000 in
theorem folCheck_any (ao : Option Addr) (cap : Nat) (l : List Ent) (w : World) (hl : EntsAt w ao cap l) :
    Calls Tryz.prog 83 #[.slice ao l.length cap] w fun e w' => e = .returned (.int .i64 (P.folE l)) ∧ Below w.heap.size w w' := by
  have hle := hl.le
  have hmx := hl.max
  unfold maxLen at hmx
  refine (callsIn_wide (n := 3)).1 ?_
  refine callsIn_of_wp_marks Tryz.func83 rfl trivial ?_ rfl
  simp only [Tryz.ntmps83, List.size_toArray, List.length_cons, List.length_nil, Nat.reduceAdd, Nat.reduceSub, Array.replicate_succ, Array.replicate_zero, List.push_toArray, List.append_toArray, List.nil_append, List.cons_append]
  by_cases h12 : 12 < l.length
  · have HE : Aside (P.folE l = 2) := by show _ = _; rw [P.folE, if_pos h12]
    gi_wp2
    refine ⟨.int .i64 2, by simp [results, Tryz.results83, go_sem], ?_⟩
    exact ⟨ret_int HE.out.symm, by go_grown⟩
  have h12' : l.length ≤ 12 := by omega
  have h12i : ¬ ((12 : Int) < (l.length : Int)) := by omega
  gi_wp2
  gi_loopw [3, 13] (fun d i wr => ∃ (k : Nat) (day : Int), k ≤ l.length ∧ i = .int .i64 k ∧ d = .int .i64 day ∧ P.entsE day (l.drop k) = P.entsE 0 l ∧ wr.cell? ⟨w.heap.size, 0, none⟩ = some (.int .i64 0) ∧ wr.frozen? ⟨w.heap.size, 0, none⟩ = false ∧ Below w.heap.size w wr)
    (fun _ i _ => l.length - (intOf i).toNat)
  case atStart => exact ⟨0, 0, Nat.zero_le _, rfl, rfl, rfl, by simp, by simp, by go_grown⟩
  case round =>
    obtain ⟨k, day, hk, rfl, rfl, hP, hc, hf, hB⟩ := hrel
    have HP : Aside (P.entsE day (l.drop k) = P.entsE 0 l) := hP
    clear hP
    by_cases hlt : k < l.length
    · obtain ⟨b, off, x, y, z, rfl, hbl, hd, e0, e1, e2⟩ := EntsAt.get hl hB k hlt
      have hd' := HP.out
      rw [hd, P.entsE] at hd'
      have HP2 : Aside ((if P.entE (x, y, z) day = 0 then P.entsE x (l.drop (k + 1)) else P.entE (x, y, z) day) = P.entsE 0 l) := hd'
      clear hd hd' HP
      gi_wp2_with fail
      refine ⟨trivial, (callsIn_wide.2 (checkEntry_any x y z day _)).mono ?_⟩
      rintro e w1 ⟨rfl, hb1⟩
      have hx1 : w1.cell? ⟨wr.heap.size, 0, none⟩ = some (.int .i64 x) := cellIn hb1 (by simp)
      have hB1 : Below wr.heap.size wr w1 := bvia (by go_grown) hb1
      have hc1 := cellIn hB1 hc
      have hf1 : w1.frozen? ⟨w.heap.size, 0, none⟩ = false := by rw [hB1.frozen (p := ⟨w.heap.size, 0, none⟩) (World.block_lt_of_cell? wr _ hc)]; exact hf
      have hBw := bvia hB hB1
      clear hb1 hB1 hc hf hB e0 e1 e2
      by_cases he : P.entE (x, y, z) day = 0
      · have HP3 : Aside (P.entsE x (l.drop (k + 1)) = P.entsE 0 l) := by have := HP2.out; rw [if_pos he] at this; exact this
        clear HP2
        rw [he]
        gi_wp2
        go_roundw
        case rel => exact ⟨k + 1, x, by omega, by simp, rfl, HP3.out, hc1, hf1, hBw⟩
        case measure => simp [intOf]; omega
      · have HE : Aside (P.folE l = P.entE (x, y, z) day) := by
          have := HP2.out
          rw [if_neg he] at this
          show _ = _
          rw [P.folE, if_neg h12, ← this, if_neg he]
        clear HP2
        have he2 : (P.entE (x, y, z) day == 0) = false := by simpa using he
        gi_wp2
        refine ⟨.int .i64 (P.entE (x, y, z) day), ?_, ret_int HE.out.symm, hBw.setCell (p := ⟨w.heap.size, 0, none⟩) (Nat.le_refl _) _⟩
        simp [results, Tryz.results83, go_sem, World.cell?_setCell_same' _ _ _ (show (w1.cell? ⟨w.heap.size, 0, none⟩).isSome = true by rw [hc1]; rfl)]
    · obtain rfl : k = l.length := by omega
      have hP := HP.out
      rw [List.drop_of_length_le (Nat.le_refl _), P.entsE] at hP
      have HE0 : Aside (P.entsE 0 l = 0) := hP.symm
      clear hP HP
      gi_wp2_with (refine ⟨trivial, ?_⟩; gi_at_call 136; refine (callsIn_wide.2 (sums_any ao cap l.length 85 _)).mono ?_; rintro e w' ⟨rfl, rfl⟩)
      have hcl : w.heap.size < wr.heap.size := World.block_lt_of_cell? wr _ hc
      obtain ⟨W0, hW0⟩ : ∃ W0, W.seq wr ao cap l.length 85 = W0 := ⟨_, rfl⟩
      have q0 : W0.cell? ⟨w.heap.size, 0, none⟩ = some (.int .i64 0) := by rw [← hW0]; exact oldCell _ (oldCell _ hc)
      have qf : W0.frozen? ⟨w.heap.size, 0, none⟩ = false := by rw [← hW0]; exact oldMark _ (oldCell _ hc) (oldMark _ hc hf)
      have q1 : W0.cell? ⟨wr.heap.size, 0, none⟩ = some (.slice ao l.length cap) := by rw [← hW0]; exact oldCell _ (newCell wr _ _).1
      have q2 : W0.cell? ⟨wr.heap.size + 1, 0, none⟩ = some (.func (.func 85) #[] #[]) := by
        have := newCell (wr.alloc (.cells #[.slice ao l.length cap] 35)) (.func (.func 85) #[] #[]) 115
        rw [World.size_alloc] at this
        rw [← hW0]; exact this.1
      have hsz : W0.heap.size = wr.heap.size + 1 + 1 := by rw [← hW0]; simp [W.seq]
      have hB0 : Below w.heap.size w W0 := by rw [← hW0]; exact (hB.alloc (by omega) _).alloc (by simp; omega) _
      rw [hW0]
      refine wpIn_rangeFunc_ownF rfl (by omega) (gf := 188) (lb := #[.pointer (some ⟨wr.heap.size, 0, none⟩), .pointer (some ⟨wr.heap.size + 1, 0, none⟩)]) rfl trivial (enters_of Tryz.func188 (by kernel_rfl) rfl)
        (sums_stops 2 (by omega) wr.heap.size (wr.heap.size + 1) w.heap.size ao cap l 85 P.all _ every_calls every_any w rfl hB0 hl h12' (entsE_amt HE0.out) q1 q2) Kept.t (Kept.b (by omega) (by omega)) (Below.refl _ _) (fun _ => rfl)
        (fun pre W => (pre.all P.amt = true ∧ W.cell? ⟨w.heap.size, 0, none⟩ = some (.int .i64 0) ∧ W.frozen? ⟨w.heap.size, 0, none⟩ = false) ∧ Below w.heap.size w W)
        (fun c pre W => (c = .ret ∧ pre.all P.amt = false ∧ W.cell? ⟨w.heap.size, 0, none⟩ = some (.int .i64 3)) ∧ Below w.heap.size w W)
        (OwnFrom.and (Own.from (fun s A B row hs hg hr => ⟨hs.1, cell_kept hs.2.1 hg hr, (frozen_kept hs.2.1 hg hr).trans hs.2.2⟩) _) (ownFrom_below (Nat.le_refl _) (by omega)))
        (fun c => OwnFrom.and (Own.from (fun s A B row hs hg hr => ⟨hs.1, hs.2.1, cell_kept hs.2.2 hg hr⟩) _) (ownFrom_below (Nat.le_refl _) (by omega)))
        ⟨⟨rfl, q0, qf⟩, hB0⟩
        (fun x => { tmps := #[.slice ao l.length cap, undef, .pointer (some ⟨w.heap.size, 0, none⟩), .int .i64 day, undef, u5, u6, .int .i64 x, .slice ao l.length cap, .int .i64 l.length, .bool false, .slice ao l.length cap, .int .i64 l.length, .int .i64 l.length, .bool false, u15, u16, u17, u18, u19, u20, u21, u22, u23, u24, u25, .slice ao l.length cap, V.seq wr.heap.size (wr.heap.size + 1), .int .i64 x, undef, undef, undef], defers := [] }) ?assign ?body ?done ?stop
      case assign =>
        intro l x W K hK
        gi_wp2
        exact hK
      case body =>
        rintro lx pre x W ⟨⟨hp, hc, hf⟩, hB⟩ _
        cases hx : P.amt x
        · gi_wp2_with (refine ⟨trivial, ?_⟩; gi_at_call 137; refine (callsIn_wide.2 (isAmount_any _ _)).mono ?_; rintro e w1 ⟨rfl, rfl⟩; rw [hx])
          exact ⟨KeepsOthers.setCell _ _ _, ⟨rfl, by simp [hx], World.cell?_setCell_same' _ _ _ (by rw [hc]; rfl)⟩, hB.setCell (p := ⟨w.heap.size, 0, none⟩) (Nat.le_refl _) _⟩
        · gi_wp2_with (refine ⟨trivial, ?_⟩; gi_at_call 137; refine (callsIn_wide.2 (isAmount_any _ _)).mono ?_; rintro e w1 ⟨rfl, rfl⟩; rw [hx])
          exact ⟨KeepsOthers.refl _, ⟨Below.refl _ _, fun v hv => hv⟩, ⟨by simp [hp, hx], hc, hf⟩, hB⟩
      case done =>
        rintro D ys W hD rfl ⟨⟨hp, hc, hf⟩, hB⟩ hK
        have HE : Aside (P.folE l = 0) := by show _ = _; rw [P.folE, if_neg h12, if_pos HE0.out, if_pos hp]
        gi_wp2
        have hK' := (KeepsOthers.setCell W ⟨w.heap.size, 0, none⟩ (.int .i64 0)).same D _ hK rfl
        refine ⟨by simp, .inl ⟨_, _, rfl, run_takeDeferred hK', ?_⟩⟩
        have hc5 := cell_kept (World.cell?_setCell_same' W ⟨w.heap.size, 0, none⟩ (.int .i64 0) (by rw [hc]; rfl)) (grownBy_putObj' _ D (.deferred none)) (fun r e => by cases e; exact ⟨_, hK', rfl⟩)
        refine ⟨.int .i64 0, ?_, ret_int HE.out.symm, (hB.setCell (p := ⟨w.heap.size, 0, none⟩) (Nat.le_refl _) _).trans (belowK_b (w := w) (Nat.le_refl _) _ D _ _ (by omega) hK' rfl rfl)⟩
        simp [results, Tryz.results83, go_sem, hc5]
      case stop =>
        rintro D c pre W hD ⟨t, ht⟩ ⟨⟨rfl, hp, hc⟩, hB⟩ hK
        have HE : Aside (P.folE l = 3) := by show _ = _; rw [P.folE, if_neg h12, if_pos HE0.out, if_neg (by rw [← ht, List.all_append, hp]; simp)]
        gi_wp2
        refine ⟨by simp, .inl ⟨_, _, rfl, run_takeDeferred hK, ?_⟩⟩
        have hc5 := cell_kept hc (grownBy_putObj' _ D (.deferred none)) (fun r e => by cases e; exact ⟨_, hK, rfl⟩)
        refine ⟨.int .i64 3, ?_, ret_int HE.out.symm, hB.trans (belowK_b (w := w) (Nat.le_refl _) W D _ _ (by omega) hK rfl rfl)⟩
        simp [results, Tryz.results83, go_sem, hc5]

/-- The sum of the entries that count. -/
def P.sumL (p : Ent → Bool) (l : List Ent) : Int := P.last (P.sumsL p 0 l)

theorem folE_len {l : List Ent} (h : P.folE l = 0) : l.length ≤ 12 := by
  unfold P.folE at h
  split at h <;> omega
theorem folE_ents {l : List Ent} (h : P.folE l = 0) : P.entsE 0 l = 0 := by
  unfold P.folE at h
  repeat' split at h
  all_goals first | omega | assumption
theorem folE_amt {l : List Ent} (h : P.folE l = 0) : ∀ x ∈ l, -100000000 ≤ x.2.2 ∧ x.2.2 ≤ 100000000 := entsE_amt (folE_ents h)

end Go.Proofs.YtlamhfbdeinkkaeGreat.Fo
