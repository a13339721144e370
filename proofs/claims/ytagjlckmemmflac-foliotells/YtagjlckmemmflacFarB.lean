/- How fares lie in memory; walks of IndexFunc, ContainsFunc over numbers, over lists of numbers, over bands; checkLegs. -/
import Derived.Test.YtagjlckmemmflacFarA
namespace Go.Proofs.Ytagjlckmemmflac
open Go.RowKit
set_option linter.unusedSimpArgs false
set_option linter.unusedVariables false

/-- A list of numbers, as an element. -/
def RRow (w : World) (l : List Int) (cs : List Value) : Prop := ∃ ao cap, cs = [.slice ao l.length cap] ∧ IntsAt w ao cap l
theorem RRow.mono : Mono RRow := fun _ _ _ _ hb ⟨ao, cap, h, hi⟩ => ⟨ao, cap, h, SlAt.below RInt.mono hi hb⟩
abbrev RowsAt (w : World) (ao : Option Addr) (cap : Nat) (l : List (List Int)) : Prop := SlAt RRow 1 w ao cap l
/-- A pair of numbers, as an element. -/
def RPair (_ : World) (x : Int × Int) (cs : List Value) : Prop := cs = [.int .i64 x.1, .int .i64 x.2]
theorem RPair.mono : Mono RPair := fun _ _ _ _ _ h => h
abbrev PairsAt (w : World) (ao : Option Addr) (cap : Nat) (l : List (Int × Int)) : Prop := SlAt RPair 2 w ao cap l

theorem RowsAt.get {w w' : World} {ao : Option Addr} {cap : Nat} {l : List (List Int)} (h : RowsAt w ao cap l) (hb : Below w.heap.size w w') (k : Nat) (hk : k < l.length) :
    ∃ b off r ro rc, ao = some ⟨b, off, none⟩ ∧ b < w.heap.size ∧ l.drop k = r :: l.drop (k + 1) ∧ w'.cell? ⟨b, off + k, none⟩ = some (.slice ro r.length rc) ∧ IntsAt w' ro rc r := by
  obtain ⟨b, off, x, cs, h1, h2, h3, h4, h5, h6⟩ := SlAt.get RRow.mono h hb k hk
  obtain ⟨ro, rc, rfl, hr⟩ := h4
  exact ⟨b, off, x, ro, rc, h1, h2, h3, by simpa using h6 0 _ rfl, hr⟩

theorem PairsAt.get {w w' : World} {ao : Option Addr} {cap : Nat} {l : List (Int × Int)} (h : PairsAt w ao cap l) (hb : Below w.heap.size w w') (k : Nat) (hk : k < l.length) :
    ∃ b off x y, ao = some ⟨b, off, none⟩ ∧ b < w.heap.size ∧ l.drop k = (x, y) :: l.drop (k + 1) ∧ w'.cell? ⟨b, off + k * 2, none⟩ = some (.int .i64 x) ∧ w'.cell? ⟨b, off + k * 2 + 1, none⟩ = some (.int .i64 y) := by
  obtain ⟨b, off, ⟨x, y⟩, cs, h1, h2, h3, h4, h5, h6⟩ := SlAt.get RPair.mono h hb k hk
  subst h4
  exact ⟨b, off, x, y, h1, h2, h3, by simpa using h6 0 _ rfl, by simpa using h6 1 _ rfl⟩

section
variable {α : Type} {l : List α} {p : α → Bool} {k : Nat} {x : α}
theorem getA (hk : k < l.length) (hD : l.drop k = x :: l.drop (k + 1)) : l[k] = x := by
  have := List.drop_eq_getElem_cons hk
  rw [hD] at this
  simp only [List.cons.injEq] at this
  exact this.1.symm
theorem memA (hk : k < l.length) (hD : l.drop k = x :: l.drop (k + 1)) : x ∈ l := by rw [← getA hk hD]; exact List.getElem_mem hk
theorem any_hit (hk : k < l.length) (hD : l.drop k = x :: l.drop (k + 1)) (h : p x = true) : l.any p = true := by
  rw [List.any_eq_true]
  exact ⟨x, memA hk hD, h⟩
theorem any_on (hP : (l.drop k).any p = l.any p) (hD : l.drop k = x :: l.drop (k + 1)) (h : p x = false) : (l.drop (k + 1)).any p = l.any p := by
  rw [hD, List.any_cons, h, Bool.false_or] at hP
  exact hP
theorem any_none (hP : (l.drop l.length).any p = l.any p) : l.any p = false := by
  rw [List.drop_of_length_le (Nat.le_refl _)] at hP
  simpa using hP.symm
end

set_option maxHeartbeats 1000000 in
/-- 'IndexFunc' of numbers, with whatever function literal that answers p: it is below 0 just if there is none. -/
theorem indexFunc_any (ao : Option Addr) (cap : Nat) (l : List Int) (F : Nat) (cs : Array Value) (p : Int → Bool) (w : World) (hl : IntsAt w ao cap l)
    (hcf : ∀ (args : Array Value) (wx : World), (callFunc F args).run Try.prog wx = .ok (.enter F args) wx)
    (hp : Hid (∀ (x : Int) (wx : World), x ∈ l → Below w.heap.size w wx → Calls Try.prog F (#[.int .i64 x] ++ cs) wx fun e w' => e = .returned (.bool (p x)) ∧ Below wx.heap.size wx w')) :
    Calls Try.prog 59 #[.slice ao l.length cap, .func (.func F) #[] cs] w fun e w' => ∃ n : Int, e = .returned (.int .i64 n) ∧ decide (0 ≤ n) = l.any p ∧ Below w.heap.size w w' := by
  have hle := hl.le
  have hmx := hl.max
  unfold maxLen at hmx
  go_enter Try.func59, Try.ntmps59
  go_wp2
  go_loopg [8] l.length (fun g i wr => ∃ (k : Nat), k ≤ l.length ∧ g = l.length - k ∧ i = .int .i64 k ∧ (l.drop k).any p = l.any p ∧ Below w.heap.size w wr)
  case atStart => exact ⟨0, Nat.zero_le _, rfl, rfl, rfl, Below.refl _ _⟩
  case round =>
    obtain ⟨k, hk, rfl, rfl, hP, hB⟩ := hrel
    have HP : Aside ((l.drop k).any p = l.any p) := hP
    clear hP
    by_cases hlt : k < l.length
    · obtain ⟨b, off, x, rfl, hbw, hd, hc0⟩ := hl.get hB k hlt
      have HD : Aside (l.drop k = x :: l.drop (k + 1)) := hd
      have hx : x ∈ l := memA hlt hd
      clear hd
      cases hpf : p x
      · go_wp2_with fail
        refine (hp.out x _ hx hB).mono ?_
        rintro e w1 ⟨rfl, hb1⟩
        rw [hpf]
        go_wp2
        go_roundg (l.length - (k + 1))
        case measure => omega
        case rel => exact ⟨k + 1, by omega, rfl, by go_num, any_on HP.out HD.out hpf, bvia hB hb1⟩
      · go_wp2_with fail
        refine (hp.out x _ hx hB).mono ?_
        rintro e w1 ⟨rfl, hb1⟩
        rw [hpf]
        go_wp2
        go_ret
        exact ⟨_, rfl, by rw [any_hit hlt HD.out hpf, decide_eq_true_iff]; omega, bvia hB hb1⟩
    · obtain rfl : k = l.length := by omega
      go_wp2
      go_ret
      exact ⟨_, rfl, by rw [any_none HP.out]; rfl, hB⟩

set_option maxHeartbeats 1000000 in
theorem containsFunc_any (ao : Option Addr) (cap : Nat) (l : List Int) (F : Nat) (cs : Array Value) (p : Int → Bool) (w : World) (hl : IntsAt w ao cap l)
    (hcf : ∀ (args : Array Value) (wx : World), (callFunc F args).run Try.prog wx = .ok (.enter F args) wx)
    (hp : Hid (∀ (x : Int) (wx : World), x ∈ l → Below w.heap.size w wx → Calls Try.prog F (#[.int .i64 x] ++ cs) wx fun e w' => e = .returned (.bool (p x)) ∧ Below wx.heap.size wx w')) :
    Calls Try.prog 56 #[.slice ao l.length cap, .func (.func F) #[] cs] w fun e w' => e = .returned (.bool (l.any p)) ∧ Below w.heap.size w w' := by
  go_enter Try.func56, Try.ntmps56
  go_wp2_with fail
  refine (indexFunc_any ao cap l F cs p w hl hcf hp).mono ?_
  rintro e w1 ⟨n, rfl, hn, hb1⟩
  have HN : Aside (decide (0 ≤ n) = l.any p) := hn
  clear hn
  go_wp2
  go_ret
  exact ⟨ret_bool (by rw [← HN.out]), hb1⟩

set_option maxHeartbeats 1000000 in
/-- 'IndexFunc' of lists of numbers. -/
theorem indexRows_any (ao : Option Addr) (cap : Nat) (l : List (List Int)) (F : Nat) (cs : Array Value) (p : List Int → Bool) (w : World) (hl : RowsAt w ao cap l)
    (hcf : ∀ (args : Array Value) (wx : World), (callFunc F args).run Try.prog wx = .ok (.enter F args) wx)
    (hp : Hid (∀ (r : List Int) (ro : Option Addr) (rc : Nat) (wx : World), IntsAt wx ro rc r → Below w.heap.size w wx → Calls Try.prog F (#[.slice ro r.length rc] ++ cs) wx fun e w' => e = .returned (.bool (p r)) ∧ Below wx.heap.size wx w')) :
    Calls Try.prog 58 #[.slice ao l.length cap, .func (.func F) #[] cs] w fun e w' => ∃ n : Int, e = .returned (.int .i64 n) ∧ decide (0 ≤ n) = l.any p ∧ Below w.heap.size w w' := by
  have hle := hl.le
  have hmx := hl.max
  unfold maxLen at hmx
  go_enter Try.func58, Try.ntmps58
  go_wp2
  go_loopg [8] l.length (fun g i wr => ∃ (k : Nat), k ≤ l.length ∧ g = l.length - k ∧ i = .int .i64 k ∧ (l.drop k).any p = l.any p ∧ Below w.heap.size w wr)
  case atStart => exact ⟨0, Nat.zero_le _, rfl, rfl, rfl, Below.refl _ _⟩
  case round =>
    obtain ⟨k, hk, rfl, rfl, hP, hB⟩ := hrel
    have HP : Aside ((l.drop k).any p = l.any p) := hP
    clear hP
    by_cases hlt : k < l.length
    · obtain ⟨b, off, x, ro, rc, rfl, hbw, hd, hc0, hr⟩ := RowsAt.get hl hB k hlt
      have HD : Aside (l.drop k = x :: l.drop (k + 1)) := hd
      have HR : Aside (IntsAt wr ro rc x) := hr
      clear hd hr
      cases hpf : p x
      · go_wp2_with fail
        refine (hp.out x _ _ _ HR.out hB).mono ?_
        rintro e w1 ⟨rfl, hb1⟩
        rw [hpf]
        go_wp2
        go_roundg (l.length - (k + 1))
        case measure => omega
        case rel => exact ⟨k + 1, by omega, rfl, by go_num, any_on HP.out HD.out hpf, bvia hB hb1⟩
      · go_wp2_with fail
        refine (hp.out x _ _ _ HR.out hB).mono ?_
        rintro e w1 ⟨rfl, hb1⟩
        rw [hpf]
        go_wp2
        go_ret
        exact ⟨_, rfl, by rw [any_hit hlt HD.out hpf, decide_eq_true_iff]; omega, bvia hB hb1⟩
    · obtain rfl : k = l.length := by omega
      go_wp2
      go_ret
      exact ⟨_, rfl, by rw [any_none HP.out]; rfl, hB⟩

set_option maxHeartbeats 1000000 in
theorem containsRows_any (ao : Option Addr) (cap : Nat) (l : List (List Int)) (F : Nat) (cs : Array Value) (p : List Int → Bool) (w : World) (hl : RowsAt w ao cap l)
    (hcf : ∀ (args : Array Value) (wx : World), (callFunc F args).run Try.prog wx = .ok (.enter F args) wx)
    (hp : Hid (∀ (r : List Int) (ro : Option Addr) (rc : Nat) (wx : World), IntsAt wx ro rc r → Below w.heap.size w wx → Calls Try.prog F (#[.slice ro r.length rc] ++ cs) wx fun e w' => e = .returned (.bool (p r)) ∧ Below wx.heap.size wx w')) :
    Calls Try.prog 52 #[.slice ao l.length cap, .func (.func F) #[] cs] w fun e w' => e = .returned (.bool (l.any p)) ∧ Below w.heap.size w w' := by
  go_enter Try.func52, Try.ntmps52
  go_wp2_with fail
  refine (indexRows_any ao cap l F cs p w hl hcf hp).mono ?_
  rintro e w1 ⟨n, rfl, hn, hb1⟩
  have HN : Aside (decide (0 ≤ n) = l.any p) := hn
  clear hn
  go_wp2
  go_ret
  exact ⟨ret_bool (by rw [← HN.out]), hb1⟩

theorem arr1 (a : Value) : (#[a] ++ #[] : Array Value) = #[a] := rfl
theorem arr2 (a b : Value) : (#[a] ++ #[b] : Array Value) = #[a, b] := rfl

set_option maxHeartbeats 400000 in
theorem legs1_any (ro : Option Addr) (rc : Nat) (r : List Int) (n : Int) (g : Nat) (w : World) (h : IntsAt w ro rc r) (h0 : w.cell? ⟨g, 0, none⟩ = some (.int .i64 n)) :
    Calls Try.prog 53 #[.slice ro r.length rc, .pointer (some ⟨g, 0, none⟩)] w fun e w' => e = .returned (.bool (decide ((r.length : Int) ≠ n))) ∧ Below w.heap.size w w' := by
  have hle := h.le
  have hmx := h.max
  unfold maxLen at hmx
  go_enter Try.func53, Try.ntmps53
  go_wp2
  go_ret
  exact ⟨ret_bool (by by_cases e : (r.length : Int) = n <;> simp [e]), Below.refl _ _⟩

set_option maxHeartbeats 400000 in
theorem legs2_any (n : Int) (w : World) :
    Calls Try.prog 54 #[.int .i64 n] w fun e w' => e = .returned (.bool (!P.btw n 0 100000)) ∧ Below w.heap.size w w' := by
  go_enter Try.func54, Try.ntmps54
  go_wp2_with (go_at_call 29; refine (within_any _ _ _ _).mono ?_; rintro e w1 ⟨rfl, rfl⟩)
  go_ret
  exact ⟨rfl, Below.refl _ _⟩

def P.badRow (r : List Int) : Bool := r.any (fun n => !P.btw n 0 100000)

set_option maxHeartbeats 400000 in
theorem legs3_any (ro : Option Addr) (rc : Nat) (r : List Int) (g : Nat) (w : World) (h : IntsAt w ro rc r) (h0 : w.cell? ⟨g, 0, none⟩ = some (.func (.func 54) #[] #[])) :
    Calls Try.prog 55 #[.slice ro r.length rc, .pointer (some ⟨g, 0, none⟩)] w fun e w' => e = .returned (.bool (P.badRow r)) ∧ Below w.heap.size w w' := by
  go_enter Try.func55, Try.ntmps55
  go_wp2_with (go_at_call 56; refine (containsFunc_any ro rc r 54 #[] (fun n => !P.btw n 0 100000) w h (fun args wx => by go_simp) (fun x wx _ _ => by rw [arr1]; exact legs2_any x wx)).mono ?_; rintro e w1 ⟨rfl, hb1⟩)
  go_ret
  exact ⟨rfl, hb1⟩

/-- E1 of the legs: 1, 3 or 0. -/
def P.legsE (L : List (List Int)) (c n : Int) : Int := if (L.length : Int) = c then (if L.any (fun r => decide ((r.length : Int) ≠ n)) = true then 1 else if L.any P.badRow = true then 3 else 0) else 1

end Go.Proofs.Ytagjlckmemmflac
