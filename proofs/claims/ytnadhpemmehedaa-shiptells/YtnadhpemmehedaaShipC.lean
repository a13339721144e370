/- Ships in memory; walks of checkSize, checkCategories, checkCabins. -/
import Derived.Test.YtnadhpemmehedaaShipB
namespace Go.Proofs.Ytnadhpemmehedaa
open Go.RowKit Go.Maps Go.WideMaps
set_option linter.unusedSimpArgs false
set_option linter.unusedVariables false

/-- A category: its name, its Higher. A cabin: its name, category, berths, whether it is level. -/
abbrev Cat := ByteArray × List Int
abbrev Cab := ByteArray × Int × Int × Bool

def RCat (w : World) (c : Cat) (cs : List Value) : Prop := ∃ hao hcap, cs = [.string c.1, .slice hao c.2.length hcap] ∧ IntsAt w hao hcap c.2 ∧ c.1.size ≤ maxLen
def RCab (_ : World) (c : Cab) (cs : List Value) : Prop := cs = [.string c.1, .int .i64 c.2.1, .int .i64 c.2.2.1, .bool c.2.2.2] ∧ c.1.size ≤ maxLen
theorem RCat.mono : Mono RCat := fun w w' x cs hb ⟨hao, hcap, h1, h2, h3⟩ => ⟨hao, hcap, h1, SlAt.below RInt.mono h2 hb, h3⟩
theorem RCab.mono : Mono RCab := fun _ _ _ _ _ h => h
abbrev CatsAt (w : World) (ao : Option Addr) (cap : Nat) (l : List Cat) : Prop := SlAt RCat 2 w ao cap l
abbrev CabsAt (w : World) (ao : Option Addr) (cap : Nat) (l : List Cab) : Prop := SlAt RCab 4 w ao cap l

theorem CatsAt.get {w w' : World} {ao : Option Addr} {cap : Nat} {l : List Cat} (h : CatsAt w ao cap l) (hb : Below w.heap.size w w') (k : Nat) (hk : k < l.length) :
    ∃ b off nm hs hao hcap, ao = some ⟨b, off, none⟩ ∧ b < w.heap.size ∧ l.drop k = (nm, hs) :: l.drop (k + 1) ∧ w'.cell? ⟨b, off + k * 2, none⟩ = some (.string nm) ∧ w'.cell? ⟨b, off + k * 2 + 1, none⟩ = some (.slice hao hs.length hcap) ∧ IntsAt w' hao hcap hs ∧ nm.size ≤ maxLen := by
  obtain ⟨b, off, x, cs, h1, h2, h3, ⟨hao, hcap, h4, h5, h6⟩, _, h7⟩ := SlAt.get RCat.mono h hb k hk
  subst h4
  exact ⟨b, off, x.1, x.2, hao, hcap, h1, h2, h3, by simpa using h7 0 _ rfl, by simpa using h7 1 _ rfl, h5, h6⟩

theorem CabsAt.get {w w' : World} {ao : Option Addr} {cap : Nat} {l : List Cab} (h : CabsAt w ao cap l) (hb : Below w.heap.size w w') (k : Nat) (hk : k < l.length) :
    ∃ b off nm c be lv, ao = some ⟨b, off, none⟩ ∧ b < w.heap.size ∧ l.drop k = (nm, c, be, lv) :: l.drop (k + 1) ∧ w'.cell? ⟨b, off + k * 4, none⟩ = some (.string nm) ∧ w'.cell? ⟨b, off + k * 4 + 1, none⟩ = some (.int .i64 c) ∧ w'.cell? ⟨b, off + k * 4 + 2, none⟩ = some (.int .i64 be) ∧ w'.cell? ⟨b, off + k * 4 + 3, none⟩ = some (.bool lv) ∧ nm.size ≤ maxLen := by
  obtain ⟨b, off, x, cs, h1, h2, h3, ⟨h4, h6⟩, _, h7⟩ := SlAt.get RCab.mono h hb k hk
  subst h4
  exact ⟨b, off, x.1, x.2.1, x.2.2.1, x.2.2.2, h1, h2, h3, by simpa using h7 0 _ rfl, by simpa using h7 1 _ rfl, by simpa using h7 2 _ rfl, by simpa using h7 3 _ rfl, h6⟩

def P.cats (n : Int) : List ByteArray → List Cat → Int
  | _, [] => 0
  | ns, c :: t => if P.meetE ns c.1 = 0 then (if P.high n [] c.2 = 0 then P.cats n (ns ++ [c.1]) t else P.high n [] c.2) else P.meetE ns c.1

theorem grown_below_map {w W0 w' : World} {B : Nat} (hB : Below w.heap.size w W0) (hb : w.heap.size ≤ B) (hg : W0.grownBy w' (some B)) : Below w.heap.size w w' :=
  hB.grown hg hB.size (fun j hj => by cases hj; exact hb)

theorem NSet.below {w w' : World} {B : Nat} {l : List ByteArray} (h : NSet w B l) (hb : Below w.heap.size w w') : NSet w' B l :=
  World.ownsMap.kept h (row := none) ⟨hb.os, hb.tape, hb.output, hb.size, fun k hk _ => hb.block k hk⟩ (by simp)

set_option maxHeartbeats 1000000 in
theorem checkCategories_any (ao : Option Addr) (cap : Nat) (l : List Cat) (w : World) (hl : CatsAt w ao cap l) (hn : l.length ≤ 1000) :
    Calls Try.prog 52 #[.slice ao l.length cap] w fun e w' => e = .returned (.int .i64 (P.cats l.length [] l)) ∧ Below w.heap.size w w' := by
  have hle := hl.le
  have hmx := hl.max
  have hmm := @run_makeMap Try.prog
  unfold maxLen at hmx
  go_enter Try.func52, Try.ntmps52
  go_wp2
  go_loopg [11] l.length (fun g i wr => ∃ (k : Nat) (ns : List ByteArray), k ≤ l.length ∧ g = l.length - k ∧ i = .int .i64 k ∧ ns.length ≤ k ∧ NSet wr w.heap.size ns ∧ P.cats l.length ns (l.drop k) = P.cats l.length [] l ∧ Below w.heap.size w wr)
  case atStart => exact ⟨0, [], Nat.zero_le _, rfl, rfl, Nat.le_refl _, NSet.made w, rfl, by go_grown⟩
  case round =>
    obtain ⟨k, ns, hk, rfl, rfl, hsn, hown, hP, hB⟩ := hrel
    have hBs := hB.size
    have hBl := hown.lt
    have HP : Aside (P.cats l.length ns (l.drop k) = P.cats l.length [] l) := hP
    clear hP
    by_cases hlt : k < l.length
    · obtain ⟨b, off, nm, hs, hao, hcap, rfl, hbw, hd, hcw0, hcw1, hin, hnm⟩ := hl.get (Below.refl _ _) k hlt
      have hc0 := cellIn hB hcw0
      have hc1 := cellIn hB hcw1
      rw [hd, P.cats] at HP
      clear hd
      simp only at HP
      go_wp2_with fail
      refine (meetName_any w.heap.size ns nm _ hnm (by omega) (hown.alloc _)).mono ?_
      rintro e w1 ⟨rfl, hset, hgrow1⟩
      have hBa : Below w.heap.size w (wr.alloc (.cells #[.string nm, .slice hao hs.length hcap] 49)) := hB.alloc hBs _
      have hB1 : Below w.heap.size w w1 := grown_below_map hBa (Nat.le_refl _) hgrow1
      have hbox : w1.cell? ⟨wr.heap.size, 1, none⟩ = some (.slice hao hs.length hcap) := hgrow1.cell (by simp) (by simp; omega)
      cases hz : (P.meetE ns nm != 0)
      · have hz0 : P.meetE ns nm = 0 := by simpa using hz
        have hset1 := hset hz0
        rw [if_pos hz0] at HP
        clear hset hz0
        cases hy : (P.high l.length [] hs != 0)
        · have hy0 : P.high l.length [] hs = 0 := by simpa using hy
          rw [if_pos hy0] at HP
          clear hy0
          go_wp2_with (go_at_call 56; refine (checkHigher_any _ _ hs l.length _ (SlAt.below RInt.mono hin hB1) hn).mono ?_; rintro e w2 ⟨rfl, hb2⟩)
          go_roundg (l.length - (k + 1))
          case measure => omega
          case rel => exact ⟨k + 1, ns ++ [nm], by omega, rfl, by go_num, by simp; omega, hset1.below hb2, HP.out, bvia hB1 hb2⟩
        · rw [if_neg (by simpa using hy)] at HP
          go_wp2_with (go_at_call 56; refine (checkHigher_any _ _ hs l.length _ (SlAt.below RInt.mono hin hB1) hn).mono ?_; rintro e w2 ⟨rfl, hb2⟩)
          go_ret
          exact ⟨ret_int HP.out, bvia hB1 hb2⟩
      · rw [if_neg (by simpa using hz)] at HP
        clear hset
        go_wp2
        go_ret
        exact ⟨ret_int HP.out, hB1⟩
    · obtain rfl : k = l.length := by omega
      rw [List.drop_of_length_le (Nat.le_refl _), P.cats] at HP
      go_wp2
      go_ret
      exact ⟨ret_int HP.out, hB⟩

def P.cabs (n : Int) : List ByteArray → List Cab → Int
  | _, [] => 0
  | ns, c :: t => if P.meetE ns c.1 = 0 then (if (P.btw c.2.1 0 (n - 1) && P.btw c.2.2.1 1 4) = true then P.cabs n (ns ++ [c.1]) t else 3) else P.meetE ns c.1

set_option maxHeartbeats 1000000 in
theorem checkCabins_any (ao : Option Addr) (cap : Nat) (l : List Cab) (n : Nat) (w : World) (hl : CabsAt w ao cap l) (hn : n ≤ 1000) (hll : l.length ≤ 1000) :
    Calls Try.prog 54 #[.slice ao l.length cap, .int .i64 n] w fun e w' => e = .returned (.int .i64 (P.cabs n [] l)) ∧ Below w.heap.size w w' := by
  have hle := hl.le
  have hmx := hl.max
  have hmm := @run_makeMap Try.prog
  unfold maxLen at hmx
  go_enter Try.func54, Try.ntmps54
  go_wp2
  go_loopg [12] l.length (fun g i wr => ∃ (k : Nat) (ns : List ByteArray), k ≤ l.length ∧ g = l.length - k ∧ i = .int .i64 k ∧ ns.length ≤ k ∧ NSet wr w.heap.size ns ∧ P.cabs n ns (l.drop k) = P.cabs n [] l ∧ Below w.heap.size w wr)
  case atStart => exact ⟨0, [], Nat.zero_le _, rfl, rfl, Nat.le_refl _, NSet.made w, rfl, by go_grown⟩
  case round =>
    obtain ⟨k, ns, hk, rfl, rfl, hsn, hown, hP, hB⟩ := hrel
    have hBs := hB.size
    have hBl := hown.lt
    have HP : Aside (P.cabs n ns (l.drop k) = P.cabs n [] l) := hP
    clear hP
    by_cases hlt : k < l.length
    · obtain ⟨b, off, nm, c, be, lv, rfl, hbw, hd, hcw0, hcw1, hcw2, hcw3, hnm⟩ := hl.get (Below.refl _ _) k hlt
      have hc0 := cellIn hB hcw0
      have hc1 := cellIn hB hcw1
      have hc2 := cellIn hB hcw2
      have hc3 := cellIn hB hcw3
      rw [hd, P.cabs] at HP
      clear hd
      simp only at HP
      go_wp2_with fail
      refine (meetName_any w.heap.size ns nm _ hnm (by omega) (hown.alloc _)).mono ?_
      rintro e w1 ⟨rfl, hset, hgrow1⟩
      have hBa : Below w.heap.size w (wr.alloc (.cells #[.string nm, .int .i64 c, .int .i64 be, .bool lv] 79)) := hB.alloc hBs _
      have hB1 : Below w.heap.size w w1 := grown_below_map hBa (Nat.le_refl _) hgrow1
      have hbox1 : w1.cell? ⟨wr.heap.size, 1, none⟩ = some (.int .i64 c) := hgrow1.cell (by simp) (by simp; omega)
      have hbox2 : w1.cell? ⟨wr.heap.size, 2, none⟩ = some (.int .i64 be) := hgrow1.cell (by simp) (by simp; omega)
      cases hz : (P.meetE ns nm != 0)
      · have hz0 : P.meetE ns nm = 0 := by simpa using hz
        have hset1 := hset hz0
        rw [if_pos hz0] at HP
        clear hset hz0
        cases h1 : P.btw c 0 (n - 1)
        · rw [h1] at HP
          simp only [Bool.false_and, Bool.false_eq_true, if_false] at HP
          go_wp2_with (go_at_call 42; refine (within_any _ _ _ _).mono ?_; rintro e w2 ⟨rfl, rfl⟩; rw [h1])
          go_ret
          exact ⟨ret_int HP.out, hB1⟩
        · cases h2 : P.btw be 1 4
          · rw [h1, h2] at HP
            simp only [Bool.and_false, Bool.false_eq_true, if_false] at HP
            go_wp2_with (go_at_call 42; refine (within_any _ _ _ _).mono ?_; rintro e w2 ⟨rfl, rfl⟩; first | rw [h1] | rw [h2])
            go_ret
            exact ⟨ret_int HP.out, hB1⟩
          · rw [h1, h2] at HP
            simp only [Bool.and_self, if_true] at HP
            go_wp2_with (go_at_call 42; refine (within_any _ _ _ _).mono ?_; rintro e w2 ⟨rfl, rfl⟩; first | rw [h1] | rw [h2])
            go_roundg (l.length - (k + 1))
            case measure => omega
            case rel => exact ⟨k + 1, ns ++ [nm], by omega, rfl, by go_num, by simp; omega, hset1, HP.out, hB1⟩
      · rw [if_neg (by simpa using hz)] at HP
        clear hset
        go_wp2
        go_ret
        exact ⟨ret_int HP.out, hB1⟩
    · obtain rfl : k = l.length := by omega
      rw [List.drop_of_length_le (Nat.le_refl _), P.cabs] at HP
      go_wp2
      go_ret
      exact ⟨ret_int HP.out, hB⟩

def P.sizeE (legs souls : Int) (nc nb : Nat) : Int :=
  if (P.btw legs 1 7 && P.btw souls 1 60) = true then (if (decide (5 < nc) || decide (12 < nb)) = true then 2 else if (decide (nc = 0) || decide (nb = 0)) = true then 5 else 0) else 3

set_option maxHeartbeats 1000000 in
theorem checkSize_any (legs souls : Int) (cao bao : Option Addr) (nc nb cc bc : Nat) (w : World) :
    Calls Try.prog 51 #[.agg #[.int .i64 legs, .int .i64 souls, .slice cao nc cc, .slice bao nb bc]] w fun e w' => e = .returned (.int .i64 (P.sizeE legs souls nc nb)) ∧ Below w.heap.size w w' := by
  cases h1 : P.btw legs 1 7
  · have HE : Aside (P.sizeE legs souls nc nb = 3) := by show _ = _; rw [P.sizeE, h1]; rfl
    go_enter Try.func51, Try.ntmps51
    go_wp2_with (go_at_call 42; refine (within_any _ _ _ _).mono ?_; rintro e w2 ⟨rfl, rfl⟩; rw [h1])
    go_ret
    exact ⟨ret_int HE.out.symm, by go_grown⟩
  · cases h2 : P.btw souls 1 60
    · have HE : Aside (P.sizeE legs souls nc nb = 3) := by show _ = _; rw [P.sizeE, h1, h2]; rfl
      go_enter Try.func51, Try.ntmps51
      go_wp2_with (go_at_call 42; refine (within_any _ _ _ _).mono ?_; rintro e w2 ⟨rfl, rfl⟩; first | rw [h1] | rw [h2])
      go_ret
      exact ⟨ret_int HE.out.symm, by go_grown⟩
    · have HE : Aside (P.sizeE legs souls nc nb = (if (decide (5 < nc) || decide (12 < nb)) = true then 2 else if (decide (nc = 0) || decide (nb = 0)) = true then 5 else 0)) := by show _ = _; rw [P.sizeE, h1, h2]; rfl
      have fin : ∀ {x : Int}, (if (decide (5 < nc) || decide (12 < nb)) = true then 2 else if (decide (nc = 0) || decide (nb = 0)) = true then 5 else 0) = x → Aside (P.sizeE legs souls nc nb = x) := fun h => HE.out.trans h
      clear HE
      by_cases c1 : 5 < nc
      · have HF := fin (x := 2) (by simp [c1])
        clear fin
        have c1' : decide ((5 : Int) < (nc : Int)) = true := by simp; omega
        go_enter Try.func51, Try.ntmps51
        go_wp2_with (go_at_call 42; refine (within_any _ _ _ _).mono ?_; rintro e w2 ⟨rfl, rfl⟩; first | rw [h1] | rw [h2])
        go_ret
        exact ⟨ret_int HF.out.symm, by go_grown⟩
      · by_cases c2 : 12 < nb
        · have HF := fin (x := 2) (by simp [c2])
          clear fin
          go_enter Try.func51, Try.ntmps51
          go_wp2_with (go_at_call 42; refine (within_any _ _ _ _).mono ?_; rintro e w2 ⟨rfl, rfl⟩; first | rw [h1] | rw [h2])
          go_ret
          exact ⟨ret_int HF.out.symm, by go_grown⟩
        · by_cases c3 : nc = 0
          · have HF := fin (x := 5) (by simp [c1, c2, c3])
            clear fin
            subst c3
            go_enter Try.func51, Try.ntmps51
            go_wp2_with (go_at_call 42; refine (within_any _ _ _ _).mono ?_; rintro e w2 ⟨rfl, rfl⟩; first | rw [h1] | rw [h2])
            go_ret
            exact ⟨ret_int HF.out.symm, by go_grown⟩
          · have c3' : ((nc : Int) == 0) = false := by simp; omega
            by_cases c4 : nb = 0
            · have HF := fin (x := 5) (by simp [c1, c2, c4])
              clear fin
              subst c4
              go_enter Try.func51, Try.ntmps51
              go_wp2_with (go_at_call 42; refine (within_any _ _ _ _).mono ?_; rintro e w2 ⟨rfl, rfl⟩; first | rw [h1] | rw [h2])
              go_ret
              exact ⟨ret_int HF.out.symm, by go_grown⟩
            · have c4' : ((nb : Int) == 0) = false := by simp; omega
              have HF := fin (x := 0) (by simp [c1, c2, c3, c4])
              clear fin
              go_enter Try.func51, Try.ntmps51
              go_wp2_with (go_at_call 42; refine (within_any _ _ _ _).mono ?_; rintro e w2 ⟨rfl, rfl⟩; first | rw [h1] | rw [h2])
              go_ret
              exact ⟨ret_int HF.out.symm, by go_grown⟩

end Go.Proofs.Ytnadhpemmehedaa
