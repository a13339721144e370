/- Names; sets of names and of numbers that a call makes; walks of isName, meetName, checkHigher. -/
import Derived.Test.YtnadhpemmehedaaShipA
import Derived.Maps.OwnSet
import Derived.Maps.OwnOps
namespace Go.Proofs.Ytnadhpemmehedaa
open Go.RowKit Go.Maps Go.WideMaps
set_option linter.unusedSimpArgs false
set_option linter.unusedVariables false

def P.byteAt (s : ByteArray) (i : Nat) : Nat := if h : i < s.size then s[i].toNat else 0
theorem byteAt_eq {s : ByteArray} {i : Nat} (h : i < s.size) : P.byteAt s i = s[i].toNat := by rw [P.byteAt, dif_pos h]
def P.name (s : ByteArray) : Bool := P.btw s.size 1 8 && !P.some (fun i => !P.sign (P.byteAt s i)) s.size

set_option maxHeartbeats 400000 in
theorem isName1_any (s : ByteArray) (g k : Nat) (w : World) (hk : k < s.size) (hg : w.cell? ⟨g, 0, none⟩ = some (.string s)) :
    Calls Try.prog 60 #[.int .i64 k, .pointer (some ⟨g, 0, none⟩)] w fun e w' => e = .returned (.bool (!P.sign (P.byteAt s k))) ∧ Below w.heap.size w w' := by
  have HE : Aside (P.byteAt s k = s[k].toNat) := byteAt_eq hk
  go_enter Try.func60, Try.ntmps60
  go_wp2_with (go_at_call 61; refine (isSign_any _ _).mono ?_; rintro e w1 ⟨rfl, rfl⟩)
  go_ret
  exact ⟨ret_bool (by rw [HE.out]), Below.refl _ _⟩

theorem arr2 (a b : Value) : (#[a] ++ #[b] : Array Value) = #[a, b] := rfl
theorem arr3 (a b c : Value) : (#[a] ++ #[b, c] : Array Value) = #[a, b, c] := rfl
theorem arr4 (a b c d : Value) : (#[a] ++ #[b, c, d] : Array Value) = #[a, b, c, d] := rfl

theorem hasSign_any (s : ByteArray) (g : Nat) (w : World) (hs : s.size ≤ 1000) (hg : w.cell? ⟨g, 0, none⟩ = some (.string s)) :
    Calls Try.prog 46 #[.int .i64 s.size, .func (.func 60) #[] #[.pointer (some ⟨g, 0, none⟩)]] w fun e w' => e = .returned (.bool (P.some (fun i => !P.sign (P.byteAt s i)) s.size)) ∧ Below w.heap.size w w' := by
  refine has_any s.size 60 #[.pointer (some ⟨g, 0, none⟩)] (fun i => !P.sign (P.byteAt s i)) w hs (fun args wx => by go_simp) ?_
  intro k wx hk hbx
  rw [arr2]
  exact isName1_any s g k wx hk (cellIn hbx hg)

set_option maxHeartbeats 400000 in
theorem isName_any (s : ByteArray) (w : World) :
    Calls Try.prog 59 #[.string s] w fun e w' => e = .returned (.bool (P.name s)) ∧ Below w.heap.size w w' := by
  cases hb : P.btw s.size 1 8
  · have HN : Aside (P.name s = false) := by show _ = _; rw [P.name, hb]; rfl
    go_enter Try.func59, Try.ntmps59
    go_wp2_with (go_at_call 42; refine (within_any _ _ _ _).mono ?_; rintro e w1 ⟨rfl, rfl⟩; rw [hb])
    go_ret
    exact ⟨ret_bool HN.out.symm, by go_grown⟩
  · have HN : Aside (P.name s = !P.some (fun i => !P.sign (P.byteAt s i)) s.size) := by show _ = _; rw [P.name, hb]; rfl
    have hs : s.size ≤ 8 := by simp [P.btw] at hb; omega
    go_enter Try.func59, Try.ntmps59
    go_wp2_with (first
      | (go_at_call 42; refine (within_any _ _ _ _).mono ?_; rintro e w1 ⟨rfl, rfl⟩; rw [hb])
      | (go_at_call 46; refine (hasSign_any s w.heap.size _ (by omega) (by simp)).mono ?_; rintro e w2 ⟨rfl, hb2⟩))
    go_ret
    exact ⟨ret_bool HN.out.symm, bvia (by go_grown) hb2⟩

theorem Try.lawS : Keyed Try.prog 9 := string_keyed Try.underlying9
theorem Try.lawI : Keyed Try.prog 3 := int_keyed Try.underlying3
theorem Try.zeroUnit (w : World) : (zeroValue 70).run Try.prog w = .ok (.agg #[]) w := by kernel_rfl

def P.litS (s : ByteArray) : Lit := .string s.data.toList
def P.litI (n : Int) : Lit := .int .i64 n

/-- Block B is a set that has just these names. -/
abbrev NSet (w : World) (B : Nat) (l : List ByteArray) : Prop := w.ownsMap Try.prog 9 (unitElem (H := Unit)) B l.length (setOf (.agg []) (l.map P.litS))
abbrev ISet (w : World) (B : Nat) (l : List Int) : Prop := w.ownsMap Try.prog 3 (unitElem (H := Unit)) B l.length (setOf (.agg []) (l.map P.litI))

def P.hasName (l : List ByteArray) (s : ByteArray) : Bool := l.any fun x => decide (x = s)
def P.hasInt (l : List Int) (n : Int) : Bool := l.any fun x => decide (x = n)

theorem has_names (l : List ByteArray) (s : ByteArray) : Maps.has (setOf (H := Unit) (.agg []) (l.map P.litS)) (P.litS s) = P.hasName l s := by
  rw [has_setOf]
  · unfold P.hasName P.litS
    rw [List.any_map]
    congr 1
    funext x
    simp only [Function.comp, Lit.sameKey]
    rw [Bool.eq_iff_iff]
    simp
    constructor
    · intro h
      obtain ⟨⟨a⟩⟩ := x
      obtain ⟨⟨b⟩⟩ := s
      simp at h
      rw [h]
    · rintro rfl; rfl
  · intro x hx
    rw [List.mem_map] at hx
    obtain ⟨y, _, rfl⟩ := hx
    simp [P.litS, WideAt.IsKeyLit]

theorem has_ints (l : List Int) (n : Int) : Maps.has (setOf (H := Unit) (.agg []) (l.map P.litI)) (P.litI n) = P.hasInt l n := by
  rw [has_setOf]
  · unfold P.hasInt P.litI
    rw [List.any_map]
    congr 1
    funext x
    simp [Lit.sameKey]
  · intro x hx
    rw [List.mem_map] at hx
    obtain ⟨y, _, rfl⟩ := hx
    simp [P.litI, WideAt.IsKeyLit]

theorem NSet.made (w : World) : NSet (w.alloc (.map #[] 0)) w.heap.size [] := World.ownsMap_made _ _ _ _
theorem ISet.made (w : World) : ISet (w.alloc (.map #[] 0)) w.heap.size [] := World.ownsMap_made _ _ _ _

def P.meetE (l : List ByteArray) (s : ByteArray) : Int := if P.name s = true then (if P.hasName l s = true then 6 else 0) else 1

set_option maxHeartbeats 1000000 in
theorem meetName_any (B : Nat) (l : List ByteArray) (s : ByteArray) (w : World) (hs : s.size ≤ maxLen) (hl : l.length ≤ 1000) (hown : NSet w B l) :
    Calls Try.prog 55 #[.map (some B), .string s] w fun e w' => e = .returned (.int .i64 (P.meetE l s)) ∧ (P.meetE l s = 0 → NSet w' B (l ++ [s])) ∧ w.grownBy w' (some B) := by
  have hBl := hown.lt
  cases hn : P.name s
  · have HE : Aside (P.meetE l s = 1) := by show _ = _; rw [P.meetE, hn]; rfl
    go_enter Try.func55, Try.ntmps55
    go_wp2_with (go_at_call 59; refine (isName_any _ _).mono ?_; rintro e w1 ⟨rfl, hb1⟩; rw [hn])
    go_ret
    exact ⟨ret_int HE.out.symm, (fun h => by rw [HE.out] at h; cases h), ⟨hb1.os, hb1.tape, hb1.output, hb1.size, fun k hk _ => hb1.block k hk⟩⟩
  · cases hh : P.hasName l s
    · have HE : Aside (P.meetE l s = 0) := by show _ = _; rw [P.meetE, hn, hh]; rfl
      go_enter Try.func55, Try.ntmps55
      have HH : Aside (Maps.has (setOf (H := Unit) (.agg []) (l.map P.litS)) (P.litS s) = false) := by show _ = _; rw [has_names, hh]
      go_wp2_with (first
        | (go_at_call 59; refine (isName_any _ _).mono ?_; rintro e w1 ⟨rfl, hb1⟩; rw [hn]; have hown1 : NSet w1 B l := hown.kept ⟨hb1.os, hb1.tape, hb1.output, hb1.size, fun k hk _ => hb1.block k hk⟩ (row := none) (by simp))
        | (at_lookup; refine wpList_lookup_own_unit _ rfl _ _ 83 rfl 9 70 Try.lawS Try.underlying83 (Try.zeroUnit _) B l.length _ rfl hown1 _ (P.litS s) rfl (keyOf_string_mk Try.underlying9 hs) ?_; rw [HH.out])
        | (at_mapUpdate; refine wpList_mapUpdate_own _ rfl _ _ _ 83 rfl 9 70 Try.lawS Try.underlying83 _ B l.length _ rfl (hown1.alloc _) (by simp only [maxLen]; omega) _ _ (P.litS s) rfl rfl (keyOf_string_mk Try.underlying9 hs) _ [] unitElem_mk ?_; intro w2 hown2 hgrow2))
      go_ret
      refine ⟨ret_int HE.out.symm, fun _ => ?_, ?_⟩
      · show World.ownsMap _ _ _ _ _ _ _
        rw [List.map_append, List.map_cons, List.map_nil, setOf_snoc, List.length_append]
        exact hown2
      · exact ⟨hgrow2.os.trans hb1.os, hgrow2.tape.trans hb1.tape, hgrow2.output.trans hb1.output, Nat.le_trans hb1.size (Nat.le_trans (by simp) hgrow2.size), fun k hk hne => (hgrow2.block k (by simp; have := hb1.size; omega) hne).trans ((Below.heap_alloc w1 _ k (by have := hb1.size; omega)).trans (hb1.block k hk))⟩
    · have HE : Aside (P.meetE l s = 6) := by show _ = _; rw [P.meetE, hn, hh]; rfl
      have HH : Aside (Maps.has (setOf (H := Unit) (.agg []) (l.map P.litS)) (P.litS s) = true) := by show _ = _; rw [has_names, hh]
      go_enter Try.func55, Try.ntmps55
      go_wp2_with (first
        | (go_at_call 59; refine (isName_any _ _).mono ?_; rintro e w1 ⟨rfl, hb1⟩; rw [hn]; have hown1 : NSet w1 B l := hown.kept ⟨hb1.os, hb1.tape, hb1.output, hb1.size, fun k hk _ => hb1.block k hk⟩ (row := none) (by simp))
        | (at_lookup; refine wpList_lookup_own_unit _ rfl _ _ 83 rfl 9 70 Try.lawS Try.underlying83 (Try.zeroUnit _) B l.length _ rfl hown1 _ (P.litS s) rfl (keyOf_string_mk Try.underlying9 hs) ?_; rw [HH.out]))
      go_ret
      refine ⟨ret_int HE.out.symm, (fun h => by rw [HE.out] at h; cases h), ?_⟩
      exact ⟨hb1.os, hb1.tape, hb1.output, Nat.le_trans hb1.size (by simp), fun k hk hne => (Below.heap_alloc w1 _ k (by have := hb1.size; omega)).trans (hb1.block k hk)⟩

def P.high (n : Int) : List Int → List Int → Int
  | _, [] => 0
  | seen, h :: t => if P.btw h 0 (n - 1) = true then (if P.hasInt seen h = true then 6 else P.high n (seen ++ [h]) t) else 3

set_option maxHeartbeats 1000000 in
theorem checkHigher_any (ao : Option Addr) (cap : Nat) (l : List Int) (n : Nat) (w : World) (hl : IntsAt w ao cap l) (hn : n ≤ 1000) :
    Calls Try.prog 56 #[.slice ao l.length cap, .int .i64 n] w fun e w' => e = .returned (.int .i64 (P.high n [] l)) ∧ Below w.heap.size w w' := by
  have hle := hl.le
  have hmx := hl.max
  have hmm := @run_makeMap Try.prog
  unfold maxLen at hmx
  go_enter Try.func56, Try.ntmps56
  go_wp2
  go_loopg [13] l.length (fun g i wr => ∃ (k : Nat) (seen : List Int), k ≤ l.length ∧ g = l.length - k ∧ i = .int .i64 k ∧ seen.length ≤ k ∧ ISet wr w.heap.size seen ∧ P.high n seen (l.drop k) = P.high n [] l ∧ Below w.heap.size w wr)
  case atStart => exact ⟨0, [], Nat.zero_le _, rfl, rfl, Nat.le_refl _, ISet.made w, rfl, by go_grown⟩
  case round =>
    obtain ⟨k, seen, hk, rfl, rfl, hsn, hown, hP, hB⟩ := hrel
    have hBs := hB.size
    have HP : Aside (P.high n seen (l.drop k) = P.high n [] l) := hP
    clear hP
    by_cases hlt : k < l.length
    · obtain ⟨b, off, h, rfl, hbw, hd, hc⟩ := hl.get hB k hlt
      rw [hd, P.high] at HP
      clear hd
      cases hw : P.btw h 0 (n - 1)
      · have HE : Aside (P.high n [] l = 3) := by have := HP.out; rw [if_neg (by rw [hw]; simp)] at this; exact this.symm
        clear HP
        go_wp2_with (go_at_call 42; refine (within_any _ _ _ _).mono ?_; rintro e w1 ⟨rfl, rfl⟩; rw [hw])
        go_ret
        exact ⟨ret_int HE.out.symm, hB⟩
      · have hwf : (Lit.int .i64 h).wf = true := WalkArith.wf_i64 (by simp [P.btw] at hw; omega)
        cases hh : P.hasInt seen h
        · have HE : Aside (P.high n (seen ++ [h]) (l.drop (k + 1)) = P.high n [] l) := by have := HP.out; rw [if_pos hw, if_neg (by rw [hh]; simp)] at this; exact this
          have HH : Aside (Maps.has (setOf (H := Unit) (.agg []) (seen.map P.litI)) (P.litI h) = false) := by show _ = _; rw [has_ints, hh]
          clear HP
          go_wp2_with (first
            | (go_at_call 42; refine (within_any _ _ _ _).mono ?_; rintro e w1 ⟨rfl, rfl⟩; rw [hw])
            | (at_lookup; refine wpList_lookup_own_unit _ rfl _ _ 69 rfl 3 70 Try.lawI Try.underlying69 (Try.zeroUnit _) w.heap.size seen.length _ rfl hown _ (P.litI h) rfl (keyOf_int_mk Try.underlying3 hwf) ?_; rw [HH.out])
            | (at_mapUpdate; refine wpList_mapUpdate_own _ rfl _ _ _ 69 rfl 3 70 Try.lawI Try.underlying69 _ w.heap.size seen.length _ rfl (hown.alloc _) (by simp only [maxLen]; omega) _ _ (P.litI h) rfl rfl (keyOf_int_mk Try.underlying3 hwf) _ [] unitElem_mk ?_; intro w2 hown2 hgrow2))
          go_roundg (l.length - (k + 1))
          case measure => omega
          case rel =>
            refine ⟨k + 1, seen ++ [h], by omega, rfl, by go_num, by simp; omega, ?_, HE.out, (hB.alloc hBs _).grown hgrow2 (by simp; omega) (fun j hj => by cases hj; exact Nat.le_refl _)⟩
            show World.ownsMap _ _ _ _ _ _ _
            rw [List.map_append, List.map_cons, List.map_nil, setOf_snoc, List.length_append]
            exact hown2
        · have HE : Aside (P.high n [] l = 6) := by have := HP.out; rw [if_pos hw, if_pos hh] at this; exact this.symm
          have HH : Aside (Maps.has (setOf (H := Unit) (.agg []) (seen.map P.litI)) (P.litI h) = true) := by show _ = _; rw [has_ints, hh]
          clear HP
          go_wp2_with (first
            | (go_at_call 42; refine (within_any _ _ _ _).mono ?_; rintro e w1 ⟨rfl, rfl⟩; rw [hw])
            | (at_lookup; refine wpList_lookup_own_unit _ rfl _ _ 69 rfl 3 70 Try.lawI Try.underlying69 (Try.zeroUnit _) w.heap.size seen.length _ rfl hown _ (P.litI h) rfl (keyOf_int_mk Try.underlying3 hwf) ?_; rw [HH.out]))
          go_ret
          exact ⟨ret_int HE.out.symm, by go_grown⟩
    · obtain rfl : k = l.length := by omega
      have HE : Aside (P.high n [] l = 0) := by have := HP.out; rw [List.drop_of_length_le (Nat.le_refl _), P.high] at this; exact this.symm
      clear HP
      go_wp2
      go_ret
      exact ⟨ret_int HE.out.symm, hB⟩

end Go.Proofs.Ytnadhpemmehedaa
