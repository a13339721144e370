import Derived.Test.YtlamhfbdeinkkaeGreatBaAt
import Derived.Deep.LoopGhost
import Derived.WalkSmall
import Derived.Maps.OwnSet
import Derived.Maps.OwnOps
set_option maxRecDepth 10000
/- Walks of the leaves of package ship. -/
namespace Go.Proofs.YtlamhfbdeinkkaeGreat.Sh
open Go.RowKit
set_option linter.unusedSimpArgs false
set_option linter.unusedVariables false

set_option maxHeartbeats 400000 in
theorem within_any (n a b : Int) (w : World) :
    Calls Tryz.prog 208 #[.int .i64 n, .int .i64 a, .int .i64 b] w fun e w' => e = .returned (.bool (P.btw n a b)) ∧ w = w' := by
  by_cases h1 : a ≤ n <;> by_cases h2 : n ≤ b
  all_goals
    go_enter Tryz.func208, Tryz.ntmps208
    go_wp2
    go_ret
    simp [P.btw, h1, h2]

/-- The least number below n of which p holds; n, if there is none. -/
def P.least (p : Nat → Bool) (n : Nat) : Nat := (List.range n).findIdx p

theorem least_hit {p : Nat → Bool} {n k : Nat} (hk : k < n) (h : p k = true) (hP : ∀ j, j < k → p j = false) : P.least p n = k := by
  unfold P.least
  rw [List.findIdx_eq (by simpa using hk)]
  refine ⟨by simpa using h, fun j hj => ?_⟩
  simpa using hP j hj
theorem least_none {p : Nat → Bool} {n : Nat} (hP : ∀ j, j < n → p j = false) : P.least p n = n := by
  have : (List.range n).findIdx p = (List.range n).length := by
    rw [List.findIdx_eq_length]
    intro x hx
    exact hP x (by simpa using hx)
  simpa [P.least] using this

set_option maxHeartbeats 1000000 in
/-- 'first', with whatever function literal that answers p. -/
theorem shipFirst_any (n F : Nat) (cs : Array Value) (p : Nat → Bool) (w : World) (hn : n ≤ 1000)
    (hcf : ∀ (args : Array Value) (wx : World), (callFunc F args).run Tryz.prog wx = .ok (.enter F args) wx)
    (hp : Hid (∀ (k : Nat) (wx : World), k < n → Below w.heap.size w wx → Calls Tryz.prog F (#[.int .i64 k] ++ cs) wx fun e w' => e = .returned (.bool (p k)) ∧ Below wx.heap.size wx w')) :
    Calls Tryz.prog 241 #[.int .i64 n, .func (.func F) #[] cs] w fun e w' => e = .returned (.int .i64 (P.least p n)) ∧ Below w.heap.size w w' := by
  go_enter Tryz.func241, Tryz.ntmps241
  go_wp2
  go_loopg [7] n (fun g i wr => ∃ (k : Nat), k ≤ n ∧ g = n - k ∧ i = .int .i64 k ∧ (∀ j, j < k → p j = false) ∧ Below w.heap.size w wr)
  case atStart => exact ⟨0, Nat.zero_le _, rfl, rfl, fun j h => by omega, Below.refl _ _⟩
  case round =>
    obtain ⟨k, hk, rfl, rfl, hP, hB⟩ := hrel
    have HP : Aside (∀ j, j < k → p j = false) := hP
    clear hP
    by_cases hlt : k < n
    · cases hpf : p k
      · go_wp2_with fail
        refine (hp.out k _ hlt hB).mono ?_
        rintro e w1 ⟨rfl, hb1⟩
        rw [hpf]
        go_wp2
        go_roundg (n - (k + 1))
        case measure => omega
        case rel => exact ⟨k + 1, by omega, rfl, by go_num, fun j hj => by rcases Nat.lt_or_ge j k with h | h; exact HP.out j h; obtain rfl : j = k := (by omega); exact hpf, bvia hB hb1⟩
      · go_wp2_with fail
        refine (hp.out k _ hlt hB).mono ?_
        rintro e w1 ⟨rfl, hb1⟩
        rw [hpf]
        go_wp2
        go_ret
        exact ⟨ret_int (by rw [least_hit hlt hpf HP.out]), bvia hB hb1⟩
    · obtain rfl : k = n := by omega
      go_wp2
      go_ret
      exact ⟨ret_int (by rw [least_none HP.out]), hB⟩

def P.some (p : Nat → Bool) (n : Nat) : Bool := (List.range n).any p
theorem some_least (p : Nat → Bool) (n : Nat) : decide (P.least p n < n) = P.some p n := by
  have h1 : P.least p n < n ↔ P.some p n = true := by
    unfold P.least P.some
    have := List.findIdx_lt_length (p := p) (xs := List.range n)
    rw [List.length_range] at this
    rw [this, List.any_eq_true]
  cases h : P.some p n
  · rw [decide_eq_false_iff_not]; intro hc; have := h1.1 (by omega); rw [h] at this; cases this
  · rw [decide_eq_true_iff]; have := h1.2 h; omega

set_option maxHeartbeats 1000000 in
theorem has_any (n F : Nat) (cs : Array Value) (p : Nat → Bool) (w : World) (hn : n ≤ 1000)
    (hcf : ∀ (args : Array Value) (wx : World), (callFunc F args).run Tryz.prog wx = .ok (.enter F args) wx)
    (hp : Hid (∀ (k : Nat) (wx : World), k < n → Below w.heap.size w wx → Calls Tryz.prog F (#[.int .i64 k] ++ cs) wx fun e w' => e = .returned (.bool (p k)) ∧ Below wx.heap.size wx w')) :
    Calls Tryz.prog 212 #[.int .i64 n, .func (.func F) #[] cs] w fun e w' => e = .returned (.bool (P.some p n)) ∧ Below w.heap.size w w' := by
  have HS : Aside (decide (P.least p n < n) = P.some p n) := some_least p n
  go_enter Tryz.func212, Tryz.ntmps212
  go_wp2_with (go_at_call 241; refine (shipFirst_any n F cs p _ hn hcf hp).mono ?_; rintro e w1 ⟨rfl, hb1⟩)
  go_ret
  exact ⟨ret_bool HS.out, hb1⟩

def P.sign (c : Nat) : Bool := (decide (65 ≤ c) && decide (c ≤ 90)) || (decide (48 ≤ c) && decide (c ≤ 57))

set_option maxHeartbeats 400000 in
theorem isSign_any (c : Nat) (w : World) :
    Calls Tryz.prog 248 #[.int .u8 c] w fun e w' => e = .returned (.bool (P.sign c)) ∧ w = w' := by
  by_cases h1 : 65 ≤ c <;> by_cases h2 : c ≤ 90 <;> by_cases h3 : 48 ≤ c <;> by_cases h4 : c ≤ 57
  all_goals first
    | (exfalso; omega)
    | (go_enter Tryz.func248, Tryz.ntmps248
       go_wp2
       go_ret
       simp [P.sign, h1, h2, h3, h4]
       try omega)

end Go.Proofs.YtlamhfbdeinkkaeGreat.Sh
/- Names; sets of names and of numbers that a call makes; walks of isName, meetName, checkHigher. -/
namespace Go.Proofs.YtlamhfbdeinkkaeGreat.Sh
open Go.RowKit Go.Maps Go.WideMaps
set_option linter.unusedSimpArgs false
set_option linter.unusedVariables false

def P.byteAt (s : ByteArray) (i : Nat) : Nat := if h : i < s.size then s[i].toNat else 0
theorem byteAt_eq {s : ByteArray} {i : Nat} (h : i < s.size) : P.byteAt s i = s[i].toNat := by rw [P.byteAt, dif_pos h]
def P.name (s : ByteArray) : Bool := P.btw s.size 1 8 && !P.some (fun i => !P.sign (P.byteAt s i)) s.size

set_option maxHeartbeats 400000 in
theorem isName1_any (s : ByteArray) (g k : Nat) (w : World) (hk : k < s.size) (hg : w.cell? ⟨g, 0, none⟩ = some (.string s)) :
    Calls Tryz.prog 247 #[.int .i64 k, .pointer (some ⟨g, 0, none⟩)] w fun e w' => e = .returned (.bool (!P.sign (P.byteAt s k))) ∧ Below w.heap.size w w' := by
  have HE : Aside (P.byteAt s k = s[k].toNat) := byteAt_eq hk
  go_enter Tryz.func247, Tryz.ntmps247
  go_wp2_with (go_at_call 248; refine (isSign_any _ _).mono ?_; rintro e w1 ⟨rfl, rfl⟩)
  go_ret
  exact ⟨ret_bool (by rw [HE.out]), Below.refl _ _⟩

theorem arr2 (a b : Value) : (#[a] ++ #[b] : Array Value) = #[a, b] := rfl
theorem arr3 (a b c : Value) : (#[a] ++ #[b, c] : Array Value) = #[a, b, c] := rfl
theorem arr4 (a b c d : Value) : (#[a] ++ #[b, c, d] : Array Value) = #[a, b, c, d] := rfl

theorem hasSign_any (s : ByteArray) (g : Nat) (w : World) (hs : s.size ≤ 1000) (hg : w.cell? ⟨g, 0, none⟩ = some (.string s)) :
    Calls Tryz.prog 212 #[.int .i64 s.size, .func (.func 247) #[] #[.pointer (some ⟨g, 0, none⟩)]] w fun e w' => e = .returned (.bool (P.some (fun i => !P.sign (P.byteAt s i)) s.size)) ∧ Below w.heap.size w w' := by
  refine has_any s.size 247 #[.pointer (some ⟨g, 0, none⟩)] (fun i => !P.sign (P.byteAt s i)) w hs (fun args wx => by go_simp) ?_
  intro k wx hk hbx
  rw [arr2]
  exact isName1_any s g k wx hk (cellIn hbx hg)

set_option maxHeartbeats 400000 in
theorem isName_any (s : ByteArray) (w : World) :
    Calls Tryz.prog 240 #[.string s] w fun e w' => e = .returned (.bool (P.name s)) ∧ Below w.heap.size w w' := by
  cases hb : P.btw s.size 1 8
  · have HN : Aside (P.name s = false) := by show _ = _; rw [P.name, hb]; rfl
    go_enter Tryz.func240, Tryz.ntmps240
    go_wp2_with (go_at_call 208; refine (within_any _ _ _ _).mono ?_; rintro e w1 ⟨rfl, rfl⟩; rw [hb])
    go_ret
    exact ⟨ret_bool HN.out.symm, by go_grown⟩
  · have HN : Aside (P.name s = !P.some (fun i => !P.sign (P.byteAt s i)) s.size) := by show _ = _; rw [P.name, hb]; rfl
    have hs : s.size ≤ 8 := by simp [P.btw] at hb; omega
    go_enter Tryz.func240, Tryz.ntmps240
    go_wp2_with (first
      | (go_at_call 208; refine (within_any _ _ _ _).mono ?_; rintro e w1 ⟨rfl, rfl⟩; rw [hb])
      | (go_at_call 212; refine (hasSign_any s w.heap.size _ (by omega) (by simp)).mono ?_; rintro e w2 ⟨rfl, hb2⟩))
    go_ret
    exact ⟨ret_bool HN.out.symm, bvia (by go_grown) hb2⟩

theorem Tryz.lawS : Keyed Tryz.prog 9 := string_keyed Tryz.underlying9
theorem Tryz.lawI : Keyed Tryz.prog 3 := int_keyed Tryz.underlying3
theorem Tryz.zeroUnit (w : World) : (zeroValue 233).run Tryz.prog w = .ok (.agg #[]) w := by kernel_rfl

def P.litS (s : ByteArray) : Lit := .string s.data.toList
def P.litI (n : Int) : Lit := .int .i64 n

/-- Block B is a set that has just these names. -/
abbrev NSet (w : World) (B : Nat) (l : List ByteArray) : Prop := w.ownsMap Tryz.prog 9 (unitElem (H := Unit)) B l.length (setOf (.agg []) (l.map P.litS))
abbrev ISet (w : World) (B : Nat) (l : List Int) : Prop := w.ownsMap Tryz.prog 3 (unitElem (H := Unit)) B l.length (setOf (.agg []) (l.map P.litI))

def P.hasName (l : List ByteArray) (s : ByteArray) : Bool := l.any fun x => decide (x = s)
def P.hasInt (l : List Int) (n : Int) : Bool := l.any fun x => decide (x = n)

theorem has_names (l : List ByteArray) (s : ByteArray) : Maps.has (setOf (H := Unit) (.agg []) (l.map P.litS)) (P.litS s) = P.hasName l s := by
  rw [has_setOf]
  · unfold P.hasName P.litS
    rw [List.any_map]
    congr 1
    funext x
    simp only [Function.comp, Lit.sameKey]
    rw [Bool.eq_iff_iff]
    simp
    constructor
    · intro h
      obtain ⟨⟨a⟩⟩ := x
      obtain ⟨⟨b⟩⟩ := s
      simp at h
      rw [h]
    · rintro rfl; rfl
  · intro x hx
    rw [List.mem_map] at hx
    obtain ⟨y, _, rfl⟩ := hx
    simp [P.litS, WideAt.IsKeyLit]

theorem has_ints (l : List Int) (n : Int) : Maps.has (setOf (H := Unit) (.agg []) (l.map P.litI)) (P.litI n) = P.hasInt l n := by
  rw [has_setOf]
  · unfold P.hasInt P.litI
    rw [List.any_map]
    congr 1
    funext x
    simp [Lit.sameKey]
  · intro x hx
    rw [List.mem_map] at hx
    obtain ⟨y, _, rfl⟩ := hx
    simp [P.litI, WideAt.IsKeyLit]

theorem NSet.made (w : World) : NSet (w.alloc (.map #[] 0)) w.heap.size [] := World.ownsMap_made _ _ _ _
theorem ISet.made (w : World) : ISet (w.alloc (.map #[] 0)) w.heap.size [] := World.ownsMap_made _ _ _ _

def P.meetE (l : List ByteArray) (s : ByteArray) : Int := if P.name s = true then (if P.hasName l s = true then 6 else 0) else 1

set_option maxHeartbeats 1000000 in
theorem meetName_any (B : Nat) (l : List ByteArray) (s : ByteArray) (w : World) (hs : s.size ≤ maxLen) (hl : l.length ≤ 1000) (hown : NSet w B l) :
    Calls Tryz.prog 209 #[.map (some B), .string s] w fun e w' => e = .returned (.int .i64 (P.meetE l s)) ∧ (P.meetE l s = 0 → NSet w' B (l ++ [s])) ∧ w.grownBy w' (some B) := by
  have hBl := hown.lt
  cases hn : P.name s
  · have HE : Aside (P.meetE l s = 1) := by show _ = _; rw [P.meetE, hn]; rfl
    go_enter Tryz.func209, Tryz.ntmps209
    go_wp2_with (go_at_call 240; refine (isName_any _ _).mono ?_; rintro e w1 ⟨rfl, hb1⟩; rw [hn])
    go_ret
    exact ⟨ret_int HE.out.symm, (fun h => by rw [HE.out] at h; cases h), ⟨hb1.os, hb1.tape, hb1.output, hb1.size, fun k hk _ => hb1.block k hk⟩⟩
  · cases hh : P.hasName l s
    · have HE : Aside (P.meetE l s = 0) := by show _ = _; rw [P.meetE, hn, hh]; rfl
      go_enter Tryz.func209, Tryz.ntmps209
      have HH : Aside (Maps.has (setOf (H := Unit) (.agg []) (l.map P.litS)) (P.litS s) = false) := by show _ = _; rw [has_names, hh]
      go_wp2_with (first
        | (go_at_call 240; refine (isName_any _ _).mono ?_; rintro e w1 ⟨rfl, hb1⟩; rw [hn]; have hown1 : NSet w1 B l := hown.kept ⟨hb1.os, hb1.tape, hb1.output, hb1.size, fun k hk _ => hb1.block k hk⟩ (row := none) (by simp))
        | (at_lookup; refine wpList_lookup_own_unit _ rfl _ _ 222 rfl 9 233 Tryz.lawS Tryz.underlying222 (Tryz.zeroUnit _) B l.length _ rfl hown1 _ (P.litS s) rfl (keyOf_string_mk Tryz.underlying9 hs) ?_; rw [HH.out])
        | (at_mapUpdate; refine wpList_mapUpdate_own _ rfl _ _ _ 222 rfl 9 233 Tryz.lawS Tryz.underlying222 _ B l.length _ rfl (hown1.alloc _) (by simp only [maxLen]; omega) _ _ (P.litS s) rfl rfl (keyOf_string_mk Tryz.underlying9 hs) _ [] unitElem_mk ?_; intro w2 hown2 hgrow2))
      go_ret
      refine ⟨ret_int HE.out.symm, fun _ => ?_, ?_⟩
      · show World.ownsMap _ _ _ _ _ _ _
        rw [List.map_append, List.map_cons, List.map_nil, setOf_snoc, List.length_append]
        exact hown2
      · exact ⟨hgrow2.os.trans hb1.os, hgrow2.tape.trans hb1.tape, hgrow2.output.trans hb1.output, Nat.le_trans hb1.size (Nat.le_trans (by simp) hgrow2.size), fun k hk hne => (hgrow2.block k (by simp; have := hb1.size; omega) hne).trans ((Below.heap_alloc w1 _ k (by have := hb1.size; omega)).trans (hb1.block k hk))⟩
    · have HE : Aside (P.meetE l s = 6) := by show _ = _; rw [P.meetE, hn, hh]; rfl
      have HH : Aside (Maps.has (setOf (H := Unit) (.agg []) (l.map P.litS)) (P.litS s) = true) := by show _ = _; rw [has_names, hh]
      go_enter Tryz.func209, Tryz.ntmps209
      go_wp2_with (first
        | (go_at_call 240; refine (isName_any _ _).mono ?_; rintro e w1 ⟨rfl, hb1⟩; rw [hn]; have hown1 : NSet w1 B l := hown.kept ⟨hb1.os, hb1.tape, hb1.output, hb1.size, fun k hk _ => hb1.block k hk⟩ (row := none) (by simp))
        | (at_lookup; refine wpList_lookup_own_unit _ rfl _ _ 222 rfl 9 233 Tryz.lawS Tryz.underlying222 (Tryz.zeroUnit _) B l.length _ rfl hown1 _ (P.litS s) rfl (keyOf_string_mk Tryz.underlying9 hs) ?_; rw [HH.out]))
      go_ret
      refine ⟨ret_int HE.out.symm, (fun h => by rw [HE.out] at h; cases h), ?_⟩
      exact ⟨hb1.os, hb1.tape, hb1.output, Nat.le_trans hb1.size (by simp), fun k hk hne => (Below.heap_alloc w1 _ k (by have := hb1.size; omega)).trans (hb1.block k hk)⟩

def P.high (n : Int) : List Int → List Int → Int
  | _, [] => 0
  | seen, h :: t => if P.btw h 0 (n - 1) = true then (if P.hasInt seen h = true then 6 else P.high n (seen ++ [h]) t) else 3

set_option maxHeartbeats 1000000 in
theorem checkHigher_any (ao : Option Addr) (cap : Nat) (l : List Int) (n : Nat) (w : World) (hl : IntsAt w ao cap l) (hn : n ≤ 1000) :
    Calls Tryz.prog 210 #[.slice ao l.length cap, .int .i64 n] w fun e w' => e = .returned (.int .i64 (P.high n [] l)) ∧ Below w.heap.size w w' := by
  have hle := hl.le
  have hmx := hl.max
  have hmm := @run_makeMap Tryz.prog
  unfold maxLen at hmx
  go_enter Tryz.func210, Tryz.ntmps210
  go_wp2
  go_loopg [13] l.length (fun g i wr => ∃ (k : Nat) (seen : List Int), k ≤ l.length ∧ g = l.length - k ∧ i = .int .i64 k ∧ seen.length ≤ k ∧ ISet wr w.heap.size seen ∧ P.high n seen (l.drop k) = P.high n [] l ∧ Below w.heap.size w wr)
  case atStart => exact ⟨0, [], Nat.zero_le _, rfl, rfl, Nat.le_refl _, ISet.made w, rfl, by go_grown⟩
  case round =>
    obtain ⟨k, seen, hk, rfl, rfl, hsn, hown, hP, hB⟩ := hrel
    have hBs := hB.size
    have HP : Aside (P.high n seen (l.drop k) = P.high n [] l) := hP
    clear hP
    by_cases hlt : k < l.length
    · obtain ⟨b, off, h, rfl, hbw, hd, hc⟩ := hl.get hB k hlt
      rw [hd, P.high] at HP
      clear hd
      cases hw : P.btw h 0 (n - 1)
      · have HE : Aside (P.high n [] l = 3) := by have := HP.out; rw [if_neg (by rw [hw]; simp)] at this; exact this.symm
        clear HP
        go_wp2_with (go_at_call 208; refine (within_any _ _ _ _).mono ?_; rintro e w1 ⟨rfl, rfl⟩; rw [hw])
        go_ret
        exact ⟨ret_int HE.out.symm, hB⟩
      · have hwf : (Lit.int .i64 h).wf = true := WalkArith.wf_i64 (by simp [P.btw] at hw; omega)
        cases hh : P.hasInt seen h
        · have HE : Aside (P.high n (seen ++ [h]) (l.drop (k + 1)) = P.high n [] l) := by have := HP.out; rw [if_pos hw, if_neg (by rw [hh]; simp)] at this; exact this
          have HH : Aside (Maps.has (setOf (H := Unit) (.agg []) (seen.map P.litI)) (P.litI h) = false) := by show _ = _; rw [has_ints, hh]
          clear HP
          go_wp2_with (first
            | (go_at_call 208; refine (within_any _ _ _ _).mono ?_; rintro e w1 ⟨rfl, rfl⟩; rw [hw])
            | (at_lookup; refine wpList_lookup_own_unit _ rfl _ _ 201 rfl 3 233 Tryz.lawI Tryz.underlying201 (Tryz.zeroUnit _) w.heap.size seen.length _ rfl hown _ (P.litI h) rfl (keyOf_int_mk Tryz.underlying3 hwf) ?_; rw [HH.out])
            | (at_mapUpdate; refine wpList_mapUpdate_own _ rfl _ _ _ 201 rfl 3 233 Tryz.lawI Tryz.underlying201 _ w.heap.size seen.length _ rfl (hown.alloc _) (by simp only [maxLen]; omega) _ _ (P.litI h) rfl rfl (keyOf_int_mk Tryz.underlying3 hwf) _ [] unitElem_mk ?_; intro w2 hown2 hgrow2))
          go_roundg (l.length - (k + 1))
          case measure => omega
          case rel =>
            refine ⟨k + 1, seen ++ [h], by omega, rfl, by go_num, by simp; omega, ?_, HE.out, (hB.alloc hBs _).grown hgrow2 (by simp; omega) (fun j hj => by cases hj; exact Nat.le_refl _)⟩
            show World.ownsMap _ _ _ _ _ _ _
            rw [List.map_append, List.map_cons, List.map_nil, setOf_snoc, List.length_append]
            exact hown2
        · have HE : Aside (P.high n [] l = 6) := by have := HP.out; rw [if_pos hw, if_pos hh] at this; exact this.symm
          have HH : Aside (Maps.has (setOf (H := Unit) (.agg []) (seen.map P.litI)) (P.litI h) = true) := by show _ = _; rw [has_ints, hh]
          clear HP
          go_wp2_with (first
            | (go_at_call 208; refine (within_any _ _ _ _).mono ?_; rintro e w1 ⟨rfl, rfl⟩; rw [hw])
            | (at_lookup; refine wpList_lookup_own_unit _ rfl _ _ 201 rfl 3 233 Tryz.lawI Tryz.underlying201 (Tryz.zeroUnit _) w.heap.size seen.length _ rfl hown _ (P.litI h) rfl (keyOf_int_mk Tryz.underlying3 hwf) ?_; rw [HH.out]))
          go_ret
          exact ⟨ret_int HE.out.symm, by go_grown⟩
    · obtain rfl : k = l.length := by omega
      have HE : Aside (P.high n [] l = 0) := by have := HP.out; rw [List.drop_of_length_le (Nat.le_refl _), P.high] at this; exact this.symm
      clear HP
      go_wp2
      go_ret
      exact ⟨ret_int HE.out.symm, hB⟩

end Go.Proofs.YtlamhfbdeinkkaeGreat.Sh
/- Ships in memory; walks of checkSize, checkCategories, checkCabins. -/
namespace Go.Proofs.YtlamhfbdeinkkaeGreat.Sh
open Go.RowKit Go.Maps Go.WideMaps
set_option linter.unusedSimpArgs false
set_option linter.unusedVariables false

/-- A category: its name, its Higher. A cabin: its name, category, berths, whether it is level. -/
abbrev Cat := ByteArray × List Int
abbrev Cab := ByteArray × Int × Int × Bool

def RCat (w : World) (c : Cat) (cs : List Value) : Prop := ∃ hao hcap, cs = [.string c.1, .slice hao c.2.length hcap] ∧ IntsAt w hao hcap c.2 ∧ c.1.size ≤ maxLen
def RCab (_ : World) (c : Cab) (cs : List Value) : Prop := cs = [.string c.1, .int .i64 c.2.1, .int .i64 c.2.2.1, .bool c.2.2.2] ∧ c.1.size ≤ maxLen
theorem RCat.mono : Mono RCat := fun w w' x cs hb ⟨hao, hcap, h1, h2, h3⟩ => ⟨hao, hcap, h1, SlAt.below RInt.mono h2 hb, h3⟩
theorem RCab.mono : Mono RCab := fun _ _ _ _ _ h => h
abbrev CatsAt (w : World) (ao : Option Addr) (cap : Nat) (l : List Cat) : Prop := SlAt RCat 2 w ao cap l
abbrev CabsAt (w : World) (ao : Option Addr) (cap : Nat) (l : List Cab) : Prop := SlAt RCab 4 w ao cap l

theorem CatsAt.get {w w' : World} {ao : Option Addr} {cap : Nat} {l : List Cat} (h : CatsAt w ao cap l) (hb : Below w.heap.size w w') (k : Nat) (hk : k < l.length) :
    ∃ b off nm hs hao hcap, ao = some ⟨b, off, none⟩ ∧ b < w.heap.size ∧ l.drop k = (nm, hs) :: l.drop (k + 1) ∧ w'.cell? ⟨b, off + k * 2, none⟩ = some (.string nm) ∧ w'.cell? ⟨b, off + k * 2 + 1, none⟩ = some (.slice hao hs.length hcap) ∧ IntsAt w' hao hcap hs ∧ nm.size ≤ maxLen := by
  obtain ⟨b, off, x, cs, h1, h2, h3, ⟨hao, hcap, h4, h5, h6⟩, _, h7⟩ := SlAt.get RCat.mono h hb k hk
  subst h4
  exact ⟨b, off, x.1, x.2, hao, hcap, h1, h2, h3, by simpa using h7 0 _ rfl, by simpa using h7 1 _ rfl, h5, h6⟩

theorem CabsAt.get {w w' : World} {ao : Option Addr} {cap : Nat} {l : List Cab} (h : CabsAt w ao cap l) (hb : Below w.heap.size w w') (k : Nat) (hk : k < l.length) :
    ∃ b off nm c be lv, ao = some ⟨b, off, none⟩ ∧ b < w.heap.size ∧ l.drop k = (nm, c, be, lv) :: l.drop (k + 1) ∧ w'.cell? ⟨b, off + k * 4, none⟩ = some (.string nm) ∧ w'.cell? ⟨b, off + k * 4 + 1, none⟩ = some (.int .i64 c) ∧ w'.cell? ⟨b, off + k * 4 + 2, none⟩ = some (.int .i64 be) ∧ w'.cell? ⟨b, off + k * 4 + 3, none⟩ = some (.bool lv) ∧ nm.size ≤ maxLen := by
  obtain ⟨b, off, x, cs, h1, h2, h3, ⟨h4, h6⟩, _, h7⟩ := SlAt.get RCab.mono h hb k hk
  subst h4
  exact ⟨b, off, x.1, x.2.1, x.2.2.1, x.2.2.2, h1, h2, h3, by simpa using h7 0 _ rfl, by simpa using h7 1 _ rfl, by simpa using h7 2 _ rfl, by simpa using h7 3 _ rfl, h6⟩

def P.cats (n : Int) : List ByteArray → List Cat → Int
  | _, [] => 0
  | ns, c :: t => if P.meetE ns c.1 = 0 then (if P.high n [] c.2 = 0 then P.cats n (ns ++ [c.1]) t else P.high n [] c.2) else P.meetE ns c.1

theorem grown_below_map {w W0 w' : World} {B : Nat} (hB : Below w.heap.size w W0) (hb : w.heap.size ≤ B) (hg : W0.grownBy w' (some B)) : Below w.heap.size w w' :=
  hB.grown hg hB.size (fun j hj => by cases hj; exact hb)

theorem NSet.below {w w' : World} {B : Nat} {l : List ByteArray} (h : NSet w B l) (hb : Below w.heap.size w w') : NSet w' B l :=
  World.ownsMap.kept h (row := none) ⟨hb.os, hb.tape, hb.output, hb.size, fun k hk _ => hb.block k hk⟩ (by simp)

set_option maxHeartbeats 1000000 in
theorem checkCategories_any (ao : Option Addr) (cap : Nat) (l : List Cat) (w : World) (hl : CatsAt w ao cap l) (hn : l.length ≤ 1000) :
    Calls Tryz.prog 165 #[.slice ao l.length cap] w fun e w' => e = .returned (.int .i64 (P.cats l.length [] l)) ∧ Below w.heap.size w w' := by
  have hle := hl.le
  have hmx := hl.max
  have hmm := @run_makeMap Tryz.prog
  unfold maxLen at hmx
  go_enter Tryz.func165, Tryz.ntmps165
  go_wp2
  go_loopg [11] l.length (fun g i wr => ∃ (k : Nat) (ns : List ByteArray), k ≤ l.length ∧ g = l.length - k ∧ i = .int .i64 k ∧ ns.length ≤ k ∧ NSet wr w.heap.size ns ∧ P.cats l.length ns (l.drop k) = P.cats l.length [] l ∧ Below w.heap.size w wr)
  case atStart => exact ⟨0, [], Nat.zero_le _, rfl, rfl, Nat.le_refl _, NSet.made w, rfl, by go_grown⟩
  case round =>
    obtain ⟨k, ns, hk, rfl, rfl, hsn, hown, hP, hB⟩ := hrel
    have hBs := hB.size
    have hBl := hown.lt
    have HP : Aside (P.cats l.length ns (l.drop k) = P.cats l.length [] l) := hP
    clear hP
    by_cases hlt : k < l.length
    · obtain ⟨b, off, nm, hs, hao, hcap, rfl, hbw, hd, hcw0, hcw1, hin, hnm⟩ := hl.get (Below.refl _ _) k hlt
      have hc0 := cellIn hB hcw0
      have hc1 := cellIn hB hcw1
      rw [hd, P.cats] at HP
      clear hd
      simp only at HP
      go_wp2_with fail
      refine (meetName_any w.heap.size ns nm _ hnm (by omega) (hown.alloc _)).mono ?_
      rintro e w1 ⟨rfl, hset, hgrow1⟩
      have hBa : Below w.heap.size w (wr.alloc (.cells #[.string nm, .slice hao hs.length hcap] 141)) := hB.alloc hBs _
      have hB1 : Below w.heap.size w w1 := grown_below_map hBa (Nat.le_refl _) hgrow1
      have hbox : w1.cell? ⟨wr.heap.size, 1, none⟩ = some (.slice hao hs.length hcap) := hgrow1.cell (by simp) (by simp; omega)
      cases hz : (P.meetE ns nm != 0)
      · have hz0 : P.meetE ns nm = 0 := by simpa using hz
        have hset1 := hset hz0
        rw [if_pos hz0] at HP
        clear hset hz0
        cases hy : (P.high l.length [] hs != 0)
        · have hy0 : P.high l.length [] hs = 0 := by simpa using hy
          rw [if_pos hy0] at HP
          clear hy0
          go_wp2_with (go_at_call 210; refine (checkHigher_any _ _ hs l.length _ (SlAt.below RInt.mono hin hB1) hn).mono ?_; rintro e w2 ⟨rfl, hb2⟩)
          go_roundg (l.length - (k + 1))
          case measure => omega
          case rel => exact ⟨k + 1, ns ++ [nm], by omega, rfl, by go_num, by simp; omega, hset1.below hb2, HP.out, bvia hB1 hb2⟩
        · rw [if_neg (by simpa using hy)] at HP
          go_wp2_with (go_at_call 210; refine (checkHigher_any _ _ hs l.length _ (SlAt.below RInt.mono hin hB1) hn).mono ?_; rintro e w2 ⟨rfl, hb2⟩)
          go_ret
          exact ⟨ret_int HP.out, bvia hB1 hb2⟩
      · rw [if_neg (by simpa using hz)] at HP
        clear hset
        go_wp2
        go_ret
        exact ⟨ret_int HP.out, hB1⟩
    · obtain rfl : k = l.length := by omega
      rw [List.drop_of_length_le (Nat.le_refl _), P.cats] at HP
      go_wp2
      go_ret
      exact ⟨ret_int HP.out, hB⟩

def P.cabs (n : Int) : List ByteArray → List Cab → Int
  | _, [] => 0
  | ns, c :: t => if P.meetE ns c.1 = 0 then (if (P.btw c.2.1 0 (n - 1) && P.btw c.2.2.1 1 4) = true then P.cabs n (ns ++ [c.1]) t else 3) else P.meetE ns c.1

set_option maxHeartbeats 1000000 in
theorem checkCabins_any (ao : Option Addr) (cap : Nat) (l : List Cab) (n : Nat) (w : World) (hl : CabsAt w ao cap l) (hn : n ≤ 1000) (hll : l.length ≤ 1000) :
    Calls Tryz.prog 167 #[.slice ao l.length cap, .int .i64 n] w fun e w' => e = .returned (.int .i64 (P.cabs n [] l)) ∧ Below w.heap.size w w' := by
  have hle := hl.le
  have hmx := hl.max
  have hmm := @run_makeMap Tryz.prog
  unfold maxLen at hmx
  go_enter Tryz.func167, Tryz.ntmps167
  go_wp2
  go_loopg [12] l.length (fun g i wr => ∃ (k : Nat) (ns : List ByteArray), k ≤ l.length ∧ g = l.length - k ∧ i = .int .i64 k ∧ ns.length ≤ k ∧ NSet wr w.heap.size ns ∧ P.cabs n ns (l.drop k) = P.cabs n [] l ∧ Below w.heap.size w wr)
  case atStart => exact ⟨0, [], Nat.zero_le _, rfl, rfl, Nat.le_refl _, NSet.made w, rfl, by go_grown⟩
  case round =>
    obtain ⟨k, ns, hk, rfl, rfl, hsn, hown, hP, hB⟩ := hrel
    have hBs := hB.size
    have hBl := hown.lt
    have HP : Aside (P.cabs n ns (l.drop k) = P.cabs n [] l) := hP
    clear hP
    by_cases hlt : k < l.length
    · obtain ⟨b, off, nm, c, be, lv, rfl, hbw, hd, hcw0, hcw1, hcw2, hcw3, hnm⟩ := hl.get (Below.refl _ _) k hlt
      have hc0 := cellIn hB hcw0
      have hc1 := cellIn hB hcw1
      have hc2 := cellIn hB hcw2
      have hc3 := cellIn hB hcw3
      rw [hd, P.cabs] at HP
      clear hd
      simp only at HP
      go_wp2_with fail
      refine (meetName_any w.heap.size ns nm _ hnm (by omega) (hown.alloc _)).mono ?_
      rintro e w1 ⟨rfl, hset, hgrow1⟩
      have hBa : Below w.heap.size w (wr.alloc (.cells #[.string nm, .int .i64 c, .int .i64 be, .bool lv] 135)) := hB.alloc hBs _
      have hB1 : Below w.heap.size w w1 := grown_below_map hBa (Nat.le_refl _) hgrow1
      have hbox1 : w1.cell? ⟨wr.heap.size, 1, none⟩ = some (.int .i64 c) := hgrow1.cell (by simp) (by simp; omega)
      have hbox2 : w1.cell? ⟨wr.heap.size, 2, none⟩ = some (.int .i64 be) := hgrow1.cell (by simp) (by simp; omega)
      cases hz : (P.meetE ns nm != 0)
      · have hz0 : P.meetE ns nm = 0 := by simpa using hz
        have hset1 := hset hz0
        rw [if_pos hz0] at HP
        clear hset hz0
        cases h1 : P.btw c 0 (n - 1)
        · rw [h1] at HP
          simp only [Bool.false_and, Bool.false_eq_true, if_false] at HP
          go_wp2_with (go_at_call 208; refine (within_any _ _ _ _).mono ?_; rintro e w2 ⟨rfl, rfl⟩; rw [h1])
          go_ret
          exact ⟨ret_int HP.out, hB1⟩
        · cases h2 : P.btw be 1 4
          · rw [h1, h2] at HP
            simp only [Bool.and_false, Bool.false_eq_true, if_false] at HP
            go_wp2_with (go_at_call 208; refine (within_any _ _ _ _).mono ?_; rintro e w2 ⟨rfl, rfl⟩; first | rw [h1] | rw [h2])
            go_ret
            exact ⟨ret_int HP.out, hB1⟩
          · rw [h1, h2] at HP
            simp only [Bool.and_self, if_true] at HP
            go_wp2_with (go_at_call 208; refine (within_any _ _ _ _).mono ?_; rintro e w2 ⟨rfl, rfl⟩; first | rw [h1] | rw [h2])
            go_roundg (l.length - (k + 1))
            case measure => omega
            case rel => exact ⟨k + 1, ns ++ [nm], by omega, rfl, by go_num, by simp; omega, hset1, HP.out, hB1⟩
      · rw [if_neg (by simpa using hz)] at HP
        clear hset
        go_wp2
        go_ret
        exact ⟨ret_int HP.out, hB1⟩
    · obtain rfl : k = l.length := by omega
      rw [List.drop_of_length_le (Nat.le_refl _), P.cabs] at HP
      go_wp2
      go_ret
      exact ⟨ret_int HP.out, hB⟩

def P.sizeE (legs souls : Int) (nc nb : Nat) : Int :=
  if (P.btw legs 1 7 && P.btw souls 1 60) = true then (if (decide (5 < nc) || decide (12 < nb)) = true then 2 else if (decide (nc = 0) || decide (nb = 0)) = true then 5 else 0) else 3

set_option maxHeartbeats 1000000 in
theorem checkSize_any (legs souls : Int) (cao bao : Option Addr) (nc nb cc bc : Nat) (w : World) :
    Calls Tryz.prog 164 #[.agg #[.int .i64 legs, .int .i64 souls, .slice cao nc cc, .slice bao nb bc]] w fun e w' => e = .returned (.int .i64 (P.sizeE legs souls nc nb)) ∧ Below w.heap.size w w' := by
  cases h1 : P.btw legs 1 7
  · have HE : Aside (P.sizeE legs souls nc nb = 3) := by show _ = _; rw [P.sizeE, h1]; rfl
    go_enter Tryz.func164, Tryz.ntmps164
    go_wp2_with (go_at_call 208; refine (within_any _ _ _ _).mono ?_; rintro e w2 ⟨rfl, rfl⟩; rw [h1])
    go_ret
    exact ⟨ret_int HE.out.symm, by go_grown⟩
  · cases h2 : P.btw souls 1 60
    · have HE : Aside (P.sizeE legs souls nc nb = 3) := by show _ = _; rw [P.sizeE, h1, h2]; rfl
      go_enter Tryz.func164, Tryz.ntmps164
      go_wp2_with (go_at_call 208; refine (within_any _ _ _ _).mono ?_; rintro e w2 ⟨rfl, rfl⟩; first | rw [h1] | rw [h2])
      go_ret
      exact ⟨ret_int HE.out.symm, by go_grown⟩
    · have HE : Aside (P.sizeE legs souls nc nb = (if (decide (5 < nc) || decide (12 < nb)) = true then 2 else if (decide (nc = 0) || decide (nb = 0)) = true then 5 else 0)) := by show _ = _; rw [P.sizeE, h1, h2]; rfl
      have fin : ∀ {x : Int}, (if (decide (5 < nc) || decide (12 < nb)) = true then 2 else if (decide (nc = 0) || decide (nb = 0)) = true then 5 else 0) = x → Aside (P.sizeE legs souls nc nb = x) := fun h => HE.out.trans h
      clear HE
      by_cases c1 : 5 < nc
      · have HF := fin (x := 2) (by simp [c1])
        clear fin
        have c1' : decide ((5 : Int) < (nc : Int)) = true := by simp; omega
        go_enter Tryz.func164, Tryz.ntmps164
        go_wp2_with (go_at_call 208; refine (within_any _ _ _ _).mono ?_; rintro e w2 ⟨rfl, rfl⟩; first | rw [h1] | rw [h2])
        go_ret
        exact ⟨ret_int HF.out.symm, by go_grown⟩
      · by_cases c2 : 12 < nb
        · have HF := fin (x := 2) (by simp [c2])
          clear fin
          go_enter Tryz.func164, Tryz.ntmps164
          go_wp2_with (go_at_call 208; refine (within_any _ _ _ _).mono ?_; rintro e w2 ⟨rfl, rfl⟩; first | rw [h1] | rw [h2])
          go_ret
          exact ⟨ret_int HF.out.symm, by go_grown⟩
        · by_cases c3 : nc = 0
          · have HF := fin (x := 5) (by simp [c1, c2, c3])
            clear fin
            subst c3
            go_enter Tryz.func164, Tryz.ntmps164
            go_wp2_with (go_at_call 208; refine (within_any _ _ _ _).mono ?_; rintro e w2 ⟨rfl, rfl⟩; first | rw [h1] | rw [h2])
            go_ret
            exact ⟨ret_int HF.out.symm, by go_grown⟩
          · have c3' : ((nc : Int) == 0) = false := by simp; omega
            by_cases c4 : nb = 0
            · have HF := fin (x := 5) (by simp [c1, c2, c4])
              clear fin
              subst c4
              go_enter Tryz.func164, Tryz.ntmps164
              go_wp2_with (go_at_call 208; refine (within_any _ _ _ _).mono ?_; rintro e w2 ⟨rfl, rfl⟩; first | rw [h1] | rw [h2])
              go_ret
              exact ⟨ret_int HF.out.symm, by go_grown⟩
            · have c4' : ((nb : Int) == 0) = false := by simp; omega
              have HF := fin (x := 0) (by simp [c1, c2, c3, c4])
              clear fin
              go_enter Tryz.func164, Tryz.ntmps164
              go_wp2_with (go_at_call 208; refine (within_any _ _ _ _).mono ?_; rintro e w2 ⟨rfl, rfl⟩; first | rw [h1] | rw [h2])
              go_ret
              exact ⟨ret_int HF.out.symm, by go_grown⟩

end Go.Proofs.YtlamhfbdeinkkaeGreat.Sh
