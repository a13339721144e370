import Derived.Test.YtlamhfbdeinkkaeGreatFoAt
import Derived.Test.YtlamhfbdeinkkaeGreatBaAt
set_option maxRecDepth 10000
/- Walks of worth, with, Add. -/
namespace Go.Proofs.YtlamhfbdeinkkaeGreat.Fo
open Go.RowKit
set_option linter.unusedSimpArgs false
set_option linter.unusedVariables false

def cellsN (x : Ent) : List Value := [.int .i64 x.1, .int .i64 x.2.1, .int .i64 x.2.2]
theorem cellsN_len (x : Ent) : (cellsN x).length = 3 := rfl
theorem cellsN_one (x : Ent) : ∀ u ∈ cellsN x, u.oneCell' = true := by simp [cellsN]; exact ⟨rfl, rfl, rfl⟩
/-- The value v is a slice of the call's own that holds the entries l. -/
abbrev OwnN (w : World) (base : Nat) (v : Value) (l : List Ent) : Prop := OwnC cellsN 3 59 w base v l
theorem Tryz.infoEntry : (Tryz.prog.info? 59).map (fun i => (i.zero, i.size, i.bytes)) = some (some (.agg #[.int .i64 0, .int .i64 0, .int .i64 0]), 3, 24) := by kernel_rfl
theorem OwnN.at {w : World} {base : Nat} {v : Value} {l : List Ent} (h : OwnN w base v l) : ∃ ao cap, v = .slice ao l.length cap ∧ EntsAt w ao cap l := OwnC.at cellsN_len h

/-- 'append(v, y)'. -/
theorem wpList_app_ent {ops : Array Oper} {rest : List Oper} {o : Oper} {a : Act} {Q : Exit → Act → World → Prop} {W0 : World} (hgd : o.guard = none) (s x : Operand)
    (ho : o.op = .call { callee := .builtin .append, args := #[s, x], argTypes := #[35, 35] }) (base : Nat) (v : Value) (l : List Ent) (d k m : Int) (hs : a.eval s = v) (hown : OwnN W0 base v l)
    (H : Nat) (hH : W0.heap.size = H) (hx : a.eval x = .slice (some ⟨H, 0, none⟩) 1 1) (hb : base ≤ W0.heap.size) (hn : l.length ≤ 1000000)
    (h : ∀ v' w', OwnN w' base v' (l ++ [(d, k, m)]) → W0.grownBy w' v.ownBlock → wpList Tryz.prog ops Q rest (a.put o.dst v') w') : wpList Tryz.prog ops Q (o :: rest) a (W0.alloc (.cells #[.int .i64 d, .int .i64 k, .int .i64 m] 59)) :=
  wpList_app_one Tryz.infoEntry Tryz.underlying35 rfl (by decide) cellsN_len cellsN_one (by decide) hgd s x ho base v l (d, k, m) _ rfl hs hown H hH hx hb hn h
/-- 'append(v, l2...)'. -/
theorem wpList_app_ents {ops : Array Oper} {rest : List Oper} {o : Oper} {a : Act} {Q : Exit → Act → World → Prop} {W0 : World} (hgd : o.guard = none) (s x : Operand)
    (ho : o.op = .call { callee := .builtin .append, args := #[s, x], argTypes := #[35, 35] }) (base : Nat) (v : Value) (l : List Ent) (ao : Option Addr) (cap : Nat) (l2 : List Ent) (hs : a.eval s = v) (hown : OwnN W0 base v l)
    (hx : a.eval x = .slice ao l2.length cap) (h2 : EntsAt W0 ao cap l2) (hb : base ≤ W0.heap.size) (hn : l.length ≤ 1000000) (hn2 : l2.length ≤ 1000000)
    (h : ∀ v' w', OwnN w' base v' (l ++ l2) → W0.grownBy w' v.ownBlock → wpList Tryz.prog ops Q rest (a.put o.dst v') w') : wpList Tryz.prog ops Q (o :: rest) a W0 :=
  wpList_app_many Tryz.infoEntry Tryz.underlying35 rfl (by decide) cellsN_len cellsN_one (by decide) hgd s x ho base v l ao cap l2 hs hown hx h2 hb hn hn2 h

def P.worth (l : List Ent) : List Ent := l.filter fun x => x.2.2 != 0

set_option maxHeartbeats 1000000 in
theorem worth_any (ao : Option Addr) (cap : Nat) (l : List Ent) (w : World) (hl : EntsAt w ao cap l) (h12 : l.length ≤ 12) :
    Calls Tryz.prog 123 #[.slice ao l.length cap] w fun e w' => ∃ v, e = .returned v ∧ OwnN w' w.heap.size v (P.worth l) ∧ Below w.heap.size w w' := by
  have hle := hl.le
  have hmx := hl.max
  unfold maxLen at hmx
  go_enter Tryz.func123, Tryz.ntmps123
  go_wp2
  go_loopg [3, 8] l.length (fun g v i wr => ∃ (k : Nat) (acc : List Ent), k ≤ l.length ∧ g = l.length - k ∧ i = .int .i64 k ∧ acc ++ P.worth (l.drop k) = P.worth l ∧ acc.length ≤ k ∧ OwnN wr w.heap.size v acc ∧ Below w.heap.size w wr)
  case atStart => exact ⟨0, [], Nat.zero_le _, rfl, rfl, rfl, by simp, OwnC.nil _ _, Below.refl _ _⟩
  case round =>
    obtain ⟨k, acc, hk, rfl, rfl, hP, hal, hown, hB⟩ := hrel
    have HP : Aside (acc ++ P.worth (l.drop k) = P.worth l) := hP
    clear hP
    have hsz := hB.size
    by_cases hlt : k < l.length
    · obtain ⟨b, off, x, y, z, rfl, hbl, hd, e0, e1, e2⟩ := EntsAt.get hl hB k hlt
      have hd' := HP.out
      rw [hd, P.worth, List.filter_cons] at hd'
      have HP2 : Aside ((acc ++ if ((x, y, z) : Ent).2.2 != 0 then (x, y, z) :: P.worth (l.drop (k + 1)) else P.worth (l.drop (k + 1))) = P.worth l) := hd'
      clear hd hd' HP
      by_cases hz : z = 0
      · subst hz
        have HP3 : Aside (acc ++ P.worth (l.drop (k + 1)) = P.worth l) := by have := HP2.out; show _ = _; simpa using this
        clear HP2
        have HO : Aside (OwnN wr w.heap.size u3 acc) := hown
        clear hown
        go_wp2
        go_roundg (l.length - (k + 1))
        case measure => omega
        case rel => exact ⟨k + 1, acc, by omega, rfl, by go_num, HP3.out, by omega, OwnC.below HO.out (by go_grown), bvia hB (by go_grown)⟩
      · have HP3 : Aside ((acc ++ [(x, y, z)]) ++ P.worth (l.drop (k + 1)) = P.worth l) := by have := HP2.out; show _ = _; simpa [hz] using this
        clear HP2
        have hz2 : (z == 0) = false := by simpa using hz
        have hown1 : OwnN (wr.alloc (.cells #[.int .i64 x, .int .i64 y, .int .i64 z] 59)) w.heap.size u3 acc := OwnC.below hown (by go_grown)
        have hB1 : Below w.heap.size w (wr.alloc (.cells #[.int .i64 x, .int .i64 y, .int .i64 z] 59)) := bvia hB (by go_grown)
        clear hown
        go_wp2_with (at_builtin; refine wpList_app_ent rfl (.tmp 15) (.tmp 17) rfl w.heap.size _ acc x y z rfl hown1 _ (by simp) rfl (by simp; omega) (by omega) ?_; intro v2 w2 hown2 hgr2)
        go_roundg (l.length - (k + 1))
        case measure => omega
        case rel => exact ⟨k + 1, acc ++ [(x, y, z)], by omega, rfl, by go_num, HP3.out, by simp; omega, hown2, OwnC.grown hB1 hown1 (Nat.le_refl _) hgr2⟩
    · obtain rfl : k = l.length := by omega
      have hP := HP.out
      rw [List.drop_of_length_le (Nat.le_refl _)] at hP
      go_wp2
      go_ret
      exact ⟨_, rfl, by rw [← hP]; simpa [P.worth] using hown, hB⟩

end Go.Proofs.YtlamhfbdeinkkaeGreat.Fo
/- Walks of with, Add, Cancel. -/
namespace Go.Proofs.YtlamhfbdeinkkaeGreat.Fo
open Go.RowKit
set_option linter.unusedSimpArgs false
set_option linter.unusedVariables false

/-- The sum of the entries that count, plainly. -/
def P.ftot (p : Ent → Bool) : List Ent → Int
  | [] => 0
  | x :: r => (if p x = true then x.2.2 else 0) + P.ftot p r
theorem sums_ftot (p : Ent → Bool) : ∀ (l : List Ent) (s : Int), (P.sumsL p s l).foldl (fun _ x => x) s = s + P.ftot p l := by
  intro l
  induction l with
  | nil => intro s; simp [P.sumsL, P.ftot]
  | cons x r ih =>
    intro s
    rw [P.sumsL, P.ftot]
    split
    · rw [List.foldl_cons, ih]; omega
    · rw [ih]; omega
theorem sumL_ftot (p : Ent → Bool) (l : List Ent) : P.sumL p l = P.ftot p l := by
  have := sums_ftot p l 0
  rw [P.sumL, P.last, this]; omega
theorem ftot_append (p : Ent → Bool) (a b : List Ent) : P.ftot p (a ++ b) = P.ftot p a + P.ftot p b := by
  induction a with
  | nil => simp [P.ftot]
  | cons x r ih => rw [List.cons_append, P.ftot, P.ftot, ih]; omega
theorem ftot_bound (p : Ent → Bool) : ∀ (l : List Ent), (∀ x ∈ l, -100000000 ≤ x.2.2 ∧ x.2.2 ≤ 100000000) → -100000000 * (l.length : Int) ≤ P.ftot p l ∧ P.ftot p l ≤ 100000000 * (l.length : Int) := by
  intro l
  induction l with
  | nil => intro _; simp [P.ftot]
  | cons x r ih =>
    intro h
    have h1 := h x (by simp)
    have h2 := ih (fun y hy => h y (by simp [hy]))
    rw [P.ftot, List.length_cons]
    split <;> omega
theorem ftot_12 (p : Ent → Bool) {l : List Ent} (h : ∀ x ∈ l, -100000000 ≤ x.2.2 ∧ x.2.2 ≤ 100000000) (h12 : l.length ≤ 12) : -1200000000 ≤ P.ftot p l ∧ P.ftot p l ≤ 1200000000 := by
  have := ftot_bound p l h
  omega

/-- What 'with' hands back. -/
def P.plus (l c : List Ent) : List Ent := if P.folE (l ++ c) = 0 then l ++ c else []

set_option maxHeartbeats 1000000 in
theorem with_any' (ao : Option Addr) (cap : Nat) (l : List Ent) (bo : Option Addr) (bc : Nat) (c : List Ent) (w : World) (hl : EntsAt w ao cap l) (hc : EntsAt w bo bc c) (h12 : l.length ≤ 12) (h13 : c.length ≤ 12) :
    Calls Tryz.prog 119 #[.slice ao l.length cap, .slice bo c.length bc] w fun e w' => ∃ v, e = .returned (.tuple #[v, .int .i64 (P.folE (l ++ c))]) ∧ OwnN w' w.heap.size v (P.plus l c) ∧ Below w.heap.size w w' := by
  have hle := hl.le
  have hmx := hl.max
  unfold maxLen at hmx
  have hle2 := hc.le
  have hmx2 := hc.max
  unfold maxLen at hmx2
  obtain ⟨i0, hi, hi0, hi1, hi2⟩ := info_parts Tryz.infoEntry
  obtain ⟨L, hL⟩ : ∃ L, l ++ c = L := ⟨_, rfl⟩
  rw [hL]
  have HL : Aside (l ++ c = L) := hL
  clear hL
  go_enter Tryz.func119, Tryz.ntmps119
  have HN : Aside (∀ w', w.grownBy w' none → Below w.heap.size w w') := fun w' hg => (Below.refl _ w).grown hg (Nat.le_refl _) (fun j hj => by cases hj)
  go_wp2_with (first
    | (at_make; refine wpList_make_own _ rfl _ _ 35 rfl w.heap.size 59 i0 _ 3 Tryz.underlying35 hi hi0 hi1 .i64 .i64 _ (l.length + c.length) rfl rfl (by first | rfl | (simp; omega) | omega) (by rw [hi2]; omega) (by unfold maxLen; omega) (Nat.le_refl _) ?_; intro w0 hown0 hgrow0; have hB0 := HN.out _ hgrow0; have hl0 := SlAt.below REnt.mono hl hB0; have hc0 := SlAt.below REnt.mono hc hB0; have hs0 := hB0.size; clear hgrow0)
    | (at_builtin; refine wpList_app_ents rfl (.tmp 14) (.tmp 15) rfl w.heap.size _ [] ao cap l rfl hown0 rfl hl0 hs0 (by simp) (by omega) ?_; intro v1 w1 hown1 hgr1; have hB1 := OwnC.grown (cells := cellsN) (l := []) hB0 hown0 (Nat.le_refl _) hgr1; have hc1 := SlAt.below REnt.mono hc hB1; have hs1 := hB1.size; clear hgr1)
    | (at_builtin; refine wpList_app_ents rfl (.tmp 17) (.tmp 18) rfl w.heap.size _ l bo bc c rfl hown1 rfl hc1 hs1 (by omega) (by omega) ?_; intro v2 w2 hown2 hgr2; have hB2 := OwnC.grown hB1 hown1 (Nat.le_refl _) hgr2; rw [HL.out] at hown2; obtain ⟨ao2, cap2, rfl, hl2⟩ := hown2.at; clear hgr2)
    | fail)
  refine (folCheck_any _ _ _ _ hl2).mono ?_
  rintro e w3 ⟨rfl, hb3⟩
  have hown3 := OwnC.below hown2 hb3
  have HO : Aside (OwnN w3 w.heap.size (.slice ao2 L.length cap2) L) := hown3
  clear hown0 hown1 hown2 hown3 hl0 hc0 hc1 hl2
  by_cases he : P.folE L = 0
  · rw [he]
    go_wp2
    go_ret2
    exact ⟨_, ret2_int he.symm, by rw [P.plus, HL.out, if_pos he]; exact HO.out, bvia hB2 hb3⟩
  · have he2 : (P.folE L == 0) = false := by simpa using he
    go_wp2
    go_ret2
    exact ⟨_, rfl, by rw [P.plus, HL.out, if_neg he]; exact OwnC.nil _ _, bvia hB2 hb3⟩

/-- One entry in a block of its own. -/
theorem ents_one {w : World} {b : Nat} (d k m : Int) (hb : w.heap[b]? = some (.cells #[.int .i64 d, .int .i64 k, .int .i64 m] 59 (0, 0))) : EntsAt w (some ⟨b, 0, none⟩) 1 [(d, k, m)] :=
  SlAt.ofBlock (l := [((d, k, m) : Ent)]) [[.int .i64 d, .int .i64 k, .int .i64 m]] hb rfl rfl (fun i hi => by
    obtain rfl : i = 0 := by simp at hi; omega
    exact ⟨_, rfl, rfl⟩) (by simp) (by simp [maxLen])

def P.addE (l : List Ent) (x : Ent) : Int := if P.folE l = 0 then P.folE (l ++ [x]) else P.folE l
def P.add (l : List Ent) (x : Ent) : List Ent := if P.folE l = 0 then P.plus l [x] else []

set_option maxHeartbeats 1000000 in
theorem add_any (ao : Option Addr) (cap : Nat) (l : List Ent) (d k m : Int) (w : World) (hl : EntsAt w ao cap l) :
    Calls Tryz.prog 66 #[.slice ao l.length cap, .agg #[.int .i64 d, .int .i64 k, .int .i64 m]] w fun e w' => ∃ v, e = .returned (.tuple #[v, .int .i64 (P.addE l (d, k, m))]) ∧ OwnN w' w.heap.size v (P.add l (d, k, m)) ∧ Below w.heap.size w w' := by
  by_cases he : P.folE l = 0
  · have HE : Aside (P.addE l (d, k, m) = P.folE (l ++ [(d, k, m)])) := by show _ = _; rw [P.addE, if_pos he]
    have HV : Aside (P.add l (d, k, m) = P.plus l [(d, k, m)]) := by show _ = _; rw [P.add, if_pos he]
    have h12 := folE_len he
    go_enter Tryz.func66, Tryz.ntmps66
    go_wp2_with fail
    refine (folCheck_any ao cap l _ (SlAt.below REnt.mono hl (by go_grown))).mono ?_
    rintro e w1 ⟨rfl, hb1⟩
    have k0 : w1.cell? ⟨w.heap.size, 0, none⟩ = some (.int .i64 d) := cellIn hb1 (by simp)
    have k1 : w1.cell? ⟨w.heap.size, 1, none⟩ = some (.int .i64 k) := cellIn hb1 (by simp)
    have k2 : w1.cell? ⟨w.heap.size, 2, none⟩ = some (.int .i64 m) := cellIn hb1 (by simp)
    have hB1 : Below w.heap.size w w1 := bvia (by go_grown) hb1
    clear hb1
    rw [he]
    go_wp2_with fail
    refine (with_any' ao cap l _ 1 [(d, k, m)] _ (SlAt.below REnt.mono hl (bvia hB1 (by go_grown))) (ents_one d k m (heap_alloc_new _ _)) h12 (by simp)).mono ?_
    rintro e w2 ⟨v, rfl, hown, hb2⟩
    have hb2' : Below w.heap.size w w2 := bvia (bvia hB1 (by go_grown)) hb2
    have HO : Aside (OwnN w2 w.heap.size v (P.plus l [(d, k, m)])) := by
      refine ⟨hown.1, hown.2.imp id ?_⟩
      rintro ⟨g, c, cur, h1, h2, h3⟩
      have := hB1.size
      exact ⟨g, c, cur, h1, by simp at h2; omega, h3⟩
    clear hown
    go_wp2
    go_ret2
    exact ⟨_, ret2_int HE.out.symm, by rw [HV.out]; exact HO.out, hb2'⟩
  · have he2 : (P.folE l == 0) = false := by simpa using he
    have HE : Aside (P.addE l (d, k, m) = P.folE l) := by show _ = _; rw [P.addE, if_neg he]
    have HV : Aside (P.add l (d, k, m) = []) := by show _ = _; rw [P.add, if_neg he]
    go_enter Tryz.func66, Tryz.ntmps66
    go_wp2_with fail
    refine (folCheck_any ao cap l _ (SlAt.below REnt.mono hl (by go_grown))).mono ?_
    rintro e w1 ⟨rfl, hb1⟩
    have hB1 : Below w.heap.size w w1 := bvia (by go_grown) hb1
    clear hb1
    go_wp2
    go_ret2
    exact ⟨_, ret2_int HE.out.symm, by rw [HV.out]; exact OwnC.nil _ _, hB1⟩

end Go.Proofs.YtlamhfbdeinkkaeGreat.Fo
/- Walk of Cancel. -/
namespace Go.Proofs.YtlamhfbdeinkkaeGreat.Fo
open Go.RowKit
set_option linter.unusedSimpArgs false
set_option linter.unusedVariables false

theorem OwnC.weaken {α : Type} {cells : α → List Value} {size : Nat} {e : TypeId} {w : World} {b b' : Nat} {v : Value} {l : List α} (h : OwnC cells size e w b v l) (hb : b' ≤ b) : OwnC cells size e w b' v l := by
  refine ⟨h.1, h.2.imp id ?_⟩
  rintro ⟨g, c, cur, h1, h2, h3⟩
  exact ⟨g, c, cur, h1, by omega, h3⟩

theorem cancel1_calls : ∀ (args : Array Value) (wx : World), (callFunc 122 args).run Tryz.prog wx = .ok (.enter 122 args) wx := enters_of Tryz.func122 (by kernel_rfl) rfl

theorem sum_every (ao : Option Addr) (cap : Nat) (l : List Ent) (w : World) (hl : EntsAt w ao cap l) (he : P.folE l = 0) :
    Calls Tryz.prog 84 #[.slice ao l.length cap, .func (.func 85) #[] #[]] w fun e w' => e = .returned (.int .i64 (P.ftot P.all l)) ∧ Below w.heap.size w w' := by
  have := folioSum_any ao cap l 85 P.all w every_calls every_any hl (folE_len he) (folE_amt he)
  rw [← sumL_ftot]
  exact this
theorem sum_fares (ao : Option Addr) (cap : Nat) (l : List Ent) (w : World) (hl : EntsAt w ao cap l) (he : P.folE l = 0) :
    Calls Tryz.prog 84 #[.slice ao l.length cap, .func (.func 122) #[] #[]] w fun e w' => e = .returned (.int .i64 (P.ftot P.isFare l)) ∧ Below w.heap.size w w' := by
  have := folioSum_any ao cap l 122 P.isFare w cancel1_calls cancel1_any hl (folE_len he) (folE_amt he)
  rw [← sumL_ftot]
  exact this

/-- Three entries in a block of their own. -/
theorem ents_three {w : World} {b : Nat} (x y z : Ent) (hb : w.heap[b]? = some (.cells #[.int .i64 x.1, .int .i64 x.2.1, .int .i64 x.2.2, .int .i64 y.1, .int .i64 y.2.1, .int .i64 y.2.2, .int .i64 z.1, .int .i64 z.2.1, .int .i64 z.2.2] 59 (0, 0))) : EntsAt w (some ⟨b, 0, none⟩) 3 [x, y, z] :=
  SlAt.ofBlock (l := [x, y, z]) [cellsN x, cellsN y, cellsN z] hb rfl rfl (fun i hi => by
    match i, hi with
    | 0, _ => exact ⟨_, rfl, rfl⟩
    | 1, _ => exact ⟨_, rfl, rfl⟩
    | 2, _ => exact ⟨_, rfl, rfl⟩
    | n + 3, h => exact absurd h (by simp)) (by simp [cellsN]) (by simp [maxLen])

/-- What comes behind all at Cancel. -/
def P.come (l : List Ent) (day pen : Int) : List Ent :=
  P.worth [(day, 4, -P.ftot P.isFare l), (day, 3, pen), (day, 4, max 0 (-(P.ftot P.all l - P.ftot P.isFare l + pen)))]
def P.canE (l : List Ent) (day pen : Int) : Int := if P.folE l = 0 then (if pen < 0 ∨ 100000000 < pen then 3 else P.folE (l ++ P.come l day pen)) else P.folE l
def P.can (l : List Ent) (day pen : Int) : List Ent := if P.folE l = 0 then (if pen < 0 ∨ 100000000 < pen then [] else P.plus l (P.come l day pen)) else []
theorem come_len (l : List Ent) (day pen : Int) : (P.come l day pen).length ≤ 3 := by
  have := List.length_filter_le (fun x : Ent => x.2.2 != 0) [(day, 4, -P.ftot P.isFare l), (day, 3, pen), (day, 4, max 0 (-(P.ftot P.all l - P.ftot P.isFare l + pen)))]
  simpa [P.come, P.worth] using this

set_option maxHeartbeats 4000000 in
theorem cancel_any (ao : Option Addr) (cap : Nat) (l : List Ent) (day pen : Int) (w : World) (hl : EntsAt w ao cap l) :
    Calls Tryz.prog 69 #[.slice ao l.length cap, .int .i64 day, .int .i64 pen] w fun e w' => ∃ v, e = .returned (.tuple #[v, .int .i64 (P.canE l day pen)]) ∧ OwnN w' w.heap.size v (P.can l day pen) ∧ Below w.heap.size w w' := by
  by_cases he : P.folE l = 0
  rotate_left
  · have he2 : (P.folE l == 0) = false := by simpa using he
    have HE : Aside (P.canE l day pen = P.folE l) := by show _ = _; rw [P.canE, if_neg he]
    have HV : Aside (P.can l day pen = []) := by show _ = _; rw [P.can, if_neg he]
    go_enter Tryz.func69, Tryz.ntmps69
    go_wp2_with fail
    refine (folCheck_any ao cap l _ hl).mono ?_
    rintro e w1 ⟨rfl, hb1⟩
    go_wp2
    go_ret2
    exact ⟨_, ret2_int HE.out.symm, by rw [HV.out]; exact OwnC.nil _ _, hb1⟩
  by_cases hp : pen < 0 ∨ 100000000 < pen
  · have HE : Aside (P.canE l day pen = 3) := by show _ = _; rw [P.canE, if_pos he, if_pos hp]
    have HV : Aside (P.can l day pen = []) := by show _ = _; rw [P.can, if_pos he, if_pos hp]
    by_cases hp0 : pen < 0
    · clear hp
      go_enter Tryz.func69, Tryz.ntmps69
      go_wp2_with fail
      refine (folCheck_any ao cap l _ hl).mono ?_
      rintro e w1 ⟨rfl, hb1⟩
      rw [he]
      go_wp2
      go_ret2
      exact ⟨_, ret2_int HE.out.symm, by rw [HV.out]; exact OwnC.nil _ _, hb1⟩
    · have hp1 : 100000000 < pen := hp.resolve_left hp0
      clear hp
      go_enter Tryz.func69, Tryz.ntmps69
      go_wp2_with fail
      refine (folCheck_any ao cap l _ hl).mono ?_
      rintro e w1 ⟨rfl, hb1⟩
      rw [he]
      go_wp2
      go_ret2
      exact ⟨_, ret2_int HE.out.symm, by rw [HV.out]; exact OwnC.nil _ _, hb1⟩
  have HE : Aside (P.canE l day pen = P.folE (l ++ P.come l day pen)) := by show _ = _; rw [P.canE, if_pos he, if_neg hp]
  have HV : Aside (P.can l day pen = P.plus l (P.come l day pen)) := by show _ = _; rw [P.can, if_pos he, if_neg hp]
  have hp0 : ¬ pen < 0 := fun h => hp (.inl h)
  have hp1 : ¬ 100000000 < pen := fun h => hp (.inr h)
  clear hp
  have HC : Aside (P.worth [(day, 4, -P.ftot P.isFare l), (day, 3, pen), (day, 4, max 0 (-(P.ftot P.all l - P.ftot P.isFare l + pen)))] = P.come l day pen) := rfl
  have HC3 := come_len l day pen
  have h12 := folE_len he
  have hf := ftot_12 P.isFare (folE_amt he) h12
  have ht := ftot_12 P.all (folE_amt he) h12
  have HF : Aside (∀ wx, EntsAt wx ao cap l → _) := fun wx hx => sum_fares ao cap l wx hx he
  have HT : Aside (∀ wx, EntsAt wx ao cap l → _) := fun wx hx => sum_every ao cap l wx hx he
  generalize P.ftot P.isFare l = F at HC HF hf
  generalize P.ftot P.all l = T at HC HT ht
  generalize P.come l day pen = C at HE HV HC HC3
  have HC' : Aside ((T - F + pen < 0 → P.worth [(day, 4, -F), (day, 3, pen), (day, 4, -(T - F + pen))] = C) ∧ (¬ T - F + pen < 0 → P.worth [(day, 4, -F), (day, 3, pen), (day, 4, 0)] = C)) := by
    refine ⟨fun h => ?_, fun h => ?_⟩
    · rw [← HC.out, show max 0 (-(T - F + pen)) = -(T - F + pen) by omega]
    · rw [← HC.out, show max 0 (-(T - F + pen)) = 0 by omega]
  clear HC
  go_enter Tryz.func69, Tryz.ntmps69
  go_wp2_with fail
  refine (folCheck_any ao cap l _ hl).mono ?_
  rintro e w1 ⟨rfl, hb1⟩
  rw [he]
  go_wp2_with fail
  refine (HF.out _ (SlAt.below REnt.mono hl hb1)).mono ?_
  rintro e w2 ⟨rfl, hb2⟩
  have hB2 := bvia hb1 hb2
  clear hb1 hb2
  go_wp2_with fail
  refine (HT.out _ (SlAt.below REnt.mono hl hB2)).mono ?_
  rintro e w3 ⟨rfl, hb3⟩
  have hB3 := bvia hB2 hb3
  clear hb3 hB2
  have hs3 := hB3.size
  by_cases hm : T - F + pen < 0
  all_goals
    go_wp2_with fail
    all_goals first
      | (exfalso; omega)
      | (refine (worth_any _ 3 [(day, 4, -F), (day, 3, pen), (day, 4, _)] _ (ents_three (day, 4, -F) (day, 3, pen) (day, 4, _) (heap_alloc_new _ _)) (by simp)).mono ?_
         rintro e w4 ⟨v4, rfl, hown4, hb4⟩
         first | rw [HC'.out.1 hm] at hown4 | rw [HC'.out.2 hm] at hown4
         obtain ⟨co, cc, rfl, hc4⟩ := hown4.at
         have hB4 : Below w.heap.size w w4 := bvia (bvia hB3 (by go_grown)) hb4
         clear hb4 hown4
         have hs4 := hB4.size
         go_wp2_with fail
         refine (with_any' ao cap l co cc C _ (SlAt.below REnt.mono hl hB4) hc4 h12 (by omega)).mono ?_
         rintro e w5 ⟨v5, rfl, hown5, hb5⟩
         have HO : Aside (OwnN w5 w.heap.size v5 (P.plus l C)) := OwnC.weaken hown5 hs4
         clear hown5
         go_wp2
         go_ret2
         exact ⟨_, ret2_int HE.out.symm, by rw [HV.out]; exact HO.out, bvia hB4 hb5⟩)

end Go.Proofs.YtlamhfbdeinkkaeGreat.Fo
/- Walks of sheet, folioBegun; the walk of FolioPaid. -/
namespace Go.Proofs.YtlamhfbdeinkkaeGreat.Fo
open Go.RowKit
set_option linter.unusedSimpArgs false
set_option linter.unusedVariables false

def T.S : List Ent := [(1, 1, 1000), (3, 2, -400)]
def T.C : List Ent := [(1, 1, 1000), (3, 2, -400), (5, 4, -1000), (5, 3, 100), (5, 4, 300)]
def T.A : List Ent := [(1, 1, 1000), (3, 2, -400), (3, 2, -600)]

theorem plus_pos {l c : List Ent} (h : P.folE (l ++ c) = 0) : P.plus l c = l ++ c := by rw [P.plus, if_pos h]
end Go.Proofs.YtlamhfbdeinkkaeGreat.Fo
/- Walks of SameFolio; the walk of FolioCancel. -/
namespace Go.Proofs.YtlamhfbdeinkkaeGreat.Fo
open Go.RowKit
set_option linter.unusedSimpArgs false
set_option linter.unusedVariables false

theorem drop_eqN {a b : List Ent} {s t : Ent} {k : Nat} (ha : a.drop k = s :: a.drop (k + 1)) (hb : b.drop k = t :: b.drop (k + 1)) : a.drop k = b.drop k ↔ s = t ∧ a.drop (k + 1) = b.drop (k + 1) := by
  rw [ha, hb, List.cons.injEq]

set_option maxHeartbeats 1000000 in
theorem sameFolio_any (ao bo : Option Addr) (ca cb : Nat) (a b : List Ent) (w : World) (ha : EntsAt w ao ca a) (hb : EntsAt w bo cb b) :
    Calls Tryz.prog 57 #[.slice ao a.length ca, .slice bo b.length cb] w fun e w' => e = .returned (.bool (decide (a = b))) ∧ Below w.heap.size w w' := by
  have hle := ha.le
  have hmx := ha.max
  have hle' := hb.le
  have hmx' := hb.max
  unfold maxLen at hmx hmx'
  by_cases hlen : a.length = b.length
  · have HL : Aside (a.length = b.length) := hlen
    have hne : ((a.length : Int) != (b.length : Int)) = false := by simp [hlen]
    go_enter Tryz.func57, Tryz.ntmps57
    clear hlen
    go_wp2
    go_loopg [5] a.length (fun g i wr => ∃ (k : Nat), k ≤ a.length ∧ g = a.length - k ∧ i = .int .i64 k ∧ (a.drop k = b.drop k ↔ a = b) ∧ Below w.heap.size w wr)
    case atStart => exact ⟨0, Nat.zero_le _, rfl, rfl, Iff.rfl, Below.refl _ _⟩
    case round =>
      obtain ⟨k, hk, rfl, rfl, hP, hB⟩ := hrel
      have hBs := hB.size
      have HP : Aside (a.drop k = b.drop k ↔ a = b) := hP
      clear hP
      by_cases hlt : k < a.length
      · have hlt' : k < b.length := by have := HL.out; omega
        obtain ⟨b1, o1, x, y, z, rfl, hbw, hd, hc0, hc1, hc2⟩ := EntsAt.get ha hB k hlt
        obtain ⟨b2, o2, x', y', z', rfl, hbw', hd', hc0', hc1', hc2'⟩ := EntsAt.get hb hB k hlt'
        have HE : Aside (a.drop k = b.drop k ↔ (x, y, z) = (x', y', z') ∧ a.drop (k + 1) = b.drop (k + 1)) := drop_eqN hd hd'
        clear hd hd'
        have hi1 : (k : Int) < (a.length : Int) := by omega
        have hi2 : (k : Int) < (b.length : Int) := by omega
        have hi3 : (0 : Int) ≤ (k : Int) := by omega
        by_cases hall : x = x' ∧ y = y' ∧ z = z'
        · obtain ⟨rfl, rfl, rfl⟩ := hall
          have HQ : Aside (a.drop (k + 1) = b.drop (k + 1) ↔ a = b) := by show _ ↔ _; rw [← HP.out, HE.out]; simp
          clear HE HP
          go_wp2
          go_quiet (fail)
          go_wp2
          go_roundg (a.length - (k + 1))
          case measure => omega
          case rel => exact ⟨k + 1, by omega, rfl, by go_num, HQ.out, below_drewN hB _⟩
        · have HN : Aside (decide (a = b) = false) := by
            rw [decide_eq_false_iff_not]; intro h; have := (HE.out.1 (HP.out.2 h)).1; simp at this; exact hall this
          clear HE HP
          by_cases e1 : x = x'
          · by_cases e2 : y = y'
            · have e3 : ¬ z = z' := fun h => hall ⟨e1, e2, h⟩
              subst e1 e2
              clear hall
              have e3' : (z == z') = false := by simpa using e3
              go_wp2
              go_quiet (fail)
              go_wp2
              go_ret
              exact ⟨ret_bool HN.out.symm, below_drewN hB _⟩
            · subst e1
              clear hall
              have e2' : (y == y') = false := by simpa using e2
              go_wp2
              go_quiet (fail)
              go_wp2
              go_ret
              exact ⟨ret_bool HN.out.symm, below_drewN hB _⟩
          · clear hall
            have e1' : (x == x') = false := by simpa using e1
            go_wp2
            go_quiet (fail)
            go_wp2
            go_ret
            exact ⟨ret_bool HN.out.symm, below_drewN hB _⟩
      · have : k = a.length := by omega
        subst this
        go_wp2
        go_ret
        have hP := HP.out
        refine ⟨ret_bool ?_, hB⟩
        rw [List.drop_of_length_le (Nat.le_refl _), List.drop_of_length_le (by rw [HL.out]; exact Nat.le_refl _)] at hP
        simp [hP.1 rfl]
  · have hne : ((a.length : Int) != (b.length : Int)) = true := by rw [bne_iff_ne]; omega
    go_enter Tryz.func57, Tryz.ntmps57
    go_wp2
    go_ret
    exact ⟨ret_bool (by rw [eq_comm, decide_eq_false_iff_not]; intro h; exact hlen (by rw [h])), Below.refl _ _⟩

theorem Tryz.sizeEntry : (Tryz.prog.info? 59).map (fun i => i.size) = some 3 := by kernel_rfl
theorem run_sizeEntry (wx : World) : (sizeOf 59).run Tryz.prog wx = .ok 3 wx := by
  have h := Tryz.sizeEntry
  cases hi : Tryz.prog.info? 59 with
  | none => rw [hi] at h; cases h
  | some i =>
    rw [hi] at h
    simp only [Option.map_some, Option.some.injEq] at h
    simp [sizeOf, typeInfo, hi, h]
/-- 'l[:n]' -/
theorem run_head (ao : Option Addr) (m cap n : Nat) (hn : n ≤ cap) (wx : World) : (Instr.slice 35 (.slice ao m cap) none (some (.int .i64 (n : Int))) none).run Tryz.prog wx = .ok (.slice ao n cap) wx := by
  simp [Instr.slice, run_underlying Tryz.underlying35, Instr.sliceBounds, Instr.sliceBound, asIntOf, run_sizeEntry, hn]
  intro _
  cases ao <;> simp [Addr.add]
theorem EntsAt.head {w : World} {ao : Option Addr} {cap : Nat} {a b : List Ent} (h : EntsAt w ao cap (a ++ b)) : EntsAt w ao cap a := by
  have hle := h.le
  rw [List.length_append] at hle
  refine ⟨by omega, h.max, h.nil, fun h0 => ?_⟩
  obtain ⟨bb, off, rfl, hlt, hc⟩ := h.cells (by rw [List.length_append]; omega)
  refine ⟨bb, off, rfl, hlt, fun i hi => ?_⟩
  have := hc i (by rw [List.length_append]; omega)
  rwa [List.getElem_append_left hi] at this

theorem can_some {l : List Ent} {day pen : Int} (h : P.canE l day pen = 0) : P.folE l = 0 ∧ 0 ≤ pen ∧ pen ≤ 100000000 ∧ P.folE (l ++ P.come l day pen) = 0 ∧ P.can l day pen = l ++ P.come l day pen := by
  unfold P.canE at h
  split at h
  · rename_i h1
    split at h
    · omega
    · rename_i h2
      refine ⟨h1, by omega, by omega, h, ?_⟩
      rw [P.can, if_pos h1, if_neg h2, plus_pos h]
  · contradiction

end Go.Proofs.YtlamhfbdeinkkaeGreat.Fo
/- Walks of the reference: SumOf, CheckFolio. -/
namespace Go.Proofs.YtlamhfbdeinkkaeGreat.Fo
open Go.RowKit
set_option linter.unusedSimpArgs false
set_option linter.unusedVariables false

/-- Is it of a kind? (0: of any.) -/
def P.ofKind (kind : Int) (x : Ent) : Bool := decide (kind = 0) || decide (x.2.1 = kind)

theorem ftot_wide (p : Ent → Bool) : ∀ (l : List Ent), (∀ x ∈ l, -10000000000 ≤ x.2.2 ∧ x.2.2 ≤ 10000000000) → -10000000000 * (l.length : Int) ≤ P.ftot p l ∧ P.ftot p l ≤ 10000000000 * (l.length : Int) := by
  intro l
  induction l with
  | nil => intro _; simp [P.ftot]
  | cons x r ih =>
    intro h
    have h1 := h x (by simp)
    have h2 := ih (fun y hy => h y (by simp [hy]))
    rw [P.ftot, List.length_cons]
    split <;> omega

set_option maxHeartbeats 2000000 in
theorem sumOf_any (ao : Option Addr) (cap : Nat) (l : List Ent) (kind : Int) (w : World) (hl : EntsAt w ao cap l) (h100 : l.length ≤ 100) (ha : ∀ x ∈ l, -10000000000 ≤ x.2.2 ∧ x.2.2 ≤ 10000000000) :
    Calls Tryz.prog 79 #[.slice ao l.length cap, .int .i64 kind] w fun e w' => e = .returned (.int .i64 (P.ftot (P.ofKind kind) l)) ∧ Below w.heap.size w w' := by
  have hle := hl.le
  have hmx := hl.max
  unfold maxLen at hmx
  have HA : Aside (∀ x ∈ l, -10000000000 ≤ x.2.2 ∧ x.2.2 ≤ 10000000000) := ha
  clear ha
  have HR : Aside (∀ k, k ≤ l.length → -10000000000 * (k : Int) ≤ P.ftot (P.ofKind kind) (l.take k) ∧ P.ftot (P.ofKind kind) (l.take k) ≤ 10000000000 * (k : Int)) := by
    intro k hk
    have := ftot_wide (P.ofKind kind) (l.take k) (fun x hx => HA.out x (List.mem_of_mem_take hx))
    rw [List.length_take, Nat.min_eq_left hk] at this
    exact this
  go_enter Tryz.func79, Tryz.ntmps79
  go_wp2
  go_loopg [5, 6] l.length (fun g v i wr => ∃ (k : Nat), k ≤ l.length ∧ g = l.length - k ∧ i = .int .i64 k ∧ v = .int .i64 (P.ftot (P.ofKind kind) (l.take k)) ∧ Below w.heap.size w wr)
  case atStart => exact ⟨0, Nat.zero_le _, rfl, rfl, by simp [P.ftot], Below.refl _ _⟩
  case round =>
    obtain ⟨k, hk, rfl, rfl, rfl, hB⟩ := hrel
    by_cases hlt : k < l.length
    · obtain ⟨b, off, x, y, z, rfl, hbl, hd, e0, e1, e2⟩ := EntsAt.get hl hB k hlt
      have hr := HR.out k hk
      have hz2 : -10000000000 ≤ z ∧ z ≤ 10000000000 := HA.out _ (memA hlt hd)
      have HS : Aside (P.ftot (P.ofKind kind) (l.take (k + 1)) = P.ftot (P.ofKind kind) (l.take k) + (if P.ofKind kind (x, y, z) = true then z else 0)) := by
        show _ = _
        rw [List.take_succ_eq_append_getElem hlt, getA hlt hd, ftot_append]
        simp [P.ftot]
      clear hd
      generalize P.ftot (P.ofKind kind) (l.take k) = S at HS hr
      by_cases h0 : kind = 0
      · have HS2 : Aside (P.ftot (P.ofKind kind) (l.take (k + 1)) = S + z) := by show _ = _; rw [HS.out]; simp [P.ofKind, h0]
        clear HS
        subst h0
        go_wp2
        go_roundg (l.length - (k + 1))
        case measure => omega
        case rel => exact ⟨k + 1, by omega, rfl, by go_num, by rw [HS2.out], hB⟩
      · have h0' : (kind == 0) = false := by simpa using h0
        by_cases hy : y = kind
        · have HS2 : Aside (P.ftot (P.ofKind kind) (l.take (k + 1)) = S + z) := by show _ = _; rw [HS.out]; simp [P.ofKind, hy]
          clear HS
          subst hy
          go_wp2
          go_roundg (l.length - (k + 1))
          case measure => omega
          case rel => exact ⟨k + 1, by omega, rfl, by go_num, by rw [HS2.out], hB⟩
        · have hy' : (y == kind) = false := by simpa using hy
          have HS2 : Aside (P.ftot (P.ofKind kind) (l.take (k + 1)) = S) := by show _ = _; rw [HS.out]; simp [P.ofKind, hy, h0]
          clear HS
          go_wp2
          go_roundg (l.length - (k + 1))
          case measure => omega
          case rel => exact ⟨k + 1, by omega, rfl, by go_num, by rw [HS2.out], hB⟩
    · obtain rfl : k = l.length := by omega
      rw [List.take_length]
      go_wp2
      go_ret
      exact ⟨rfl, hB⟩

theorem ofKind_zero : P.ofKind 0 = P.all := by funext x; simp [P.ofKind, P.all]

set_option maxHeartbeats 40000000 in
theorem checkFolio_any (ao : Option Addr) (cap : Nat) (l : List Ent) (w : World) (hl : EntsAt w ao cap l) :
    Calls Tryz.prog 80 #[.slice ao l.length cap] w fun e w' => e = .returned (.int .i64 (P.folE l)) ∧ Below w.heap.size w w' := by
  have hle := hl.le
  have hmx := hl.max
  unfold maxLen at hmx
  by_cases h12 : 12 < l.length
  · have HE : Aside (P.folE l = 2) := by show _ = _; rw [P.folE, if_pos h12]
    go_enter Tryz.func80, Tryz.ntmps80
    go_wp2
    go_ret
    exact ⟨ret_int HE.out.symm, Below.refl _ _⟩
  have HF : Aside (P.folE l = if P.entsE 0 l = 0 then (if (P.sumsL P.all 0 l).all P.amt = true then 0 else 3) else P.entsE 0 l) := by show _ = _; rw [P.folE, if_neg h12]
  have h12i : ¬ ((12 : Int) < (l.length : Int)) := by omega
  go_enter Tryz.func80, Tryz.ntmps80
  go_wp2
  go_loopg [3] l.length (fun g i wr => ∃ (k : Nat) (day : Int), k ≤ l.length ∧ g = l.length - k ∧ i = .int .i64 k ∧ P.entsE day (l.drop k) = P.entsE 0 l ∧ (k = 0 → day = 0) ∧ (0 < k → ∃ y z, l.drop (k - 1) = (day, y, z) :: l.drop k) ∧ Below w.heap.size w wr)
  case atStart => exact ⟨0, 0, Nat.zero_le _, rfl, rfl, rfl, fun _ => rfl, fun h => absurd h (by omega), Below.refl _ _⟩
  case round =>
    obtain ⟨k, day, hk, rfl, rfl, hP, hk0, hkp, hB⟩ := hrel
    have HP : Aside (P.entsE day (l.drop k) = P.entsE 0 l) := hP
    have HK0 : Aside (k = 0 → day = 0) := hk0
    have HKP : Aside (0 < k → ∃ y z, l.drop (k - 1) = (day, y, z) :: l.drop k) := hkp
    clear hP hk0 hkp
    by_cases hlt : k < l.length
    · obtain ⟨b, off, x, y, z, rfl, hbl, hd, e0, e1, e2⟩ := EntsAt.get hl hB k hlt
      have HD : Aside (l.drop k = (x, y, z) :: l.drop (k + 1)) := hd
      have hd' := HP.out
      rw [hd, P.entsE] at hd'
      have HP2 : Aside ((if P.entE (x, y, z) day = 0 then P.entsE x (l.drop (k + 1)) else P.entE (x, y, z) day) = P.entsE 0 l) := hd'
      clear hd hd' HP
      have HN : Aside (∀ c, P.entE (x, y, z) day = c → c ≠ 0 → P.folE l = c) := by
        intro c hc hne
        have := HP2.out
        rw [hc, if_neg hne] at this
        rw [HF.out, ← this, if_neg hne]
      have HY : Aside (P.entE (x, y, z) day = 0 → P.entsE x (l.drop (k + 1)) = P.entsE 0 l) := by
        intro hc
        have := HP2.out
        rwa [if_pos hc] at this
      clear HP2
      cases hky : P.btw y 1 4
      · have HE : Aside (P.folE l = 7) := HN.out 7 (by
          have : P.entB (x, y, z) = 7 := by rw [P.entB, if_neg (by simp [hky])]
          rw [P.entE, this]; rfl) (by omega)
        go_wp2_with (go_at_call 74; refine (between_any _ _ _ _).mono ?_; rintro e w1 ⟨rfl, rfl⟩; rw [hky])
        go_ret
        exact ⟨ret_int HE.out.symm, bvia hB (by go_grown)⟩
      cases hdx : P.btw x 0 9999
      · have HE : Aside (P.folE l = 3) := HN.out 3 (by
          have : P.entB (x, y, z) = 3 := by rw [P.entB, if_pos hky, if_neg (by simp [hdx])]
          rw [P.entE, this]; rfl) (by omega)
        go_wp2_with (go_at_call 74; refine (between_any _ _ _ _).mono ?_; rintro e w1 ⟨rfl, rfl⟩; first | rw [hky] | rw [hdx])
        go_ret
        exact ⟨ret_int HE.out.symm, bvia hB (by go_grown)⟩
      cases haz : P.amt z
      · have HE : Aside (P.folE l = 3) := HN.out 3 (by
          have : P.entB (x, y, z) = 3 := by rw [P.entB, if_pos hky, if_neg (by simp [haz])]
          rw [P.entE, this]; rfl) (by omega)
        have haz' : P.btw z (-100000000) 100000000 = false := haz
        go_wp2_with (go_at_call 74; refine (between_any _ _ _ _).mono ?_; rintro e w1 ⟨rfl, rfl⟩; first | rw [hky] | rw [hdx] | rw [haz'])
        go_ret
        exact ⟨ret_int HE.out.symm, bvia hB (by go_grown)⟩
      have HB : Aside (P.entB (x, y, z) = if z < 0 ∧ (y = 1 ∨ y = 3) ∨ 0 < z ∧ y = 2 then 4 else 0) := by
        show _ = _
        rw [P.entB, if_pos hky, if_pos ⟨hdx, haz⟩]
      have haz' : P.btw z (-100000000) 100000000 = true := haz
      have hx0 : 0 ≤ x := by simp [P.btw] at hdx; omega
      have hyy : y = 1 ∨ y = 2 ∨ y = 3 ∨ y = 4 := by simp [P.btw] at hky; omega
      clear haz
      by_cases hbad : z < 0 ∧ (y = 1 ∨ y = 3) ∨ 0 < z ∧ y = 2
      · have HE : Aside (P.folE l = 4) := HN.out 4 (by
          have : P.entB (x, y, z) = 4 := by rw [HB.out, if_pos hbad]
          rw [P.entE, this]; rfl) (by omega)
        rcases hbad with ⟨hz, rfl | rfl⟩ | ⟨hz, rfl⟩
        all_goals
          clear hyy
          go_wp2_with (go_at_call 74; refine (between_any _ _ _ _).mono ?_; rintro e w1 ⟨rfl, rfl⟩; first | rw [hky] | rw [hdx] | rw [haz'])
          go_ret
          exact ⟨ret_int HE.out.symm, bvia hB (by go_grown)⟩
      have HB0 : Aside (P.entB (x, y, z) = 0) := by show _ = _; rw [HB.out, if_neg hbad]
      clear HB
      have HX : Aside (∀ day, P.entE (x, y, z) day = if x < day then 4 else 0) := fun day => by rw [P.entE, if_pos HB0.out]
      have HS : Aside (l.drop ((k + 1) - 1) = (x, y, z) :: l.drop (k + 1)) := HD.out
      rcases Nat.eq_zero_or_pos k with h0 | h0
      · have HO : Aside (P.entsE x (l.drop (k + 1)) = P.entsE 0 l) := HY.out (by rw [HX.out, HK0.out h0, if_neg (by omega)])
        have g0 : decide ((0 : Int) < (k : Int)) = false := by simp; omega
        have g1 : decide (0 < k) = false := by simp; omega
        rcases hyy with rfl | rfl | rfl | rfl
        all_goals
          try (have n1 : ¬ z < 0 := by omega)
          try (have n2 : ¬ 0 < z := by omega)
          clear hbad h0
          go_wp2_with (go_at_call 74; refine (between_any _ _ _ _).mono ?_; rintro e w1 ⟨rfl, rfl⟩; first | rw [hky] | rw [hdx] | rw [haz'])
          go_quiet (fail)
          go_wp2
          go_roundg (l.length - (k + 1))
          case measure => omega
          case rel => exact ⟨k + 1, x, by omega, rfl, by go_num, HO.out, fun h => absurd h (by omega), fun _ => ⟨_, z, HS.out⟩, below_drewN (bvia hB (by go_grown)) _⟩
      · obtain ⟨j, rfl⟩ : ∃ j, k = j + 1 := ⟨k - 1, by omega⟩
        obtain ⟨py, pz, hpd⟩ := HKP.out h0
        obtain ⟨b', off', x', y', z', hbb, -, hd', f0, -, -⟩ := EntsAt.get hl hB j (by omega)
        obtain ⟨rfl, rfl⟩ : b' = b ∧ off' = off := by simpa using hbb.symm
        obtain rfl : x' = day := by
          rw [show j + 1 - 1 = j by omega, hd'] at hpd
          simp at hpd
          exact hpd.1
        clear hd' hbb hpd h0
        have g0 : (0 : Int) < (j : Int) + 1 := by omega
        have i0 : (0 : Int) ≤ (j : Int) + 1 := by omega
        have i1 : (j : Int) + 1 < (l.length : Int) := by omega
        have i2 : (j : Int) < (l.length : Int) := by omega
        have i3 : (0 : Int) ≤ (j : Int) := by omega
        have hBs := hB.size
        have f1 : ∀ o, (wr.alloc o).cell? ⟨b', off' + j * 3, none⟩ = some (.int .i64 x') := fun o => oldCell o f0
        by_cases hdd : x < x'
        · have HE : Aside (P.folE l = 4) := HN.out 4 (by rw [HX.out, if_pos hdd]) (by omega)
          rcases hyy with rfl | rfl | rfl | rfl
          all_goals
            try (have n1 : ¬ z < 0 := by omega)
            try (have n2 : ¬ 0 < z := by omega)
            clear hbad
            go_wp2_with (go_at_call 74; refine (between_any _ _ _ _).mono ?_; rintro e w1 ⟨rfl, rfl⟩; first | rw [hky] | rw [hdx] | rw [haz'])
            go_quiet (fail)
            go_wp2
            go_ret
            exact ⟨ret_int HE.out.symm, below_drewN (bvia hB (by go_grown)) _⟩
        · have HO : Aside (P.entsE x (l.drop (j + 1 + 1)) = P.entsE 0 l) := HY.out (by rw [HX.out, if_neg hdd])
          have hdt : decide (x < x') = false := by simpa using hdd
          rcases hyy with rfl | rfl | rfl | rfl
          all_goals
            try (have n1 : ¬ z < 0 := by omega)
            try (have n2 : ¬ 0 < z := by omega)
            clear hbad
            go_wp2_with (go_at_call 74; refine (between_any _ _ _ _).mono ?_; rintro e w1 ⟨rfl, rfl⟩; first | rw [hky] | rw [hdx] | rw [haz'])
            go_quiet (fail)
            go_wp2
            go_roundg (l.length - (j + 1 + 1))
            case measure => omega
            case rel => exact ⟨j + 1 + 1, x, by omega, rfl, by go_num, HO.out, fun h => absurd h (by omega), fun _ => ⟨_, z, HS.out⟩, below_drewN (bvia hB (by go_grown)) _⟩
    · obtain rfl : k = l.length := by omega
      have hP := HP.out
      rw [List.drop_of_length_le (Nat.le_refl _), P.entsE] at hP
      have HF2 : Aside (P.folE l = if (P.sumsL P.all 0 l).all P.amt = true then 0 else 3) := by show _ = _; rw [HF.out, if_pos hP.symm]
      have HA : Aside (∀ x ∈ l, -100000000 ≤ x.2.2 ∧ x.2.2 ≤ 100000000) := entsE_amt hP.symm
      clear hP HP HK0 HKP HF
      go_wp2
      go_loopg [5] l.length (fun g i wr => ∃ (j : Nat), j ≤ l.length ∧ g = l.length - j ∧ i = .int .i64 ((j : Int) + 1) ∧ (P.sumsL P.all (P.ftot P.all (l.take j)) (l.drop j)).all P.amt = (P.sumsL P.all 0 l).all P.amt ∧ Below w.heap.size w wr)
      case atStart => exact ⟨0, Nat.zero_le _, rfl, rfl, by simp [P.ftot], hB⟩
      case round =>
        clear hB
        obtain ⟨j, hj, rfl, rfl, hQ, hB⟩ := hrel
        have HQ : Aside ((P.sumsL P.all (P.ftot P.all (l.take j)) (l.drop j)).all P.amt = (P.sumsL P.all 0 l).all P.amt) := hQ
        clear hQ
        by_cases hlt : j < l.length
        · have hd := List.drop_eq_getElem_cons hlt
          have hq := HQ.out
          have hT : P.ftot P.all (l.take (j + 1)) = P.ftot P.all (l.take j) + l[j].2.2 := by
            rw [List.take_succ_eq_append_getElem hlt, ftot_append]
            simp [P.ftot, P.all]
          rw [hd, P.sumsL, if_pos rfl, ← hT, List.all_cons] at hq
          have HQ2 : Aside ((P.amt (P.ftot P.all (l.take (j + 1))) && (P.sumsL P.all (P.ftot P.all (l.take (j + 1))) (l.drop (j + 1))).all P.amt) = (P.sumsL P.all 0 l).all P.amt) := hq
          clear hd hq HQ hT
          have hsl := run_head ao l.length cap (j + 1) (by omega)
          rw [show (((j + 1 : Nat) : Int)) = (j : Int) + 1 by omega] at hsl
          have h1 : (j : Int) + 1 ≤ (l.length : Int) := by omega
          have hhead : EntsAt wr ao cap (l.take (j + 1)) := EntsAt.head (b := l.drop (j + 1)) (by rw [List.take_append_drop]; exact SlAt.below REnt.mono hl hB)
          have hlen : (l.take (j + 1)).length = j + 1 := by rw [List.length_take]; omega
          have hsum := sumOf_any ao cap (l.take (j + 1)) 0 wr hhead (by omega) (fun x hx => by have := HA.out x (List.mem_of_mem_take hx); omega)
          rw [hlen, ofKind_zero] at hsum
          have HSUM : Aside _ := hsum
          clear hsum hlen hhead
          obtain ⟨S, hS⟩ : ∃ S, P.ftot P.all (l.take (j + 1)) = S := ⟨_, rfl⟩
          rw [hS] at HQ2 HSUM
          have HSS : Aside (P.ftot P.all (l.take (j + 1)) = S) := hS
          clear hS
          cases hamt : P.amt S
          · have HE : Aside (P.folE l = 3) := by
              show _ = _
              have := HQ2.out
              rw [hamt, Bool.false_and] at this
              rw [HF2.out, ← this]; rfl
            have hamt' : P.btw S (-100000000) 100000000 = false := hamt
            go_wp2_with fail
            refine Calls.mono HSUM.out ?_
            rintro e w1 ⟨rfl, hb1⟩
            go_wp2_with (go_at_call 74; refine (between_any _ _ _ _).mono ?_; rintro e w2 ⟨rfl, rfl⟩; rw [hamt'])
            go_ret
            exact ⟨ret_int HE.out.symm, bvia hB hb1⟩
          · have HQ3 : Aside ((P.sumsL P.all S (l.drop (j + 1))).all P.amt = (P.sumsL P.all 0 l).all P.amt) := by
              have := HQ2.out
              rwa [hamt, Bool.true_and] at this
            have hamt' : P.btw S (-100000000) 100000000 = true := hamt
            go_wp2_with fail
            refine Calls.mono HSUM.out ?_
            rintro e w1 ⟨rfl, hb1⟩
            go_wp2_with (go_at_call 74; refine (between_any _ _ _ _).mono ?_; rintro e w2 ⟨rfl, rfl⟩; rw [hamt'])
            go_roundg (l.length - (j + 1))
            case measure => omega
            case rel => exact ⟨j + 1, by omega, rfl, by go_num, by rw [HSS.out]; exact HQ3.out, bvia hB hb1⟩
        · obtain rfl : j = l.length := by omega
          have hq := HQ.out
          rw [List.drop_of_length_le (Nat.le_refl _), P.sumsL] at hq
          have HE : Aside (P.folE l = 0) := by show _ = _; rw [HF2.out, ← hq]; rfl
          have h1 : ¬ ((l.length : Int) + 1 ≤ (l.length : Int)) := by omega
          clear hq
          go_wp2
          go_ret
          exact ⟨ret_int HE.out.symm, hB⟩

end Go.Proofs.YtlamhfbdeinkkaeGreat.Fo
