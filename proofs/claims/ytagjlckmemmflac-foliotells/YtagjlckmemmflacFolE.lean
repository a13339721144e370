/- Walks of worth, with, Add. -/
import Derived.Test.YtagjlckmemmflacFolD
import Derived.Test.YtagjlckmemmflacGenB
namespace Go.Proofs.Ytagjlckmemmflac
open Go.RowKit
set_option linter.unusedSimpArgs false
set_option linter.unusedVariables false

def cellsN (x : Ent) : List Value := [.int .i64 x.1, .int .i64 x.2.1, .int .i64 x.2.2]
theorem cellsN_len (x : Ent) : (cellsN x).length = 3 := rfl
theorem cellsN_one (x : Ent) : ∀ u ∈ cellsN x, u.oneCell' = true := by simp [cellsN]; exact ⟨rfl, rfl, rfl⟩
/-- The value v is a slice of the call's own that holds the entries l. -/
abbrev OwnN (w : World) (base : Nat) (v : Value) (l : List Ent) : Prop := OwnC cellsN 3 44 w base v l
theorem Try.infoEntry : (Try.prog.info? 44).map (fun i => (i.zero, i.size, i.bytes)) = some (some (.agg #[.int .i64 0, .int .i64 0, .int .i64 0]), 3, 24) := by kernel_rfl
theorem OwnN.at {w : World} {base : Nat} {v : Value} {l : List Ent} (h : OwnN w base v l) : ∃ ao cap, v = .slice ao l.length cap ∧ EntsAt w ao cap l := OwnC.at cellsN_len h

/-- 'append(v, y)'. -/
theorem wpList_app_ent {ops : Array Oper} {rest : List Oper} {o : Oper} {a : Act} {Q : Exit → Act → World → Prop} {W0 : World} (hgd : o.guard = none) (s x : Operand)
    (ho : o.op = .call { callee := .builtin .append, args := #[s, x], argTypes := #[42, 42] }) (base : Nat) (v : Value) (l : List Ent) (d k m : Int) (hs : a.eval s = v) (hown : OwnN W0 base v l)
    (H : Nat) (hH : W0.heap.size = H) (hx : a.eval x = .slice (some ⟨H, 0, none⟩) 1 1) (hb : base ≤ W0.heap.size) (hn : l.length ≤ 1000000)
    (h : ∀ v' w', OwnN w' base v' (l ++ [(d, k, m)]) → W0.grownBy w' v.ownBlock → wpList Try.prog ops Q rest (a.put o.dst v') w') : wpList Try.prog ops Q (o :: rest) a (W0.alloc (.cells #[.int .i64 d, .int .i64 k, .int .i64 m] 44)) :=
  wpList_app_one Try.infoEntry Try.underlying42 rfl (by decide) cellsN_len cellsN_one (by decide) hgd s x ho base v l (d, k, m) _ rfl hs hown H hH hx hb hn h
/-- 'append(v, l2...)'. -/
theorem wpList_app_ents {ops : Array Oper} {rest : List Oper} {o : Oper} {a : Act} {Q : Exit → Act → World → Prop} {W0 : World} (hgd : o.guard = none) (s x : Operand)
    (ho : o.op = .call { callee := .builtin .append, args := #[s, x], argTypes := #[42, 42] }) (base : Nat) (v : Value) (l : List Ent) (ao : Option Addr) (cap : Nat) (l2 : List Ent) (hs : a.eval s = v) (hown : OwnN W0 base v l)
    (hx : a.eval x = .slice ao l2.length cap) (h2 : EntsAt W0 ao cap l2) (hb : base ≤ W0.heap.size) (hn : l.length ≤ 1000000) (hn2 : l2.length ≤ 1000000)
    (h : ∀ v' w', OwnN w' base v' (l ++ l2) → W0.grownBy w' v.ownBlock → wpList Try.prog ops Q rest (a.put o.dst v') w') : wpList Try.prog ops Q (o :: rest) a W0 :=
  wpList_app_many Try.infoEntry Try.underlying42 rfl (by decide) cellsN_len cellsN_one (by decide) hgd s x ho base v l ao cap l2 hs hown hx h2 hb hn hn2 h

def P.worth (l : List Ent) : List Ent := l.filter fun x => x.2.2 != 0

set_option maxHeartbeats 1000000 in
theorem worth_any (ao : Option Addr) (cap : Nat) (l : List Ent) (w : World) (hl : EntsAt w ao cap l) (h12 : l.length ≤ 12) :
    Calls Try.prog 46 #[.slice ao l.length cap] w fun e w' => ∃ v, e = .returned v ∧ OwnN w' w.heap.size v (P.worth l) ∧ Below w.heap.size w w' := by
  have hle := hl.le
  have hmx := hl.max
  unfold maxLen at hmx
  go_enter Try.func46, Try.ntmps46
  go_wp2
  go_loopg [3, 8] l.length (fun g v i wr => ∃ (k : Nat) (acc : List Ent), k ≤ l.length ∧ g = l.length - k ∧ i = .int .i64 k ∧ acc ++ P.worth (l.drop k) = P.worth l ∧ acc.length ≤ k ∧ OwnN wr w.heap.size v acc ∧ Below w.heap.size w wr)
  case atStart => exact ⟨0, [], Nat.zero_le _, rfl, rfl, rfl, by simp, OwnC.nil _ _, Below.refl _ _⟩
  case round =>
    obtain ⟨k, acc, hk, rfl, rfl, hP, hal, hown, hB⟩ := hrel
    have HP : Aside (acc ++ P.worth (l.drop k) = P.worth l) := hP
    clear hP
    have hsz := hB.size
    by_cases hlt : k < l.length
    · obtain ⟨b, off, x, y, z, rfl, hbl, hd, e0, e1, e2⟩ := EntsAt.get hl hB k hlt
      have hd' := HP.out
      rw [hd, P.worth, List.filter_cons] at hd'
      have HP2 : Aside ((acc ++ if ((x, y, z) : Ent).2.2 != 0 then (x, y, z) :: P.worth (l.drop (k + 1)) else P.worth (l.drop (k + 1))) = P.worth l) := hd'
      clear hd hd' HP
      by_cases hz : z = 0
      · subst hz
        have HP3 : Aside (acc ++ P.worth (l.drop (k + 1)) = P.worth l) := by have := HP2.out; show _ = _; simpa using this
        clear HP2
        have HO : Aside (OwnN wr w.heap.size u3 acc) := hown
        clear hown
        go_wp2
        go_roundg (l.length - (k + 1))
        case measure => omega
        case rel => exact ⟨k + 1, acc, by omega, rfl, by go_num, HP3.out, by omega, OwnC.below HO.out (by go_grown), bvia hB (by go_grown)⟩
      · have HP3 : Aside ((acc ++ [(x, y, z)]) ++ P.worth (l.drop (k + 1)) = P.worth l) := by have := HP2.out; show _ = _; simpa [hz] using this
        clear HP2
        have hz2 : (z == 0) = false := by simpa using hz
        have hown1 : OwnN (wr.alloc (.cells #[.int .i64 x, .int .i64 y, .int .i64 z] 44)) w.heap.size u3 acc := OwnC.below hown (by go_grown)
        have hB1 : Below w.heap.size w (wr.alloc (.cells #[.int .i64 x, .int .i64 y, .int .i64 z] 44)) := bvia hB (by go_grown)
        clear hown
        go_wp2_with (at_builtin; refine wpList_app_ent rfl (.tmp 15) (.tmp 17) rfl w.heap.size _ acc x y z rfl hown1 _ (by simp) rfl (by simp; omega) (by omega) ?_; intro v2 w2 hown2 hgr2)
        go_roundg (l.length - (k + 1))
        case measure => omega
        case rel => exact ⟨k + 1, acc ++ [(x, y, z)], by omega, rfl, by go_num, HP3.out, by simp; omega, hown2, OwnC.grown hB1 hown1 (Nat.le_refl _) hgr2⟩
    · obtain rfl : k = l.length := by omega
      have hP := HP.out
      rw [List.drop_of_length_le (Nat.le_refl _)] at hP
      go_wp2
      go_ret
      exact ⟨_, rfl, by rw [← hP]; simpa [P.worth] using hown, hB⟩

end Go.Proofs.Ytagjlckmemmflac
