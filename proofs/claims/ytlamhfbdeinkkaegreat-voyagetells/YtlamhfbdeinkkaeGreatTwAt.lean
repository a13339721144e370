/- Sailings that lie in old blocks and in some from a block on. -/
import Derived.Test.YtlamhfbdeinkkaeGreatAnCt
import Derived.Test.YtlamhfbdeinkkaeGreatStSt
import Derived.Test.YtlamhfbdeinkkaeGreatStXt
import Derived.Test.YtlamhfbdeinkkaeGreatSeLt
import Derived.Test.YtlamhfbdeinkkaeGreatStJt
namespace Go.Proofs.YtlamhfbdeinkkaeGreat.St
open Go.RowKit Bk
set_option linter.unusedSimpArgs false
set_option linter.unusedVariables false
set_option maxRecDepth 10000

/-- A store of a whole value, where a store stands. -/
theorem wpList_stO {ops : Array Oper} {rest : List Oper} {act : Act} {Q : Exit → Act → World → Prop} {w : World} {ty tt : TypeId} {x y : Operand} {pos : String} {af : Array Edge}
    (g : Nat) (old cells : Array Value) (hty : (Tryz.prog.info? ty).map (·.size) = some cells.size) (hx : act.eval x = .pointer (some ⟨g, 0, none⟩)) (hy : act.eval y = .agg cells) (hb : RowIs w g old) (hsz : old.size = cells.size) (h1 : cells.all (·.oneCell') = true)
    (h : ∀ w', RowIs w' g cells → w.grownBy w' (some g) → wpList Tryz.prog ops Q rest (act.put none undef) w') : wpList Tryz.prog ops Q ({ dst := none, op := .store ty x y, type := tt, pos := pos, after := af, guard := none } :: rest) act w :=
  wpList_stC rfl ty x y rfl g old cells hty hx hy hb hsz h1 h
/-- Blocks below n, and from N on, are as they were. -/
def Twixt (n N : Nat) (w U : World) : Prop := Below n w U ∧ ∀ b, N ≤ b → b < w.heap.size → U.heap[b]? = w.heap[b]?
theorem Twixt.refl (n N : Nat) (w : World) : Twixt n N w w := ⟨Below.refl _ _, fun _ _ _ => rfl⟩
theorem Twixt.trans {n N : Nat} {a b c : World} (h : Twixt n N a b) (k : Twixt n N b c) : Twixt n N a c :=
  ⟨h.1.trans k.1, fun i h0 hi => by rw [k.2 i h0 (Nat.lt_of_lt_of_le hi h.1.size), h.2 i h0 hi]⟩
theorem Twixt.below {n N : Nat} {w U : World} (h : Below w.heap.size w U) (hn : n ≤ w.heap.size) : Twixt n N w U := ⟨h.mono hn, fun b _ hb => h.block b hb⟩
theorem Twixt.gr {n N g : Nat} {w U : World} (h : w.grownBy U (some g)) (hn : n ≤ w.heap.size) (h1 : n ≤ g) (h2 : g < N) : Twixt n N w U := ⟨below_gr (Below.refl n w) hn h h1, fun b h3 hb => h.block b hb (by simp; omega)⟩
theorem Twixt.mono {n N M : Nat} {w U : World} (h : Twixt n N w U) (hN : N ≤ M) : Twixt n M w U := ⟨h.1, fun b h0 hb => h.2 b (by omega) hb⟩
/-- A sailing that lies in old blocks, and in some from N on. -/
def SailTw (n N : Nat) (w : World) (y : Sail) (a : SailA) : Prop := ∀ U, Twixt n N w U → SailAt U y a
theorem SailTw.at {n N : Nat} {w : World} {y : Sail} {a : SailA} (h : SailTw n N w y a) : SailAt w y a := h w (Twixt.refl _ _ _)
theorem SailTw.on {n N : Nat} {w U : World} {y : Sail} {a : SailA} (h : SailTw n N w y a) (hU : Twixt n N w U) : SailTw n N U y a := fun V hV => h V (hU.trans hV)
theorem SailTw.mono {n N M : Nat} {w : World} {y : Sail} {a : SailA} (h : SailTw n N w y a) (hM : M ≤ N) : SailTw n M w y a := fun U hU => h U (hU.mono hM)
theorem SailTw.zero (n N : Nat) (w : World) : SailTw n N w P.zeroS A.zeroS := fun U _ => zero_at U

end Go.Proofs.YtlamhfbdeinkkaeGreat.St
namespace Go.Proofs.YtlamhfbdeinkkaeGreat.St
open Go.RowKit Bk
set_option linter.unusedSimpArgs false
set_option linter.unusedVariables false
set_option maxRecDepth 10000

/-- One booking is changed as T says: the errno and the sailing. -/
def P.Ch (x : Sail) (id : Int) (T : Bkg → Int → Bkg → Prop) (r : Int) (y : Sail) : Prop :=
  (P.LiveIs x.bks id (-1) ∧ r = 5 ∧ y = P.zeroS) ∨
  ∃ (k : Nat) (b : Bkg), P.LiveIs x.bks id k ∧ x.bks[k]? = some b ∧ ∃ e b', T b e b' ∧ ((¬ e = 0 ∧ r = e ∧ y = P.zeroS) ∨ (e = 0 ∧ r = 0 ∧ y = P.setB x (x.bks.set k b')))
theorem Ch.one {x : Sail} {id : Int} {T : Bkg → Int → Bkg → Prop} {r r' : Int} {y y' : Sail} (hr : x.bks.Pairwise (fun a b => a.id < b.id)) (hT : ∀ b e b' e' b'', T b e b' → T b e' b'' → e = e' ∧ (e = 0 → b' = b'')) (h : P.Ch x id T r y) (h' : P.Ch x id T r' y') : r = r' ∧ y = y' := by
  rcases h with ⟨h1, rfl, rfl⟩ | ⟨k, b, h1, h2, e, b', h3, h4⟩ <;> rcases h' with ⟨g1, rfl, rfl⟩ | ⟨k', c, g1, g2, e', c', g3, g4⟩
  · exact ⟨rfl, rfl⟩
  · have := LiveIs.one hr h1 g1; omega
  · have := LiveIs.one hr h1 g1; omega
  · have hk := LiveIs.one hr h1 g1
    obtain rfl : k = k' := by omega
    rw [h2] at g2
    obtain rfl := Option.some.inj g2
    obtain ⟨e1, e2⟩ := hT _ _ _ _ _ h3 g3
    subst e1
    rcases h4 with ⟨a1, rfl, rfl⟩ | ⟨rfl, rfl, rfl⟩ <;> rcases g4 with ⟨c1, rfl, rfl⟩ | ⟨c1, rfl, rfl⟩
    · exact ⟨rfl, rfl⟩
    · exact absurd c1 a1
    · exact absurd rfl c1
    · rw [e2 rfl]; exact ⟨rfl, rfl⟩
end Go.Proofs.YtlamhfbdeinkkaeGreat.St
namespace Go.Proofs.YtlamhfbdeinkkaeGreat.St
open Go.RowKit Bk
set_option linter.unusedSimpArgs false
set_option linter.unusedVariables false
set_option maxRecDepth 10000

abbrev W.sp2 (w : World) (f t : Int) : World := w.alloc (.cells #[.int .i64 f, .int .i64 t] 34)
end Go.Proofs.YtlamhfbdeinkkaeGreat.St
namespace Go.Proofs.YtlamhfbdeinkkaeGreat.St
open Go.RowKit Bk
set_option linter.unusedSimpArgs false
set_option linter.unusedVariables false
set_option maxRecDepth 10000

theorem rA {w w' : World} {g : Nat} {c : Array Value} (h : Aside (RowIs w g c)) (hb : Below w.heap.size w w') : Aside (RowIs w' g c) := h.out.below hb
theorem rS {w w' : World} {x : Sail} {a : SailA} (h : Aside (SailAt w x a)) (hb : Below w.heap.size w w') : Aside (SailAt w' x a) := h.out.below hb
theorem rI {w w' : World} {ao : Option Addr} {cap : Nat} {l : List Int} (h : Aside (IntsAt w ao cap l)) (hb : Below w.heap.size w w') : Aside (IntsAt w' ao cap l) := SlAt.below RInt.mono h.out hb
theorem rW {w0 w w' : World} (h : Aside (Below w0.heap.size w0 w)) (hb : Below w.heap.size w w') : Aside (Below w0.heap.size w0 w') := bvia h.out hb
theorem tB {n N : Nat} {w w' : World} {y : Sail} {a : SailA} (h : Aside (SailTw n N w y a)) (hb : Below w.heap.size w w') (hn : n ≤ w.heap.size) : Aside (SailTw n N w' y a) := h.out.on (Twixt.below hb hn)
theorem tG {n N g : Nat} {w w' : World} {y : Sail} {a : SailA} (h : Aside (SailTw n N w y a)) (hg : w.grownBy w' (some g)) (hn : n ≤ w.heap.size) (h1 : n ≤ g) (h2 : g < N) : Aside (SailTw n N w' y a) := h.out.on (Twixt.gr hg hn h1 h2)
theorem gA {w w' : World} {g r : Nat} {c : Array Value} (h : Aside (RowIs w g c)) (hg : w.grownBy w' (some r)) (hne : g ≠ r) : Aside (RowIs w' g c) := h.out.gr hg (by simp [hne])
theorem gW {n r : Nat} {w0 w w' : World} (h : Aside (Below n w0 w)) (hn : n ≤ w.heap.size) (hg : w.grownBy w' (some r)) (hr : n ≤ r) : Aside (Below n w0 w') := below_gr h.out hn hg hr
theorem SellS.zero {k : Int} {x : Sail} {b : Bkg} {r : Int} {y : Sail} (h : P.SellS k x b r y) : ¬ r = 0 → y = P.zeroS := fun hr => SellS.err h hr

theorem sail_total' (x : Sail) : ∃ r, P.SailE x r := by
  by_cases h : P.pre x = 0
  · cases ht : P.twice x
    · cases hm : P.many x
      · obtain ⟨c, hc⟩ := max_ex (P.pids x.bks).length (fun m hm => isM_le pedg_left hm)
        exact ⟨_, .inr ⟨h, _, .inr (.inr ⟨ht, hm, c, hc, rfl⟩), rfl⟩⟩
      · exact ⟨_, .inr ⟨h, _, .inr (.inl ⟨ht, hm, rfl⟩), rfl⟩⟩
    · exact ⟨_, .inr ⟨h, _, .inl ⟨ht, rfl⟩, rfl⟩⟩
  · exact ⟨_, .inl ⟨h, rfl⟩⟩

set_option maxHeartbeats 4000000 in
theorem sailingIs_any (e : Int) (y z : Sail) (a a' : SailA) (w : World) (hy : SailAt w y a) (hz : e = 0 → z = y ∧ SailAt w z a') (hn : ¬ e = 0 → y = P.zeroS) :
    Calls Tryz.prog 28 #[V.sail y a, .int .i64 e, .int .i64 e, V.sail z a'] w fun r w' => r = .returned (.bool true) ∧ Below w.heap.size w w' := by
  have hb0 : Below w.heap.size w (W.sail (W.sail w y a) z a') := bvia (sail_below w y a) (sail_below _ z a')
  have HX0 : Aside (SRow (W.sail (W.sail w y a) z a') w.heap.size y a) := (RowIs.new w _ _ : SRow (W.sail w y a) w.heap.size y a).below (sail_below _ z a')
  have HY0 : Aside (SRow (W.sail (W.sail w y a) z a') (w.heap.size + 1) z a') := by
    have := RowIs.new (W.sail w y a) (C.sail z a') 32
    rwa [World.size_alloc] at this
  have HS : Aside (SailAt w y a) := hy
  clear hy
  cases he : (e != 0)
  · obtain rfl : e = 0 := by simpa using he
    obtain ⟨rfl, hz2⟩ := hz rfl
    have HZ : Aside (SailAt w z a') := hz2
    clear hz hz2 hn he
    obtain ⟨d0, d1, d2, d3, d4, d5, d6, d7, d8, d9, d10, d11, d12⟩ := SRow.box HX0.out
    obtain ⟨e0, e1, e2, e3, e4, e5, e6, e7, e8, e9, e10, e11, e12⟩ := SRow.box HY0.out
    go_enter Tryz.func28, Tryz.ntmps28
    go_wp2_with fail
    refine (sameSailing_eq z a a' _ (HS.out.below hb0) (HZ.out.below hb0)).mono ?_
    rintro r w1 ⟨rfl, hb1⟩
    have hB1 := bvia hb0 hb1
    go_wp2
    go_ret
    exact ⟨rfl, hB1⟩
  · obtain rfl := hn (by simpa using he)
    have HN : Aside ((e != 0) = true) := he
    clear hz hn
    obtain ⟨d0, d1, d2, d3, d4, d5, d6, d7, d8, d9, d10, d11, d12⟩ := SRow.box HX0.out
    go_enter Tryz.func28, Tryz.ntmps28
    go_wp2_with ((with_reducible refine wpList_stO (w.heap.size + 1) (C.sail z a') (C.sail P.zeroS A.zeroS) ?_ ?_ ?_ HY0.out ?_ ?_ ?_); exact Tryz.sizeSail; rfl; rfl; rfl; exact sail_one _ _; intro w9 hr9 hg9; have HX9 : SRow w9 w.heap.size P.zeroS a := HX0.out.gr hg9 (by simp); obtain ⟨q0, q1, q2, q3, q4, q5, q6, q7, q8, q9, q10, q11, q12⟩ := SRow.box HX9; obtain ⟨e0, e1, e2, e3, e4, e5, e6, e7, e8, e9, e10, e11, e12⟩ := SRow.box hr9; have hb9 : Below w.heap.size w w9 := below_gr hb0 hb0.size hg9 (by omega); clear d0 d1 d2 d3 d4 d5 d6 d7 d8 d9 d10 d11 d12)
    refine (sameSailing_eq P.zeroS a A.zeroS _ (HS.out.below hb9) (zero_at _)).mono ?_
    rintro r w1 ⟨rfl, hb1⟩
    have hB1 := bvia hb9 hb1
    go_wp2
    go_ret
    exact ⟨rfl, hB1⟩

end Go.Proofs.YtlamhfbdeinkkaeGreat.St
namespace Go.Proofs.YtlamhfbdeinkkaeGreat.St
open Go.RowKit Bk
set_option linter.unusedSimpArgs false
set_option linter.unusedVariables false
set_option maxRecDepth 10000

set_option maxHeartbeats 2000000 in
theorem bkIdx_any (ao : Option Addr) (cap : Nat) (l : List Bkg) (F : Nat) (cs : Array Value) (p : Bkg → Bool) (w : World) (hl : BksAt w ao cap l)
    (hcf : ∀ (args : Array Value) (wx : World), (callFunc F args).run Tryz.prog wx = .ok (.enter F args) wx)
    (hp : Hid (∀ (x : Bkg) (fo : Option Addr) (fc : Nat) (wx : World), Below w.heap.size w wx → Calls Tryz.prog F (#[V.bk x fo fc] ++ cs) wx fun e w' => e = .returned (.bool (p x)) ∧ Below wx.heap.size wx w')) :
    Calls Tryz.prog 115 #[.slice ao l.length cap, .func (.func F) #[] cs] w fun e w' => ∃ n : Int, e = .returned (.int .i64 n) ∧ ((∃ (k : Nat) (b : Bkg), n = k ∧ l[k]? = some b ∧ p b = true) ∨ (n = -1 ∧ ∀ b ∈ l, p b = false)) ∧ Below w.heap.size w w' := by
  have hle := hl.le
  have hmx := hl.max
  unfold maxLen at hmx
  go_enter Tryz.func115, Tryz.ntmps115
  go_wp2
  go_loopg [8] l.length (fun g i wr => ∃ (k : Nat), k ≤ l.length ∧ g = l.length - k ∧ i = .int .i64 k ∧ Aside (∀ b ∈ l.take k, p b = false) ∧ Below w.heap.size w wr)
  case atStart => exact ⟨0, Nat.zero_le _, rfl, rfl, (fun b hb => by simp at hb), Below.refl _ _⟩
  case round =>
    obtain ⟨k, hk, rfl, rfl, HP, hB⟩ := hrel
    by_cases hlt : k < l.length
    · obtain ⟨b, off, x, fo, fc, rfl, hbw, hd, hy, hfy⟩ := BksAt.get hl hB k hlt
      have HX : Aside (l[k]? = some x) := by
        have := congrArg (fun l => l[0]?) hd
        show _ = _
        simpa using this
      have HT : Aside (l.take (k + 1) = l.take k ++ [x]) := take_snoc' hlt hd
      obtain ⟨y0, y1, y2, y3, y4, y5, y6, y7, y8, y9, y10⟩ := hy
      clear hd hfy
      cases hpf : p x
      · have HP2 : Aside (∀ b ∈ l.take (k + 1), p b = false) := fun b hb => by
          rw [HT.out] at hb
          rcases List.mem_append.1 hb with h | h
          · exact HP.out b h
          · simp at h
            rw [h]
            exact hpf
        go_wp2_with fail
        refine (hp.out x fo fc _ hB).mono ?_
        rintro e w1 ⟨rfl, hb1⟩
        rw [hpf]
        go_wp2
        go_roundg (l.length - (k + 1))
        case measure => omega
        case rel => exact ⟨k + 1, by omega, rfl, by go_num, HP2, bvia hB hb1⟩
      · have HPF : Aside (p x = true) := hpf
        go_wp2_with fail
        refine (hp.out x fo fc _ hB).mono ?_
        rintro e w1 ⟨rfl, hb1⟩
        rw [hpf]
        go_wp2
        go_ret
        exact ⟨_, rfl, .inl ⟨k, x, rfl, HX.out, HPF.out⟩, bvia hB hb1⟩
    · obtain rfl : k = l.length := by omega
      have HA : Aside (∀ b ∈ l, p b = false) := fun b hb => HP.out b (by rw [List.take_of_length_le (Nat.le_refl _)]; exact hb)
      go_wp2
      go_ret
      exact ⟨_, rfl, .inr ⟨rfl, HA.out⟩, hB⟩

set_option maxHeartbeats 1000000 in
theorem change1_any (id : Int) (G : Nat) (b : Bkg) (fo : Option Addr) (fc : Nat) (w : World) (hG : w.cell? ⟨G, 0, none⟩ = some (.int .i64 id)) :
    Calls Tryz.prog 116 (#[V.bk b fo fc] ++ #[.pointer (some ⟨G, 0, none⟩)]) w fun e w' => e = .returned (.bool (decide (b.id = id) && decide (b.state ≠ 3))) ∧ Below w.heap.size w w' := by
  show Calls Tryz.prog 116 #[V.bk b fo fc, .pointer (some ⟨G, 0, none⟩)] w _
  have hGl : G < w.heap.size := World.block_lt_of_cell? w _ hG
  obtain ⟨z0, z1, z2, z3, z4, z5, z6, z7, z8, z9, z10⟩ := BBox.new w b fo fc
  cases h1 : (b.id == id)
  · go_enter Tryz.func116, Tryz.ntmps116
    go_wp2
    go_ret
    exact ⟨ret_bool (by simp at h1; simp [h1]), by go_grown⟩
  · go_enter Tryz.func116, Tryz.ntmps116
    go_wp2
    go_ret
    exact ⟨ret_bool (by simp at h1; by_cases h3 : b.state = 3 <;> simp [h1, h3]), by go_grown⟩

/-- What a change answers. -/
def P.Chg (x : Sail) (id : Int) (T : Bkg → Int → Bkg → Prop) (r : Int) (y : Sail) : Prop :=
  (∃ q, P.SailE x q ∧ ¬ q = 0 ∧ r = q ∧ y = P.zeroS) ∨ (P.SailE x 0 ∧ ((P.LiveIs x.bks id (-1) ∧ r = 5 ∧ y = P.zeroS) ∨
    ∃ (k : Nat) (b : Bkg), P.LiveIs x.bks id k ∧ x.bks[k]? = some b ∧ P.Anew (fun r => ∃ b', T b r b') (fun y => ∃ b', T b 0 b' ∧ y = P.setB x (x.bks.set k b')) r y))
theorem change1_calls : ∀ (args : Array Value) (wx : World), (callFunc 116 args).run Tryz.prog wx = .ok (.enter 116 args) wx := enters_of Tryz.func116 (by kernel_rfl) rfl
theorem change2_calls : ∀ (args : Array Value) (wx : World), (callFunc 118 args).run Tryz.prog wx = .ok (.enter 118 args) wx := enters_of Tryz.func118 (by kernel_rfl) rfl

abbrev W.chg (w : World) (x : Sail) (a : SailA) (id : Int) (f : Value) : World :=
  (((w.alloc (.cells (C.sail x a) 96)).alloc (.cells #[.int .i64 id] 3)).alloc (.cells #[f] 99)).alloc O.zs
set_option maxHeartbeats 16000000 in
theorem change_any (x : Sail) (a : SailA) (id : Int) (F : Nat) (cs : Array Value) (T : Bkg → Int → Bkg → Prop) (w : World) (hs : SailAt w x a)
    (hcf : ∀ (args : Array Value) (wx : World), (callFunc F args).run Tryz.prog wx = .ok (.enter F args) wx) (hL : P.SailE x 0 → ∀ (k : Nat) (b : Bkg) (wx : World), Below w.heap.size w wx → P.LiveIs x.bks id k → x.bks[k]? = some b → LitOk wx F cs b (T b)) :
    Calls Tryz.prog 63 #[V.sail x a, .int .i64 id, .func (.func F) #[] cs] w fun e w' => ∃ r y a', e = .returned (.tuple #[V.sail y a', .int .i64 r]) ∧ P.Chg x id T r y ∧ SailUp w.heap.size w' y a' ∧ Below w.heap.size w w' := by
  have HS : Aside (SailAt w x a) := hs
  have HL : Aside (P.SailE x 0 → ∀ (k : Nat) (b : Bkg) (wx : World), Below w.heap.size w wx → P.LiveIs x.bks id k → x.bks[k]? = some b → LitOk wx F cs b (T b)) := hL
  have hb0 : Below w.heap.size w (W.chg w x a id (.func (.func F) #[] cs)) := bvia (al _ _) (bvia (al _ _) (bvia (al _ _) (al _ _)))
  have HX0 : Aside (SRow (W.chg w x a id (.func (.func F) #[] cs)) w.heap.size x a) := (((RowIs.new w (C.sail x a) 96).below (al _ _)).below (al _ _)).below (al _ _)
  have HI0 : Aside (RowIs (W.chg w x a id (.func (.func F) #[] cs)) (w.heap.size + 1) #[.int .i64 id]) := by
    have := ((RowIs.new (w.alloc (.cells (C.sail x a) 96)) #[.int .i64 id] 3).below (al _ (.cells #[.func (.func F) #[] cs] 99))).below (al _ O.zs)
    rwa [World.size_alloc] at this
  have HF0 : Aside (RowIs (W.chg w x a id (.func (.func F) #[] cs)) (w.heap.size + 1 + 1) #[.func (.func F) #[] cs]) := by
    have := (RowIs.new ((w.alloc (.cells (C.sail x a) 96)).alloc (.cells #[.int .i64 id] 3)) #[.func (.func F) #[] cs] 99).below (al _ O.zs)
    rwa [World.size_alloc, World.size_alloc] at this
  have HZ0 : Aside (RowIs (W.chg w x a id (.func (.func F) #[] cs)) (w.heap.size + 1 + 1 + 1) C.zs) := by
    have := RowIs.new (((w.alloc (.cells (C.sail x a) 96)).alloc (.cells #[.int .i64 id] 3)).alloc (.cells #[.func (.func F) #[] cs] 99)) C.zs 32
    rwa [World.size_alloc, World.size_alloc, World.size_alloc] at this
  clear hs hL
  obtain ⟨d0, d1, d2, d3, d4, d5, d6, d7, d8, d9, d10, d11, d12⟩ := SRow.box HX0.out
  go_enter Tryz.func63, Tryz.ntmps63
  go_wp2_with fail
  refine (stockCheck_any x a _ (HS.out.below hb0)).mono ?_
  rintro e w1 ⟨q, rfl, hq, hb1⟩
  have HQ : Aside (P.SailE x q) := hq
  have hB1 := bvia hb0 hb1
  have HX1 : Aside (SRow w1 w.heap.size x a) := HX0.out.below hb1
  have HI1 : Aside (RowIs w1 (w.heap.size + 1) #[.int .i64 id]) := HI0.out.below hb1
  have HF1 : Aside (RowIs w1 (w.heap.size + 1 + 1) #[.func (.func F) #[] cs]) := HF0.out.below hb1
  have HZ1 : Aside (RowIs w1 (w.heap.size + 1 + 1 + 1) C.zs) := HZ0.out.below hb1
  clear d0 d1 d2 d3 d4 d5 d6 d7 d8 d9 d10 d11 d12 HX0 HI0 HF0 HZ0 hb0 hb1 hq
  cases hz : (q != 0)
  rotate_left
  · have HN : Aside (¬ q = 0) := by show ¬ _; simpa using hz
    go_wp2_with ((with_reducible refine wpList_stO (w.heap.size + 1 + 1 + 1) C.zs (C.sail P.zeroS A.zeroS) ?_ ?_ ?_ HZ1.out ?_ ?_ ?_); exact Tryz.sizeSail; rfl; rfl; rfl; exact sail_one _ _; intro w9 hr9 hg9)
    exact bodyPost_ret (res2 rfl hr9 _ rfl rfl Tryz.underlying32 rfl Tryz.sizeSail) rfl ⟨q, P.zeroS, A.zeroS, rfl, .inl ⟨q, HQ.out, HN.out, rfl, rfl⟩, SailUp.zero _ _, below_gr hB1 hB1.size hg9 (by omega)⟩
  obtain rfl : q = 0 := by simpa using hz
  clear hz
  have h16 : x.bks.length ≤ 16 := (sail_ok HQ.out).2.2.2.2.1
  have i1 : w1.cell? ⟨w.heap.size + 1, 0, none⟩ = some (.int .i64 id) := HI1.out.cell 0
  have HIX : Aside (Calls Tryz.prog 115 #[.slice a.ao x.bks.length a.cap, .func (.func 116) #[] #[.pointer (some ⟨w.heap.size + 1, 0, none⟩)]] w1 _) :=
    bkIdx_any a.ao a.cap x.bks 116 #[.pointer (some ⟨w.heap.size + 1, 0, none⟩)] (fun b => decide (b.id = id) && decide (b.state ≠ 3)) w1 (SlAt.below RBk.mono HS.out.bks hB1) change1_calls (fun y yo yc wx hw => change1_any id (w.heap.size + 1) y yo yc wx (cellIn hw i1))
  have d11 : w1.cell? ⟨w.heap.size, 11, none⟩ = some (.slice a.ao x.bks.length a.cap) := HX1.out.cell 11
  clear i1
  go_wp2_with fail
  refine HIX.out.mono ?_
  rintro e w2 ⟨n, rfl, hn, hb2⟩
  have HN : Aside (P.LiveIs x.bks id n) := by
    rcases hn with ⟨k, b, rfl, h1, h2⟩ | ⟨rfl, h1⟩
    · simp only [Bool.and_eq_true, decide_eq_true_eq] at h2
      exact .inl ⟨k, b, rfl, h1, h2.1, h2.2⟩
    · refine .inr ⟨rfl, fun b hb hid => ?_⟩
      have h := h1 b hb
      by_cases h3 : b.state = 3
      · exact h3
      · simp [hid, h3] at h
  have HNX : Aside ((∃ (k : Nat) (b : Bkg), n = k ∧ x.bks[k]? = some b) ∨ n = -1) := by
    rcases hn with ⟨k, b, h1, h2, _⟩ | ⟨h1, _⟩
    · exact .inl ⟨k, b, h1, h2⟩
    · exact .inr h1
  have hba := al w2 (.cells #[.int .i64 n] 3)
  have hb3 := bvia hb2 hba
  have HBa : Aside (Below w.heap.size w (w2.alloc (.cells #[.int .i64 n] 3))) := bvia hB1 hb3
  have HX2 : Aside (SRow (w2.alloc (.cells #[.int .i64 n] 3)) w.heap.size x a) := HX1.out.below hb3
  have HF2 : Aside (RowIs (w2.alloc (.cells #[.int .i64 n] 3)) (w.heap.size + 1 + 1) #[.func (.func F) #[] cs]) := HF1.out.below hb3
  have HZ2 : Aside (RowIs (w2.alloc (.cells #[.int .i64 n] 3)) (w.heap.size + 1 + 1 + 1) C.zs) := HZ1.out.below hb3
  have HA2 : Aside (RowIs (w2.alloc (.cells #[.int .i64 n] 3)) w2.heap.size #[.int .i64 n]) := RowIs.new w2 _ _
  clear d11 hn hb2 hba hb3 HIX HX1 HI1 HF1 HZ1 hB1
  rcases HNX.out with ⟨k, b, rfl, hget⟩ | rfl
  rotate_left
  · go_wp2_with ((with_reducible refine wpList_stO (w.heap.size + 1 + 1 + 1) C.zs (C.sail P.zeroS A.zeroS) ?_ ?_ ?_ HZ2.out ?_ ?_ ?_); exact Tryz.sizeSail; rfl; rfl; rfl; exact sail_one _ _; intro w9 hr9 hg9)
    exact bodyPost_ret (res2 rfl hr9 _ rfl rfl Tryz.underlying32 rfl Tryz.sizeSail) rfl ⟨5, P.zeroS, A.zeroS, rfl, .inr ⟨HQ.out, .inl ⟨HN.out, rfl, rfl⟩⟩, SailUp.zero _ _, below_gr HBa.out HBa.out.size hg9 (by omega)⟩
  have HG : Aside (x.bks[k]? = some b) := hget
  have hk0 : ¬ (k : Int) < 0 := by omega
  have HH : Aside (HowOk (w2.alloc (.cells #[.int .i64 (k : Nat)] 3)).heap.size (w2.alloc (.cells #[.int .i64 (k : Nat)] 3)) x 118 #[.pointer (some ⟨w.heap.size + 1 + 1, 0, none⟩), .pointer (some ⟨w2.heap.size, 0, none⟩)] (fun r => ∃ b', T b r b') (fun y => ∃ b', T b 0 b' ∧ y = P.setB x (x.bks.set k b'))) :=
    change2_how _ _ x (w.heap.size + 1 + 1) w2.heap.size F k cs b (T b) (HF2.out.cell 0) (HA2.out.cell 0) hget h16 hcf (HL.out HQ.out k b _ HBa.out HN.out hget)
  clear hget hcf
  obtain ⟨d0, d1, d2, d3, d4, d5, d6, d7, d8, d9, d10, d11, d12⟩ := SRow.box HX2.out
  go_wp2_with fail
  refine (anew_any (w2.alloc (.cells #[.int .i64 (k : Nat)] 3)).heap.size x a 118 _ _ _ (w2.alloc (.cells #[.int .i64 (k : Nat)] 3)) (Nat.le_refl _) (HS.out.below HBa.out) (small_of HQ.out) change2_calls HH.out).mono ?_
  rintro e w5 ⟨r, y, a5, rfl, hA, hU5, hb5⟩
  have HA5 : Aside (P.Anew (fun r => ∃ b', T b r b') (fun y => ∃ b', T b 0 b' ∧ y = P.setB x (x.bks.set k b')) r y) := hA
  have HU5 : Aside (SailUp (w2.alloc (.cells #[.int .i64 (k : Nat)] 3)).heap.size w5 y a5) := hU5
  have HZ5 : Aside (RowIs w5 (w.heap.size + 1 + 1 + 1) C.zs) := HZ2.out.below hb5
  have HB5 : Aside (Below w.heap.size w w5) := bvia HBa.out hb5
  have hlt5 : w.heap.size + 1 + 1 + 1 < (w2.alloc (.cells #[.int .i64 (k : Nat)] 3)).heap.size := HZ2.out.lt
  clear d0 d1 d2 d3 d4 d5 d6 d7 d8 d9 d10 d11 d12 hA hU5 hb5 HH HX2 HF2 HZ2 HA2
  go_wp2_with ((with_reducible refine wpList_stO (w.heap.size + 1 + 1 + 1) C.zs (C.sail y a5) ?_ ?_ ?_ HZ5.out ?_ ?_ ?_); exact Tryz.sizeSail; rfl; rfl; rfl; exact sail_one _ _; intro w9 hr9 hg9)
  exact bodyPost_ret (res2 rfl hr9 _ rfl rfl Tryz.underlying32 rfl Tryz.sizeSail) rfl ⟨r, y, a5, rfl, .inr ⟨HQ.out, .inr ⟨k, b, HN.out, HG.out, HA5.out⟩⟩, SailUp.mono (SailUp.up HU5.out (Up.gr hg9 hlt5)) (by omega), below_gr HB5.out HB5.out.size hg9 (by omega)⟩

end Go.Proofs.YtlamhfbdeinkkaeGreat.St
