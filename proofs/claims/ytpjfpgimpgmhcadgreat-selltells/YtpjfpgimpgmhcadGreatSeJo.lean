/- The reference: SellOf. -/
import Derived.Test.YtpjfpgimpgmhcadGreatAnCo
import Derived.Test.YtpjfpgimpgmhcadGreatSeAo
import Derived.Test.YtpjfpgimpgmhcadGreatStEo
import Derived.Test.YtpjfpgimpgmhcadGreatStRo
import Derived.Deep.CutRange
namespace Go.Proofs.YtpjfpgimpgmhcadGreat.St
open Go.RowKit Bk
set_option linter.unusedSimpArgs false
set_option linter.unusedVariables false
set_option maxRecDepth 10000

/-- What the reference's WithBooking answers, and where it lies. -/
def WithOwn : Prop := ∀ (x : Sail) (a : SailA) (lv : List BkV) (b : Bkg) (fo : Option Addr) (fc : Nat) (w : World), lv.map (·.1) = x.bks → SlAt (RC cellsV) 11 w a.ao a.cap lv → P.SailE x 0 → P.isIn b.id x.bks = false →
    Calls Tryz.prog 18 #[V.sail x a, V.bk b fo fc] w fun e w' => ∃ G cap, e = .returned (V.sail (P.withB x b) ⟨a.v, a.lo, a.bo, a.lc, a.bc, some ⟨G, 0, none⟩, cap⟩) ∧ OwnB w' w.heap.size (.slice (some ⟨G, 0, none⟩) (x.bks.length + 1) cap) (P.insV (b, fo, fc) lv) ∧ Below w.heap.size w w'
theorem priceOf_fee (k cat : Int) (x : Sail) (a : SailA) (b : Bkg) (w : World) (hk : k = 1 ∨ k = 2) (hs : SailAt w x a) (hfr : P.frame x = 0) (hkb : b.kind = k) (hbk : P.bkE x.s b = 0) (hcat : P.catOf k x b = cat) :
    Calls Tryz.prog 83 #[Fo.V.fare a.lo a.bo a.lc a.bc x.L x.al x.th x.B x.dn, .int .i64 cat, .agg #[.int .i64 b.frm, .int .i64 b.to], .int .i64 b.guests] w fun e w' => e = .returned (.int .i64 (P.fee k x b)) ∧ Below w.heap.size w w' := by
  have hz := fee_ok hk hfr hkb hbk
  rw [hcat] at hz
  have := Fo.priceOf_any a.lo a.bo a.lc a.bc x.L x.al x.th x.B x.dn x.s.cs.length x.s.legs cat b.frm b.to b.guests w hs.fare hz
  rw [P.fee, hcat]
  exact this
/-- All bookings of one that is right ahead of the room. -/
theorem pre_all {x : Sail} (h : P.pre x = 0) : P.shp x.s = 0 ∧ (∀ b ∈ x.bks, P.bkE x.s b = 0) ∧ x.bks.length ≤ 16 := by
  obtain ⟨hf, hb, _⟩ := pre_zero h
  obtain ⟨h0, _, _, _, h16⟩ := frame_zero hf
  exact ⟨h0, bksI_ok hb, h16⟩
theorem keep1 {U : World} {b k b' k' : Nat} {v v' : Value} (hne : b ≠ b' ∨ k ≠ k') (h : U.cell? ⟨b, k, none⟩ = some v) : (U.setCell ⟨b', k', none⟩ v').cell? ⟨b, k, none⟩ = some v := by
  rw [World.cell?_setCell_other (h := by
    intro e
    simp only [Addr.mk.injEq] at e
    rcases hne with h | h
    · exact h e.1.symm
    · exact h e.2.1.symm)]
  exact h
abbrev W.sof (w : World) (x : Sail) (a : SailA) (b : Bkg) (fo : Option Addr) (fc : Nat) : World := (W.bk (W.sail w x a) b fo fc).alloc O.zs
/-- A store of a whole value, where a store stands. -/
theorem wpList_stO {ops : Array Oper} {rest : List Oper} {act : Act} {Q : Exit → Act → World → Prop} {w : World} {ty tt : TypeId} {x y : Operand} {pos : String} {af : Array Edge}
    (g : Nat) (old cells : Array Value) (hty : (Tryz.prog.info? ty).map (·.size) = some cells.size) (hx : act.eval x = .pointer (some ⟨g, 0, none⟩)) (hy : act.eval y = .agg cells) (hb : RowIs w g old) (hsz : old.size = cells.size) (h1 : cells.all (·.oneCell') = true)
    (h : ∀ w', RowIs w' g cells → w.grownBy w' (some g) → wpList Tryz.prog ops Q rest (act.put none undef) w') : wpList Tryz.prog ops Q ({ dst := none, op := .store ty x y, type := tt, pos := pos, after := af, guard := none } :: rest) act w :=
  wpList_stC rfl ty x y rfl g old cells hty hx hy hb hsz h1 h
/-- The world with the folio of one fare. -/
structure FolAt (w w3 U : World) (x : Sail) (a : SailA) (z : Bkg) : Prop where
  B : Below w.heap.size w U
  Z : RowIs U (w.heap.size + 1 + 1) C.zs
  N : Fo.EntsAt U (some ⟨w3.heap.size, 0, none⟩) 1 z.fol
  E : ∀ w9, U.heap.size ≤ w9.heap.size → w9.heap[w3.heap.size]? = U.heap[w3.heap.size]? → Fo.EntsAt w9 (some ⟨w3.heap.size, 0, none⟩) 1 z.fol
  L : w3.heap.size < U.heap.size
  M : w.heap.size + 1 + 1 < w3.heap.size
theorem FolAt.drew {w w3 U : World} {x : Sail} {a : SailA} {z : Bkg} (h : FolAt w w3 U x a z) : FolAt w w3 U.drew x a z :=
  ⟨bvia h.B (dr U), h.Z.below (dr U), SlAt.below Fo.REnt.mono h.N (dr U), h.E, h.L, h.M⟩
theorem fol_new {w w3 : World} {x : Sail} {a : SailA} {z : Bkg} {d k n : Int} (hz : z.fol = [(d, k, n)]) (hB : Below w.heap.size w w3) (hZ : RowIs w3 (w.heap.size + 1 + 1) C.zs) :
    FolAt w w3 ((w3.setCell ⟨w.heap.size + 1, 10, none⟩ (.slice (some ⟨w3.heap.size, 0, none⟩) 1 1)).alloc (.cells #[.int .i64 d, .int .i64 k, .int .i64 n] 128)) x a z := by
  have hg4 := grown_st w3 (w.heap.size + 1) 10 (.slice (some ⟨w3.heap.size, 0, none⟩) 1 1)
  have hsz4 : (w3.setCell ⟨w.heap.size + 1, 10, none⟩ (.slice (some ⟨w3.heap.size, 0, none⟩) 1 1)).heap.size = w3.heap.size := by simp [World.setCell]
  have hal := al (w3.setCell ⟨w.heap.size + 1, 10, none⟩ (.slice (some ⟨w3.heap.size, 0, none⟩) 1 1)) (.cells #[.int .i64 d, .int .i64 k, .int .i64 n] 128)
  have hn : ((w3.setCell ⟨w.heap.size + 1, 10, none⟩ (.slice (some ⟨w3.heap.size, 0, none⟩) 1 1)).alloc (.cells #[.int .i64 d, .int .i64 k, .int .i64 n] 128)).heap[w3.heap.size]? = some (.cells #[.int .i64 d, .int .i64 k, .int .i64 n] 128 (0, 0)) := by
    have := heap_alloc_new (w3.setCell ⟨w.heap.size + 1, 10, none⟩ (.slice (some ⟨w3.heap.size, 0, none⟩) 1 1)) (.cells #[.int .i64 d, .int .i64 k, .int .i64 n] 128)
    rw [hsz4] at this
    exact this
  refine ⟨bvia (below_gr hB hB.size hg4 (by omega)) hal, (hZ.gr hg4 (by simp)).below hal, ?_, fun w9 _ h9 => ?_, by rw [World.size_alloc, hsz4]; omega, hZ.lt⟩
  · rw [hz]
    exact ent_at hn
  · rw [hz]
    exact ent_at (by rw [h9]; exact hn)
theorem with_sail' {B : Nat} {U : World} {x : Sail} {a : SailA} {lv : List BkV} {b : Bkg} {fo : Option Addr} {fc G cap : Nat} (hlv : lv.map (·.1) = x.bks) (hU : OwnB U B (.slice (some ⟨G, 0, none⟩) (x.bks.length + 1) cap) (P.insV (b, fo, fc) lv)) (hs : VslAt U x.s a.v) (hf : Fo.FareAt U a.lo a.bo a.lc a.bc x.L x.B) (he : ∀ y ∈ lv, Fo.EntsAt U y.2.1 y.2.2 y.1.fol) (hb : Fo.EntsAt U fo fc b.fol) :
    SailAt U (P.withB x b) ⟨a.v, a.lo, a.bo, a.lc, a.bc, some ⟨G, 0, none⟩, cap⟩ := by
  refine ⟨hs, hf, ?_⟩
  obtain ⟨a5, c5, e5, s5⟩ := OwnC.at cellsV_len hU
  simp only [Value.slice.injEq] at e5
  obtain ⟨rfl, -, rfl⟩ := e5
  have := BkVsAt.all (bkvs_of s5 (fun y hy => by
    rcases insV_mem hy with rfl | h
    · exact hb
    · exact he y h))
  rw [insV_map, hlv] at this
  exact this
/-- Blocks below n, and from N on, are as they were. -/
def Twixt (n N : Nat) (w U : World) : Prop := Below n w U ∧ ∀ b, N ≤ b → b < w.heap.size → U.heap[b]? = w.heap[b]?
theorem Twixt.refl (n N : Nat) (w : World) : Twixt n N w w := ⟨Below.refl _ _, fun _ _ _ => rfl⟩
theorem Twixt.trans {n N : Nat} {a b c : World} (h : Twixt n N a b) (k : Twixt n N b c) : Twixt n N a c :=
  ⟨h.1.trans k.1, fun i h0 hi => by rw [k.2 i h0 (Nat.lt_of_lt_of_le hi h.1.size), h.2 i h0 hi]⟩
theorem Twixt.below {n N : Nat} {w U : World} (h : Below w.heap.size w U) (hn : n ≤ w.heap.size) : Twixt n N w U := ⟨h.mono hn, fun b _ hb => h.block b hb⟩
theorem Twixt.gr {n N g : Nat} {w U : World} (h : w.grownBy U (some g)) (hn : n ≤ w.heap.size) (h1 : n ≤ g) (h2 : g < N) : Twixt n N w U := ⟨below_gr (Below.refl n w) hn h h1, fun b h3 hb => h.block b hb (by simp; omega)⟩
theorem Twixt.mono {n N M : Nat} {w U : World} (h : Twixt n N w U) (hN : N ≤ M) : Twixt n M w U := ⟨h.1, fun b h0 hb => h.2 b (by omega) hb⟩
/-- A sailing that lies in old blocks, and in some from N on. -/
def SailTw (n N : Nat) (w : World) (y : Sail) (a : SailA) : Prop := ∀ U, Twixt n N w U → SailAt U y a
theorem SailTw.at {n N : Nat} {w : World} {y : Sail} {a : SailA} (h : SailTw n N w y a) : SailAt w y a := h w (Twixt.refl _ _ _)
theorem SailTw.on {n N : Nat} {w U : World} {y : Sail} {a : SailA} (h : SailTw n N w y a) (hU : Twixt n N w U) : SailTw n N U y a := fun V hV => h V (hU.trans hV)
theorem SailTw.mono {n N M : Nat} {w : World} {y : Sail} {a : SailA} (h : SailTw n N w y a) (hM : M ≤ N) : SailTw n M w y a := fun U hU => h U (hU.mono hM)
theorem SailTw.zero (n N : Nat) (w : World) : SailTw n N w P.zeroS A.zeroS := fun U _ => zero_at U
/-- What comes lies there, whatever is written into the answer's block. -/
theorem withB_fin {w0 w w3 w4 w5 w7 w9 : World} {x : Sail} {a : SailA} {lv : List BkV} {z : Bkg} {G cap : Nat} (hs : SailAt w0 x a) (h0 : Below w0.heap.size w0 w) (hlv : lv.map (·.1) = x.bks) (he : ∀ y ∈ lv, Fo.EntsAt w0 y.2.1 y.2.2 y.1.fol) (hF : FolAt w w3 w4 x a z)
    (own : OwnB w5 w4.heap.size (.slice (some ⟨G, 0, none⟩) (x.bks.length + 1) cap) (P.insV (z, some ⟨w3.heap.size, 0, none⟩, 1) lv)) (hb : Below w4.heap.size w4 w5) (hb57 : Below w5.heap.size w5 w7) (hg : w7.grownBy w9 (some (w.heap.size + 1 + 1))) :
    SailTw w0.heap.size w.heap.size w9 (P.withB x z) ⟨a.v, a.lo, a.bo, a.lc, a.bc, some ⟨G, 0, none⟩, cap⟩ := by
  intro U hU
  have hB7 : Below w.heap.size w w7 := bvia hF.B (bvia hb hb57)
  have hB9 := below_gr hB7 hB7.size hg (by omega)
  have hL := hF.L
  have hM := hF.M
  have own7 := OwnC.below own hb57
  have own9 : OwnB w9 w4.heap.size (.slice (some ⟨G, 0, none⟩) (x.bks.length + 1) cap) (P.insV (z, some ⟨w3.heap.size, 0, none⟩, 1) lv) := OwnC.apart own7 hg (fun r e hv => by cases e; have := (own7.lt _ hv).1; omega)
  have hz7 := hb.size
  have hz8 := hb57.size
  have hz9 := hg.size
  have hzU := hU.1.size
  have ownU := OwnC.up own9 (w' := U) ⟨hzU, fun b h1 h2 => hU.2 b (by omega) h2⟩
  have hBU : Below w0.heap.size w0 U := (bvia h0 hB9).trans hU.1
  refine with_sail' hlv ownU (hs.below hBU).ship (hs.below hBU).fare (fun y hy => SlAt.below Fo.REnt.mono (he y hy) hBU) (hF.E U (by omega) ?_)
  rw [hU.2 _ (by omega) (by omega), hg.block _ (by omega) (by simp; omega), (bvia hb hb57).block _ hL]
theorem priced_fol (k : Int) (x : Sail) (b : Bkg) : (P.priced k x b).fol = [(x.day, 1, P.fee k x b)] := rfl
theorem fol_meet {w w3 : World} {x : Sail} {a : SailA} {b : Bkg} {fo : Option Addr} {fc : Nat} (k : Int) (hB : Below w.heap.size w w3) (hX : SRow w3 w.heap.size x a) (hY : RowIs w3 (w.heap.size + 1) (C.bk b fo fc)) (hZ : RowIs w3 (w.heap.size + 1 + 1) C.zs) :
    ∃ u3 : World, FolAt w u3 ((w3.setCell ⟨w.heap.size + 1, 10, none⟩ (.slice (some ⟨w3.heap.size, 0, none⟩) 1 1)).alloc (.cells #[.int .i64 x.day, .int .i64 1, .int .i64 (P.fee k x b)] 128)) x a (P.priced k x b) ∧ Aside (SRow ((w3.setCell ⟨w.heap.size + 1, 10, none⟩ (.slice (some ⟨w3.heap.size, 0, none⟩) 1 1)).alloc (.cells #[.int .i64 x.day, .int .i64 1, .int .i64 (P.fee k x b)] 128)) w.heap.size x a) ∧
      Aside (RowIs ((w3.setCell ⟨w.heap.size + 1, 10, none⟩ (.slice (some ⟨w3.heap.size, 0, none⟩) 1 1)).alloc (.cells #[.int .i64 x.day, .int .i64 1, .int .i64 (P.fee k x b)] 128)) (w.heap.size + 1) (C.bk (P.priced k x b) (some ⟨u3.heap.size, 0, none⟩) 1)) := by
  have hg4 := grown_st w3 (w.heap.size + 1) 10 (.slice (some ⟨w3.heap.size, 0, none⟩) 1 1)
  exact ⟨w3, fol_new (priced_fol k x b) hB hZ, (hX.gr hg4 (by simp)).below (al _ _), RowIs.below (RowIs.set (k := 10) hY _) (al _ _)⟩
def P.midJ (x : Sail) (b : Bkg) : Int := if P.isIn b.id x.bks = true then 6 else if 16 ≤ x.bks.length then 2 else 0
theorem waits_no {x : Sail} {b : Bkg} (h1 : b.state = 1) (h2 : b.til < x.day ∨ x.lvs ≤ b.til) : P.waits x b = false := by
  cases h : P.waits x b
  · rfl
  · simp only [P.waits, Bool.or_eq_true, Bool.and_eq_true, decide_eq_true_eq] at h
    omega
theorem bookingAt_arg (v : Value) (x : Sail) (a : SailA) (id : Int) (w : World) (hv : v = V.sail x a) (hs : SailAt w x a) :
    Calls Tryz.prog 14 #[v, .int .i64 id] w fun e w' => e = .returned (.int .i64 (P.bat id 0 x.bks)) ∧ Below w.heap.size w w' := by
  subst hv
  exact bookingAt_any x a id w hs
theorem bat_not {id : Int} {l : List Bkg} (h : P.isIn id l = false) : P.bat id 0 l = -1 := bat_neg.2 (fun b hb e => by
  have := List.any_eq_false.1 h b hb
  simp at this
  exact this e)
theorem bat_is {id : Int} {l : List Bkg} (h : P.isIn id l = true) : 0 ≤ P.bat id 0 l := by
  rcases bat_range (id := id) (i := 0) (l := l) with h1 | h1
  · obtain ⟨b, hb, e⟩ := List.any_eq_true.1 h
    rw [decide_eq_true_iff] at e
    exact absurd e (bat_neg.1 h1 b hb)
  · omega

end Go.Proofs.YtpjfpgimpgmhcadGreat.St
