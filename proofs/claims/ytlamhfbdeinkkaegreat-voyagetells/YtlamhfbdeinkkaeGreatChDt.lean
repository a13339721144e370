/- The reference: MoveOf. -/
import Derived.Test.YtlamhfbdeinkkaeGreatTwAt
import Derived.Test.YtlamhfbdeinkkaeGreatStXt
import Derived.Test.YtlamhfbdeinkkaeGreatChGt
import Derived.Deep.RegionHeld3
import Derived.Test.YtlamhfbdeinkkaeGreatOpenFt
import Derived.Test.YtlamhfbdeinkkaeGreatBaCt
import Derived.Test.YtlamhfbdeinkkaeGreatChWt
import Derived.Test.YtlamhfbdeinkkaeGreatLtAt
namespace Go.Proofs.YtlamhfbdeinkkaeGreat.St
open Go.RowKit Bk
set_option linter.unusedSimpArgs false
set_option linter.unusedVariables false
set_option maxRecDepth 10000

/-- J1: what is wrong with a move, ahead of the room. -/
def P.movE (x : Sail) (b : Bkg) (c : Int) : Int := if b.cabin < 0 then 4 else if c < 0 ∨ (x.s.bs.length : Int) ≤ c then 3 else if c = b.cabin then 6 else P.bkE x.s (P.setC b c)
def P.Moves (x : Sail) (id c r : Int) (y : Sail) : Prop :=
  (P.LiveIs x.bks id (-1) ∧ r = 5 ∧ y = P.zeroS) ∨
  ∃ (k : Nat) (b : Bkg), P.LiveIs x.bks id k ∧ x.bks[k]? = some b ∧
    ((¬ P.movE x b c = 0 ∧ r = P.movE x b c ∧ y = P.zeroS) ∨ (P.movE x b c = 0 ∧ P.Room (P.setB x (x.bks.set k (P.setC b c))) r ∧ ((r = 0 ∧ y = P.setB x (x.bks.set k (P.setC b c))) ∨ (¬ r = 0 ∧ y = P.zeroS))))
theorem Moves.one {x : Sail} {id c r r' : Int} {y y' : Sail} (hr : x.bks.Pairwise (fun a b => a.id < b.id)) (h : P.Moves x id c r y) (h' : P.Moves x id c r' y') : r = r' ∧ y = y' := by
  rcases h with ⟨h1, rfl, rfl⟩ | ⟨k, b, h1, h2, h4⟩ <;> rcases h' with ⟨g1, rfl, rfl⟩ | ⟨k', b', g1, g2, g4⟩
  · exact ⟨rfl, rfl⟩
  · have := LiveIs.one hr h1 g1; omega
  · have := LiveIs.one hr h1 g1; omega
  · have hk := LiveIs.one hr h1 g1
    obtain rfl : k = k' := by omega
    rw [h2] at g2
    obtain rfl := Option.some.inj g2
    rcases h4 with ⟨a1, rfl, rfl⟩ | ⟨a1, a2, a3⟩ <;> rcases g4 with ⟨c1, rfl, rfl⟩ | ⟨c1, c2, c3⟩
    · exact ⟨rfl, rfl⟩
    · exact absurd c1 a1
    · exact absurd a1 c1
    · obtain rfl := Room.one a2 c2
      refine ⟨rfl, ?_⟩
      rcases a3 with ⟨p1, rfl⟩ | ⟨p1, rfl⟩ <;> rcases c3 with ⟨q1, rfl⟩ | ⟨q1, rfl⟩
      · rfl
      · exact absurd p1 q1
      · exact absurd q1 p1
      · rfl

end Go.Proofs.YtlamhfbdeinkkaeGreat.St
namespace Go.Proofs.YtlamhfbdeinkkaeGreat.St
open Go.RowKit Bk
set_option linter.unusedSimpArgs false
set_option linter.unusedVariables false
set_option maxRecDepth 10000

end Go.Proofs.YtlamhfbdeinkkaeGreat.St
namespace Go.Proofs.YtlamhfbdeinkkaeGreat.St
open Go.RowKit Bk
set_option linter.unusedSimpArgs false
set_option linter.unusedVariables false

theorem wp_stC {o : Oper} {act : Act} {K : Act → World → Prop} {Q : Exit → Act → World → Prop} {w : World} (ty : TypeId) (x y : Operand) (ho : o.op = .store ty x y)
    (g : Nat) (old cells : Array Value) (hty : (Tryz.prog.info? ty).map (·.size) = some cells.size) (hx : act.eval x = .pointer (some ⟨g, 0, none⟩)) (hy : act.eval y = .agg cells) (hb : RowIs w g old) (hsz : old.size = cells.size) (h1 : cells.all (·.oneCell') = true)
    (h : ∀ w', RowIs w' g cells → w.grownBy w' (some g) → K (act.put o.dst undef) w') : o.wp Tryz.prog act w K Q := by
  obtain ⟨t, hg⟩ := hb
  exact wp_store_row ty x y ho g cells hx hy t old hg hty hsz h1 (h _ ⟨t, setRow_heap w g old _ t (0, 0) hg⟩ ⟨rfl, rfl, rfl, by simp, fun i hi hne => setRow_other w g i _ (fun e => hne (by rw [e]))⟩)

end Go.Proofs.YtlamhfbdeinkkaeGreat.St
namespace Go.Proofs.YtlamhfbdeinkkaeGreat.St
open Go.RowKit Bk
set_option linter.unusedSimpArgs false
set_option linter.unusedVariables false
set_option maxRecDepth 10000

end Go.Proofs.YtlamhfbdeinkkaeGreat.St
namespace Go.Proofs.YtlamhfbdeinkkaeGreat.St
open Go.RowKit Bk
set_option linter.unusedSimpArgs false
set_option linter.unusedVariables false
set_option maxRecDepth 10000

theorem cab_low {s : Vsl} {b : Bkg} (h : P.bkE s b = 0) : b.cabin = -1 ∨ 0 ≤ b.cabin := by
  obtain ⟨_, _, _, _, _, hk, hkd, _⟩ := bk_ok h
  rcases hkd with h1 | h2
  · have := kind_named hk h1
    simp [P.cabB, P.btw] at this
    omega
  · rcases (kind_prom hk h2).2.2.2.2 with e | ⟨e, _⟩
    · exact .inl e
    · simp [P.cabB, P.btw] at e
      omega
theorem soul_setC (j : Int) (l : List Bkg) (c : Int) : ∀ (k : Nat) (b : Bkg), l[k]? = some b → P.soul j (l.set k (P.setC b c)) = P.soul j l := by
  induction l with
  | nil => intro k b h; simp at h
  | cons y t ih =>
    intro k b h
    cases k with
    | zero =>
      simp at h
      subst h
      rfl
    | succ k =>
      rw [List.set_cons_succ, P.soul, P.soul, ih k b (by simpa using h)]
theorem many_setC {x : Sail} {k : Nat} {b : Bkg} {c : Int} (h : x.bks[k]? = some b) : P.many (P.setB x (x.bks.set k (P.setC b c))) = P.many x := by
  have e : P.soulsL x.s.legs.toNat (x.bks.set k (P.setC b c)) = P.soulsL x.s.legs.toNat x.bks := List.map_congr_left (fun j _ => soul_setC _ _ _ _ _ h)
  show decide (x.s.souls < P.mst 0 (P.soulsL x.s.legs.toNat (x.bks.set k (P.setC b c)))) = decide (x.s.souls < P.mst 0 (P.soulsL x.s.legs.toNat x.bks))
  rw [e]
theorem ids_setC (l : List Bkg) (c : Int) : ∀ (k : Nat) (b : Bkg), l[k]? = some b → (l.set k (P.setC b c)).map (fun b => b.id) = l.map (fun b => b.id) := by
  induction l with
  | nil => intro k b h; simp at h
  | cons y t ih =>
    intro k b h
    cases k with
    | zero =>
      simp at h
      subst h
      rfl
    | succ k =>
      rw [List.set_cons_succ, List.map_cons, List.map_cons, ih k b (by simpa using h)]
end Go.Proofs.YtlamhfbdeinkkaeGreat.St
namespace Go.Proofs.YtlamhfbdeinkkaeGreat.St
open Go.RowKit Bk
set_option linter.unusedSimpArgs false
set_option linter.unusedVariables false

def P.onDay (x : Sail) (d : Int) : Sail := ⟨x.s, x.L, x.al, x.th, x.B, x.dn, d, x.lvs, x.bks, x.cl⟩
def P.late (d : Int) (b : Bkg) : Bool := decide (b.state = 1) && decide (b.til < d)
def P.dropB (x : Sail) (b : Bkg) : Bkg := if P.cnE x b = 0 then P.cnB x b else P.goneB b b.fol
def P.turnB (x : Sail) (b : Bkg) : Bkg := if P.late x.day b = true then P.dropB x b else b
/-- A sailing, on its day, where all options that are late are gone. -/
def P.turnS (x : Sail) : Sail := P.setB x (x.bks.map (P.turnB x))
def P.lateI (d : Int) (l : List Bkg) : List Int := (l.filter (P.late d)).map fun b => b.id

theorem onDay_right {x : Sail} {d : Int} (hE : P.SailE x 0) (hd : 0 ≤ d ∧ d ≤ 9999) : P.SailE (P.onDay x d) 0 := by
  obtain ⟨hp, hf, h0, hbk, h16, ht, hm, c, hc, hcn⟩ := sail_ok hE
  obtain ⟨_, hI, hcl⟩ := pre_zero hp
  obtain ⟨g1, g2, g3, g4, g5⟩ := frame_zero hf
  have hf' : P.frame (P.onDay x d) = 0 := frame_ok g1 g2 (by rw [Bool.and_eq_true]; exact ⟨by show P.btw d 0 9999 = true; simp [P.btw]; omega, g4⟩) (by show ¬ 16 < x.bks.length; omega)
  have hp' : P.pre (P.onDay x d) = 0 := pre_ok hf' hI hcl
  exact .inr ⟨hp', 0, .inr (.inr ⟨ht, hm, c, hc, by rw [if_neg (by show ¬ c < (P.pids x.bks).length; omega)]⟩), rfl⟩
theorem cnE_can {x : Sail} {b : Bkg} (h : P.cnE x b = 0) : Fo.P.folE (Fo.P.can b.fol x.day (P.canP x b)) = 0 := by
  have h1 : Fo.P.canE b.fol x.day (P.canP x b) = 0 := by
    rw [P.cnE] at h
    split at h
    · exact h
    · next h1 => exact absurd h h1
  obtain ⟨_, _, _, h2, h3⟩ := Fo.can_some h1
  rw [h3]
  exact h2
theorem drop_gone {x : Sail} {b : Bkg} (hb : P.bkE x.s b = 0) : ∃ l, P.dropB x b = P.goneB b l ∧ Fo.P.folE l = 0 := by
  rw [P.dropB]
  split
  · next h => exact ⟨_, rfl, cnE_can h⟩
  · exact ⟨b.fol, rfl, (bk_ok hb).2.2.2.2.2.2.2.2⟩
theorem map_step {f : Bkg → Bkg} {l : List Bkg} {k : Nat} {b : Bkg} (hk : l[k]? = some b) : (l.take (k + 1)).map f ++ l.drop (k + 1) = ((l.take k).map f ++ l.drop k).set k (f b) := by
  obtain ⟨hkl, e⟩ := List.getElem?_eq_some_iff.1 hk
  rw [List.take_succ_eq_append_getElem hkl, e, List.drop_eq_getElem_cons hkl, e, List.map_append, List.set_append_right _ _ (by simp; omega)]
  simp [Nat.min_eq_left (Nat.le_of_lt hkl)]
theorem map_at {f : Bkg → Bkg} {l : List Bkg} {k : Nat} {b : Bkg} (hk : l[k]? = some b) : ((l.take k).map f ++ l.drop k)[k]? = some b := by
  obtain ⟨hkl, e⟩ := List.getElem?_eq_some_iff.1 hk
  rw [List.getElem?_append_right (by simp; omega)]
  simp [Nat.min_eq_left (Nat.le_of_lt hkl), hk]
theorem turned_right {x : Sail} (hE : P.SailE x 0) : ∀ k, k ≤ x.bks.length → P.SailE (P.setB x ((x.bks.take k).map (P.turnB x) ++ x.bks.drop k)) 0 := by
  obtain ⟨_, _, _, hbk, _⟩ := sail_ok hE
  intro k
  induction k with
  | zero => intro _; exact hE
  | succ k ih =>
    intro hk
    have h := ih (by omega)
    have hb : x.bks[k]? = some (x.bks[k]'(by omega)) := List.getElem?_eq_getElem (by omega)
    generalize x.bks[k]'(by omega) = b at hb
    rw [map_step hb, P.turnB]
    split
    · obtain ⟨l, e1, e2⟩ := drop_gone (x := x) (hbk b (List.mem_of_getElem? hb))
      rw [e1]
      exact gone_right h (map_at hb) e2
    · have e : ((x.bks.take k).map (P.turnB x) ++ x.bks.drop k).set k b = (x.bks.take k).map (P.turnB x) ++ x.bks.drop k := by
        obtain ⟨h1, h2⟩ := List.getElem?_eq_some_iff.1 (map_at (f := P.turnB x) hb)
        conv => lhs; rw [← h2]
        exact List.set_getElem_self h1
      rw [e]
      exact h
theorem turn_right {x : Sail} (hE : P.SailE x 0) : P.SailE (P.turnS x) 0 := by
  have := turned_right hE x.bks.length (Nat.le_refl _)
  rw [List.take_length, List.drop_length, List.append_nil] at this
  exact this
theorem lateI_snoc (d : Int) (l : List Bkg) (b : Bkg) : P.lateI d (l ++ [b]) = P.lateI d l ++ (if P.late d b = true then [b.id] else []) := by
  rw [P.lateI, P.lateI, List.filter_append, List.map_append]
  congr 1
  cases h : P.late d b <;> simp [List.filter_cons, h]
theorem late_opt {d : Int} {b : Bkg} (h : P.late d b = true) : b.state = 1 ∧ b.til < d := by
  simpa [P.late] using h

end Go.Proofs.YtlamhfbdeinkkaeGreat.St
namespace Go.Proofs.YtlamhfbdeinkkaeGreat.St
open Go.RowKit Bk
set_option linter.unusedSimpArgs false
set_option linter.unusedVariables false
set_option maxRecDepth 10000

set_option maxHeartbeats 2000000 in
theorem cancel_any (x : Sail) (a : SailA) (id : Int) (w : World) (hs : SailAt w x a) :
    Calls Tryz.prog 20 #[V.sail x a, .int .i64 id] w fun e w' => ∃ r y a', e = .returned (.tuple #[V.sail y a', .int .i64 r]) ∧ P.Chg x id (P.cnT x) r y ∧ SailUp w.heap.size w' y a' ∧ Below w.heap.size w w' := by
  have hb1 : Below w.heap.size w (w.alloc (.cells (C.sail x a) 32)) := al _ _
  have hb3 : Below w.heap.size w ((w.alloc (.cells (C.sail x a) 32)).alloc O.zs) := bvia hb1 (al _ _)
  have hb0 : Below w.heap.size w (((w.alloc (.cells (C.sail x a) 32)).alloc O.zs).alloc (.cells (C.sail x a) 96)) := bvia hb3 (al _ _)
  have hq2 : SRow (((w.alloc (.cells (C.sail x a) 32)).alloc O.zs).alloc (.cells (C.sail x a) 96)) (w.heap.size + 1 + 1) x a := by
    have := RowIs.new ((w.alloc (.cells (C.sail x a) 32)).alloc O.zs) (C.sail x a) 96
    simp only [World.size_alloc] at this
    exact this
  have HC : Aside (Calls Tryz.prog 63 #[V.sail x a, .int .i64 id, .func (.func 67) #[] #[.pointer (some ⟨w.heap.size + 1 + 1, 0, none⟩)]] (((w.alloc (.cells (C.sail x a) 32)).alloc O.zs).alloc (.cells (C.sail x a) 96)) _) :=
    change_any x a id 67 #[.pointer (some ⟨w.heap.size + 1 + 1, 0, none⟩)] (P.cnT x) _ (hs.below hb0) cancel1_calls' (fun hE k b wx hbx _ hk => cancel1_lit wx b (w.heap.size + 1 + 1) x a (hq2.below hbx) ((hs.below hb0).below hbx) hE (List.mem_of_getElem? hk))
  have HZ0 : Aside (RowIs (((w.alloc (.cells (C.sail x a) 32)).alloc O.zs).alloc (.cells (C.sail x a) 96)) (w.heap.size + 1) C.zs) := by
    have := RowIs.new (w.alloc (.cells (C.sail x a) 32)) C.zs 32
    simp only [World.size_alloc] at this
    exact this.below (al _ _)
  have HB0 : Aside (Below w.heap.size w (((w.alloc (.cells (C.sail x a) 32)).alloc O.zs).alloc (.cells (C.sail x a) 96))) := hb0
  clear hs hb0 hb1 hb3 hq2
  go_enter Tryz.func20, Tryz.ntmps20
  go_wp2_with fail
  refine HC.out.mono ?_
  rintro e w1 ⟨r, y, a1, rfl, h1, h2, h3⟩
  have H1 : Aside (P.Chg x id (P.cnT x) r y) := h1
  have H2 : Aside (SailUp (((w.alloc (.cells (C.sail x a) 32)).alloc O.zs).alloc (.cells (C.sail x a) 96)).heap.size w1 y a1) := h2
  have H3 : Aside (Below w.heap.size w w1) := bvia HB0.out h3
  have HZ1 : Aside (RowIs w1 (w.heap.size + 1) C.zs) := HZ0.out.below h3
  have hlt : w.heap.size + 1 < (((w.alloc (.cells (C.sail x a) 32)).alloc O.zs).alloc (.cells (C.sail x a) 96)).heap.size := HZ0.out.lt
  clear h1 h2 h3 HC HZ0
  go_wp2_with ((with_reducible refine wpList_stO (w.heap.size + 1) C.zs (C.sail y a1) ?_ ?_ ?_ HZ1.out ?_ ?_ ?_); exact Tryz.sizeSail; rfl; rfl; rfl; exact sail_one _ _; intro w9 hr9 hg9)
  exact bodyPost_ret (res2 rfl hr9 _ rfl rfl Tryz.underlying32 rfl Tryz.sizeSail) rfl ⟨r, y, a1, rfl, H1.out, SailUp.mono (SailUp.up H2.out (Up.gr hg9 hlt)) (by omega), below_gr H3.out H3.out.size hg9 (by omega)⟩

theorem cn_ch {x : Sail} {id r : Int} {y : Sail} (h : P.Chg x id (P.cnT x) r y) : (∃ q, P.SailE x q ∧ ¬ q = 0 ∧ r = q ∧ y = P.zeroS) ∨ (P.SailE x 0 ∧ P.Ch x id (P.cnT x) r y) :=
  chg_ch (fun hE k b b' _ hk hT => cn_right hE hk hT) h

end Go.Proofs.YtlamhfbdeinkkaeGreat.St
namespace Go.Proofs.YtlamhfbdeinkkaeGreat.St
open Go.RowKit Bk
set_option linter.unusedSimpArgs false
set_option linter.unusedVariables false
set_option maxRecDepth 10000

set_option maxHeartbeats 1000000 in
theorem at1_any (id : Int) (G : Nat) (b : Bkg) (fo : Option Addr) (fc : Nat) (w : World) (hG : w.cell? ⟨G, 0, none⟩ = some (.int .i64 id)) :
    Calls Tryz.prog 191 (#[V.bk b fo fc] ++ #[.pointer (some ⟨G, 0, none⟩)]) w fun e w' => e = .returned (.bool (decide (b.id = id))) ∧ Below w.heap.size w w' := by
  show Calls Tryz.prog 191 #[V.bk b fo fc, .pointer (some ⟨G, 0, none⟩)] w _
  have hGl : G < w.heap.size := World.block_lt_of_cell? w _ hG
  obtain ⟨z0, z1, z2, z3, z4, z5, z6, z7, z8, z9, z10⟩ := BBox.new w b fo fc
  go_enter Tryz.func191, Tryz.ntmps191
  go_wp2
  go_ret
  exact ⟨ret_bool (by by_cases h : b.id = id <;> simp [h]), by go_grown⟩
theorem at1_calls : ∀ (args : Array Value) (wx : World), (callFunc 191 args).run Tryz.prog wx = .ok (.enter 191 args) wx := enters_of Tryz.func191 (by kernel_rfl) rfl
/-- The place of the booking of a number. -/
def P.PlaceIs (l : List Bkg) (id n : Int) : Prop := (∃ (k : Nat) (b : Bkg), n = k ∧ l[k]? = some b ∧ b.id = id) ∨ (n = -1 ∧ ∀ b ∈ l, b.id ≠ id)
theorem PlaceIs.at {l : List Bkg} {id n : Int} {k : Nat} {b : Bkg} (hr : l.Pairwise (fun a b => a.id < b.id)) (h : P.PlaceIs l id n) (hk : l[k]? = some b) (hid : b.id = id) : n = k := by
  rcases h with ⟨k', b', rfl, h1, h2⟩ | ⟨_, h⟩
  · obtain ⟨a1, a2⟩ := List.getElem?_eq_some_iff.1 hk
    obtain ⟨c1, c2⟩ := List.getElem?_eq_some_iff.1 h1
    have hp := List.pairwise_iff_getElem.1 hr
    rcases Nat.lt_trichotomy k k' with hlt | e | hlt
    · have := hp k k' a1 c1 hlt
      rw [a2, c2] at this
      omega
    · omega
    · have := hp k' k c1 a1 hlt
      rw [a2, c2] at this
      omega
  · exact absurd hid (h b (List.mem_of_getElem? hk))
set_option maxHeartbeats 1000000 in
theorem at_any (ao : Option Addr) (cap : Nat) (l : List Bkg) (id : Int) (w : World) (hl : BksAt w ao cap l) :
    Calls Tryz.prog 142 #[.slice ao l.length cap, .int .i64 id] w fun e w' => ∃ n : Int, e = .returned (.int .i64 n) ∧ P.PlaceIs l id n ∧ Below w.heap.size w w' := by
  have hb := al w (.cells #[.int .i64 id] 3)
  have hq : RowIs (w.alloc (.cells #[.int .i64 id] 3)) w.heap.size #[.int .i64 id] := RowIs.new w _ _
  have HIX : Aside (Calls Tryz.prog 115 #[.slice ao l.length cap, .func (.func 191) #[] #[.pointer (some ⟨w.heap.size, 0, none⟩)]] (w.alloc (.cells #[.int .i64 id] 3)) _) :=
    bkIdx_any ao cap l 191 #[.pointer (some ⟨w.heap.size, 0, none⟩)] (fun b => decide (b.id = id)) _ (SlAt.below RBk.mono hl hb) at1_calls (fun y yo yc wx hw => at1_any id w.heap.size y yo yc wx ((hq.below hw).cell 0))
  have HB : Aside (Below w.heap.size w (w.alloc (.cells #[.int .i64 id] 3))) := hb
  clear hl hb hq
  go_enter Tryz.func142, Tryz.ntmps142
  go_wp2_with fail
  refine HIX.out.mono ?_
  rintro e w2 ⟨n, rfl, hn, hb2⟩
  have HN : Aside (P.PlaceIs l id n) := by
    rcases hn with ⟨k, b, h1, h2, h3⟩ | ⟨h1, h2⟩
    · exact .inl ⟨k, b, h1, h2, by simpa using h3⟩
    · exact .inr ⟨h1, fun b hb => by simpa using h2 b hb⟩
  have HB2 : Aside (Below w.heap.size w w2) := bvia HB.out hb2
  clear hn hb2 HIX
  go_wp2
  go_ret
  exact ⟨n, rfl, HN.out, HB2.out⟩

/-- The bookings of a sailing that lies in blocks from N on lie there. -/
theorem SailUp.bao {N : Nat} {w : World} {y : Sail} {a : SailA} (h : SailUp N w y a) (h0 : 0 < y.bks.length) : ∃ b o, a.ao = some ⟨b, o, none⟩ ∧ N ≤ b ∧ b < w.heap.size := by
  obtain ⟨b, off, x, fo, fc, hao, hbw, _, ⟨c0, _⟩, _⟩ := BksAt.get h.at.bks (Below.refl _ _) 0 h0
  refine ⟨b, off, hao, ?_, hbw⟩
  apply Classical.byContradiction
  intro hlt
  have hU : Up N w { w with heap := w.heap.setIfInBounds b (.map #[] 0) } := ⟨by simp, fun i hi _ => by
    show (w.heap.setIfInBounds b _)[i]? = _
    rw [Array.getElem?_setIfInBounds_ne (by omega)]⟩
  obtain ⟨b2, off2, x2, fo2, fc2, hao2, hbw2, _, ⟨e0, _⟩, _⟩ := BksAt.get (h _ hU).bks (Below.refl _ _) 0 h0
  rw [hao] at hao2
  simp only [Option.some.injEq, Addr.mk.injEq, and_true] at hao2
  obtain ⟨rfl, rfl⟩ := hao2
  have hb : (w.heap.setIfInBounds b (.map #[] 0))[b]? = some (.map #[] 0) := by
    rw [Array.getElem?_setIfInBounds_self, if_pos hbw]
  simp only [World.cell?, hb] at e0
  cases e0
/-- What was read of such a sailing lies there in whatever comes. -/
theorem SailUp.ents {N : Nat} {w : World} {y : Sail} {a : SailA} {k b o : Nat} {x : Bkg} {fo : Option Addr} {fc : Nat} (h : SailUp N w y a) (hk : y.bks[k]? = some x) (hao : a.ao = some ⟨b, o, none⟩) (hc : w.cell? ⟨b, o + k * 11 + 10, none⟩ = some (.slice fo x.fol.length fc)) :
    ∀ U, Up N w U → Fo.EntsAt U fo fc x.fol := by
  intro U hU
  have hkl := (List.getElem?_eq_some_iff.1 hk).1
  obtain ⟨b1, o1, h1, h2, h3⟩ := h.bao (by omega)
  rw [hao] at h1
  simp only [Option.some.injEq, Addr.mk.injEq, and_true] at h1
  obtain ⟨rfl, rfl⟩ := h1
  obtain ⟨b2, o2, x2, fo2, fc2, hao2, hbw2, hd, ⟨_, _, _, _, _, _, _, _, _, _, e10⟩, he⟩ := BksAt.get (h U hU).bks (Below.refl _ _) k hkl
  rw [hao] at hao2
  simp only [Option.some.injEq, Addr.mk.injEq, and_true] at hao2
  obtain ⟨rfl, rfl⟩ := hao2
  have hx : x = x2 := by
    have h0 := congrArg (fun l => l[0]?) hd
    simp only [List.getElem?_drop, Nat.add_zero, List.getElem?_cons_zero] at h0
    rw [hk] at h0
    exact Option.some.inj h0
  subst hx
  have e : U.cell? ⟨b, o + k * 11 + 10, none⟩ = w.cell? ⟨b, o + k * 11 + 10, none⟩ := World.cell?_of_block (hU.2 b h2 h3)
  rw [e, hc] at e10
  simp only [Option.some.injEq, Value.slice.injEq] at e10
  obtain ⟨rfl, _, rfl⟩ := e10
  exact he

theorem ents_lt {w : World} {fo : Option Addr} {fc b o : Nat} {l : List Fo.Ent} (h : Fo.EntsAt w fo fc l) (hl : 0 < l.length) (hf : fo = some ⟨b, o, none⟩) : b < w.heap.size := by
  obtain ⟨b2, o2, h1, h2, _⟩ := h.cells hl
  rw [hf] at h1
  simp only [Option.some.injEq, Addr.mk.injEq, and_true] at h1
  omega
/-- Entries that lie there as long as blocks from N on do lie in such a block. -/
theorem ents_low {N : Nat} {w : World} {fo : Option Addr} {fc b o : Nat} {l : List Fo.Ent} (h : ∀ U, Up N w U → Fo.EntsAt U fo fc l) (hl : 0 < l.length) (hf : fo = some ⟨b, o, none⟩) : N ≤ b := by
  apply Classical.byContradiction
  intro hlt
  have hbw := ents_lt (h w ⟨Nat.le_refl _, fun _ _ _ => rfl⟩) hl hf
  have hU : Up N w { w with heap := w.heap.setIfInBounds b (.map #[] 0) } := ⟨by simp, fun i hi _ => by
    show (w.heap.setIfInBounds b _)[i]? = _
    rw [Array.getElem?_setIfInBounds_ne (by omega)]⟩
  obtain ⟨b2, off2, x, y, z, h1, _, _, e0, _, _⟩ := Fo.EntsAt.get (h _ hU) (Below.refl _ _) 0 hl
  rw [hf] at h1
  simp only [Option.some.injEq, Addr.mk.injEq, and_true] at h1
  obtain ⟨rfl, rfl⟩ := h1
  have hb : (w.heap.setIfInBounds b (.map #[] 0))[b]? = some (.map #[] 0) := by
    rw [Array.getElem?_setIfInBounds_self, if_pos hbw]
  simp only [World.cell?, hb] at e0
  cases e0
/-- Entries lie where their block does. -/
theorem ents_on {w U : World} {fo : Option Addr} {fc : Nat} {l : List Fo.Ent} (h : Fo.EntsAt w fo fc l) (hB : ∀ b o, fo = some ⟨b, o, none⟩ → 0 < l.length → b < U.heap.size ∧ U.heap[b]? = w.heap[b]?) : Fo.EntsAt U fo fc l := by
  refine ⟨h.le, h.max, h.nil, fun hl => ?_⟩
  obtain ⟨b, o, h1, h2, h3⟩ := h.cells hl
  obtain ⟨g1, g2⟩ := hB b o h1 hl
  refine ⟨b, o, h1, g1, fun i hi => ?_⟩
  obtain ⟨cs, c1, c2, c3⟩ := h3 i hi
  exact ⟨cs, c1, c2, fun j u hu => by rw [World.cell?_of_block (a := ⟨b, o + i * 3 + j, none⟩) g2]; exact c3 j u hu⟩

end Go.Proofs.YtlamhfbdeinkkaeGreat.St
