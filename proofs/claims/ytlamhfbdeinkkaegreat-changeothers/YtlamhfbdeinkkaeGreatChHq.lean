/- What of bookings the room looks at. -/
import Derived.Test.YtlamhfbdeinkkaeGreatChAq
import Derived.Test.YtlamhfbdeinkkaeGreatChGq
import Derived.Test.YtlamhfbdeinkkaeGreatChLq
namespace Go.Proofs.YtlamhfbdeinkkaeGreat.St
open Go.RowKit Bk
set_option linter.unusedSimpArgs false
set_option linter.unusedVariables false
set_option maxRecDepth 10000

/-- A booking with its folio and its day struck out, and no more told of its state than whether it is gone. -/
def P.core (b : Bkg) : Bkg := ⟨b.id, b.kind, if b.state = 3 then 3 else 1, b.guests, b.level, b.cabin, b.cat, b.frm, b.to, 0, []⟩
theorem core_gone (b : Bkg) : (P.core b).state = 3 ↔ b.state = 3 := by
  show (if b.state = 3 then (3 : Int) else 1) = 3 ↔ _
  split <;> simp_all
theorem live_core (b : Bkg) : P.live (P.core b) = P.live b := by
  rw [P.live, P.live, Bool.eq_iff_iff, decide_eq_true_iff, decide_eq_true_iff]
  exact not_congr (core_gone b)
theorem opn_core (b : Bkg) : P.opn (P.core b) = P.opn b := by
  rw [P.opn, P.opn]
  have h : decide ((P.core b).state ≠ 3) = decide (b.state ≠ 3) := by
    rw [Bool.eq_iff_iff, decide_eq_true_iff, decide_eq_true_iff]
    exact not_congr (core_gone b)
  rw [h]
  rfl
theorem hasC_core (c : Int) (b : Bkg) : P.hasC c (P.core b) = P.hasC c b := by
  rw [P.hasC, P.hasC, live_core]
  rfl
theorem mine_core (c : Int) (l : List Bkg) : P.mine c (l.map P.core) = P.mine c l := by
  induction l with
  | nil => rfl
  | cons y t ih =>
    simp only [P.mine, List.map_cons, List.filter_cons] at ih ⊢
    rw [hasC_core]
    split
    · rw [List.map_cons, List.map_cons, ih]
      rfl
    · exact ih
theorem onLeg_core (k : Int) (b : Bkg) : P.onLeg k (P.core b) = P.onLeg k b := by
  rw [P.onLeg, P.onLeg, live_core]
  rfl
theorem soul_core (k : Int) (l : List Bkg) : P.soul k (l.map P.core) = P.soul k l := by
  induction l with
  | nil => rfl
  | cons y t ih => rw [List.map_cons, P.soul, P.soul, ih, onLeg_core]
theorem opns_core (l : List Bkg) : (l.map P.core).filter P.opn = (l.filter P.opn).map P.core := by
  rw [List.filter_map]
  congr 1
  exact List.filter_congr (fun b _ => opn_core b)
theorem pids_core (l : List Bkg) : P.pids (l.map P.core) = P.pids l := by
  rw [P.pids, P.pids, opns_core, List.map_map]
  rfl
theorem elC_core (s : Vsl) (l : List Bkg) (b : Bkg) (c : Nat) : P.elC s (l.map P.core) (P.core b) c = P.elC s l b c := by
  rw [P.elC, P.elC, mine_core]
  rfl
theorem edgs_core (s : Vsl) (l : List Bkg) (i : Nat) (b : Bkg) (n : Nat) : P.edgs s (l.map P.core) i (P.core b) n = P.edgs s l i b n := by
  have e : P.elC s (l.map P.core) (P.core b) = P.elC s l b := funext (fun c => elC_core s l b c)
  rw [P.edgs, P.edgs, e]
theorem pedg_core (s : Vsl) (l m : List Bkg) (i : Nat) : P.pedg s (l.map P.core) i (m.map P.core) = P.pedg s l i m := by
  induction m generalizing i with
  | nil => rfl
  | cons y t ih =>
    rw [List.map_cons, P.pedg, P.pedg, opn_core, edgs_core, ih, ih]
theorem set_core {l : List Bkg} {k : Nat} {b b' : Bkg} (hk : l[k]? = some b) (h : P.core b' = P.core b) : (l.set k b').map P.core = l.map P.core := by
  rw [List.map_set, h]
  obtain ⟨hkl, e⟩ := List.getElem?_eq_some_iff.1 hk
  refine List.ext_getElem? (fun i => ?_)
  rw [List.getElem?_set]
  by_cases hi : k = i
  · subst hi
    rw [if_pos rfl, if_pos (by simpa using hkl), List.getElem?_map, hk]
    rfl
  · rw [if_neg hi]
theorem room_core {x : Sail} {l l' : List Bkg} {r : Int} (h : l.map P.core = l'.map P.core) : P.Room (P.setB x l) r ↔ P.Room (P.setB x l') r := by
  have hm : ∀ c : Int, P.mine c l = P.mine c l' := fun c => by rw [← mine_core, h, mine_core]
  have ht : P.twice (P.setB x l) = P.twice (P.setB x l') := by
    show ((List.range x.s.bs.length).any fun c => !P.addsB x.s.legs (P.mine (c : Nat) l)) = ((List.range x.s.bs.length).any fun c => !P.addsB x.s.legs (P.mine (c : Nat) l'))
    simp only [hm]
  have hs : P.many (P.setB x l) = P.many (P.setB x l') := by
    have e : P.soulsL x.s.legs.toNat l = P.soulsL x.s.legs.toNat l' := List.map_congr_left (fun j _ => by rw [← soul_core, h, soul_core])
    show decide (x.s.souls < P.mst 0 (P.soulsL x.s.legs.toNat l)) = decide (x.s.souls < P.mst 0 (P.soulsL x.s.legs.toNat l'))
    rw [e]
  have he : P.pedg x.s l 0 l = P.pedg x.s l' 0 l' := by rw [← pedg_core, h, pedg_core]
  have hp : (P.pids l).length = (P.pids l').length := by rw [← pids_core, h, pids_core]
  rw [P.Room, P.Room, ht, hs]
  show _ ∨ _ ∨ (_ ∧ _ ∧ ∃ c, Ma.MaxM (P.pedg x.s l 0 l) c ∧ r = if c < (P.pids l).length then 9 else 0) ↔ _ ∨ _ ∨ (_ ∧ _ ∧ ∃ c, Ma.MaxM (P.pedg x.s l' 0 l') c ∧ r = if c < (P.pids l').length then 9 else 0)
  rw [he, hp]
theorem ids_core (l : List Bkg) : (l.map P.core).map (fun b => b.id) = l.map (fun b => b.id) := by rw [List.map_map]; rfl
theorem rise_core {l l' : List Bkg} (h : l.map P.core = l'.map P.core) (hr : l'.Pairwise (fun a b => a.id < b.id)) : l.Pairwise (fun a b => a.id < b.id) := by
  have e : l.map (fun b => b.id) = l'.map (fun b => b.id) := by rw [← ids_core, h, ids_core]
  have h1 : (l'.map (fun b => b.id)).Pairwise (· < ·) := List.pairwise_map.2 hr
  rw [← e] at h1
  exact List.pairwise_map.1 h1
theorem clB_core (x : Sail) (b : Bkg) : P.clB x (P.core b) = P.clB x b := by
  rw [P.clB, P.clB, live_core]
  rfl
/-- A booking that takes the same room, and is right by itself. -/
theorem keep_right {x : Sail} {k : Nat} {b b' : Bkg} (hE : P.SailE x 0) (hk : x.bks[k]? = some b) (h : P.core b' = P.core b) (hb : P.bkE x.s b' = 0) : P.SailE (P.setB x (x.bks.set k b')) 0 := by
  obtain ⟨hp, hf, h0, hbk, h16, ht, hm, c, hc, hcn⟩ := sail_ok hE
  obtain ⟨_, hI, hcl⟩ := pre_zero hp
  obtain ⟨hr1, hr2⟩ := bksI_rise hI
  have hcore := set_core hk h
  have hall : ∀ z ∈ x.bks.set k b', P.bkE x.s z = 0 := fun z hz => by
    rcases List.mem_or_eq_of_mem_set hz with h | rfl
    · exact hbk z h
    · exact hb
  have hf' : P.frame (P.setB x (x.bks.set k b')) = 0 := by
    obtain ⟨g1, g2, g3, g4, g5⟩ := frame_zero hf
    refine frame_ok g1 g2 (by rw [Bool.and_eq_true]; exact ⟨g3, g4⟩) ?_
    show ¬ 16 < (x.bks.set k b').length
    rw [List.length_set]
    omega
  have hI' : P.bksI x.s 0 (x.bks.set k b') = 0 := bksI_of hall (fun z hz => by
    have := (bk_ok (hall z hz)).2.2.2.1
    omega) (rise_core hcore hr2)
  have hp' : P.pre (P.setB x (x.bks.set k b')) = 0 := by
    refine pre_ok hf' hI' ?_
    have e : ∀ l : List Bkg, l.any (P.clB x) = (l.map P.core).any (P.clB x) := fun l => by
      rw [List.any_map]
      congr 1
      funext z
      exact (clB_core x z).symm
    show (x.bks.set k b').any (P.clB x) = false
    rw [e, hcore, ← e]
    exact hcl
  exact .inr ⟨hp', 0, (room_core (x := x) (l := x.bks.set k b') (l' := x.bks) hcore).2 (.inr (.inr ⟨ht, hm, c, hc, by rw [if_neg (by show ¬ c < (P.pids x.bks).length; omega)]⟩)), rfl⟩

end Go.Proofs.YtlamhfbdeinkkaeGreat.St
namespace Go.Proofs.YtlamhfbdeinkkaeGreat.St
open Go.RowKit Bk
set_option linter.unusedSimpArgs false
set_option linter.unusedVariables false
set_option maxRecDepth 10000

theorem sure_core {b : Bkg} (h : b.state = 1) : P.core (P.sureB b) = P.core b := by
  have h3 : ¬ b.state = 3 := by rw [h]; decide
  show Bkg.mk _ _ (if (2 : Int) = 3 then 3 else 1) _ _ _ _ _ _ _ _ = Bkg.mk _ _ (if b.state = 3 then 3 else 1) _ _ _ _ _ _ _ _
  rw [if_neg h3]
  rfl
theorem sure_bkE {s : Vsl} {b : Bkg} (hb : P.bkE s b = 0) (h : b.state = 1) : P.bkE s (P.sureB b) = 0 := by
  have hk : P.kindE s (P.sureB b) = P.kindE s b := rfl
  unfold P.bkE at hb ⊢
  rw [hk]
  show (if (P.btw b.kind 1 2 && P.btw 2 1 3) = true then (if (P.btw b.id 1 999999 && P.btw b.guests 1 4) = true then (if P.chk b.frm b.to s.legs = 0 then (if P.kindE s b = 0 then (if P.btw 0 0 9999 = true then (if (0 : Int) ≠ 0 ∧ (2 : Int) ≠ 1 then 1 else Fo.P.folE b.fol) else 3) else P.kindE s b) else P.chk b.frm b.to s.legs) else 3) else 7) = 0
  have e1 : P.btw 2 1 3 = true := by decide
  have e2 : P.btw 0 0 9999 = true := by decide
  have e3 : ¬ ((0 : Int) ≠ 0 ∧ (2 : Int) ≠ 1) := by simp
  split at hb
  · next h1 =>
    rw [if_pos (by rw [Bool.and_eq_true] at h1 ⊢; exact ⟨h1.1, e1⟩)]
    split at hb
    · next h2 =>
      rw [if_pos h2]
      split at hb
      · next h3 =>
        rw [if_pos h3]
        split at hb
        · next h4 =>
          rw [if_pos h4, if_pos e2, if_neg e3]
          split at hb
          · split at hb
            · exact absurd hb (by decide)
            · exact hb
          · exact absurd hb (by decide)
        · next h4 => exact absurd hb h4
      · next h3 => exact absurd hb h3
    · exact absurd hb (by decide)
  · exact absurd hb (by decide)
/-- Behind it the sailing is right. -/
theorem sure_right {x : Sail} {k : Nat} {b b' : Bkg} (hE : P.SailE x 0) (hk : x.bks[k]? = some b) (h : P.sureT b 0 b') : P.SailE (P.setB x (x.bks.set k b')) 0 := by
  have h1 : b.state = 1 := by
    by_cases h1 : b.state = 1
    · exact h1
    · exact absurd h.1 (by rw [if_neg h1]; decide)
  have hb : P.bkE x.s b = 0 := by
    obtain ⟨hp, hf, h0, hbk, h16, ht, hm, c, hc, hcn⟩ := sail_ok hE
    exact hbk b (List.mem_of_getElem? hk)
  rw [h.2 rfl]
  exact keep_right hE hk (sure_core h1) (sure_bkE hb h1)
set_option maxHeartbeats 2000000 in
theorem sure_any (x : Sail) (a : SailA) (id : Int) (w : World) (hs : SailAt w x a) :
    Calls Tryz.prog 18 #[V.sail x a, .int .i64 id] w fun e w' => ∃ r y a', e = .returned (.tuple #[V.sail y a', .int .i64 r]) ∧ P.Chg x id P.sureT r y ∧ SailUp w.heap.size w' y a' ∧ Below w.heap.size w w' := by
  have hb0 : Below w.heap.size w ((w.alloc (.cells (C.sail x a) 32)).alloc O.zs) := bvia (al _ _) (al _ _)
  have HC : Aside (Calls Tryz.prog 63 #[V.sail x a, .int .i64 id, .func (.func 64) #[] #[]] ((w.alloc (.cells (C.sail x a) 32)).alloc O.zs) _) :=
    change_any x a id 64 #[] P.sureT _ (hs.below hb0) sure1_calls (fun _ k b wx _ _ _ => sure1_lit wx b)
  have HZ0 : Aside (RowIs ((w.alloc (.cells (C.sail x a) 32)).alloc O.zs) (w.heap.size + 1) C.zs) := by
    have := RowIs.new (w.alloc (.cells (C.sail x a) 32)) C.zs 32
    rwa [World.size_alloc] at this
  have HB0 : Aside (Below w.heap.size w ((w.alloc (.cells (C.sail x a) 32)).alloc O.zs)) := hb0
  clear hs hb0
  go_enter Tryz.func18, Tryz.ntmps18
  go_wp2_with fail
  refine HC.out.mono ?_
  rintro e w1 ⟨r, y, a1, rfl, h1, h2, h3⟩
  have H1 : Aside (P.Chg x id P.sureT r y) := h1
  have H2 : Aside (SailUp ((w.alloc (.cells (C.sail x a) 32)).alloc O.zs).heap.size w1 y a1) := h2
  have H3 : Aside (Below w.heap.size w w1) := bvia HB0.out h3
  have HZ1 : Aside (RowIs w1 (w.heap.size + 1) C.zs) := HZ0.out.below h3
  have hlt : w.heap.size + 1 < ((w.alloc (.cells (C.sail x a) 32)).alloc O.zs).heap.size := HZ0.out.lt
  clear h1 h2 h3 HC HZ0
  go_wp2_with ((with_reducible refine wpList_stO (w.heap.size + 1) C.zs (C.sail y a1) ?_ ?_ ?_ HZ1.out ?_ ?_ ?_); exact Tryz.sizeSail; rfl; rfl; rfl; exact sail_one _ _; intro w9 hr9 hg9)
  exact bodyPost_ret (res2 rfl hr9 _ rfl rfl Tryz.underlying32 rfl Tryz.sizeSail) rfl ⟨r, y, a1, rfl, H1.out, SailUp.mono (SailUp.up H2.out (Up.gr hg9 hlt)) (by omega), below_gr H3.out H3.out.size hg9 (by omega)⟩

end Go.Proofs.YtlamhfbdeinkkaeGreat.St
namespace Go.Proofs.YtlamhfbdeinkkaeGreat.St
open Go.RowKit Bk
set_option linter.unusedSimpArgs false
set_option linter.unusedVariables false
set_option maxRecDepth 10000

set_option maxHeartbeats 2000000 in
theorem move_any (x : Sail) (a : SailA) (id c : Int) (w : World) (hs : SailAt w x a) :
    Calls Tryz.prog 21 #[V.sail x a, .int .i64 id, .int .i64 c] w fun e w' => ∃ r y a', e = .returned (.tuple #[V.sail y a', .int .i64 r]) ∧ P.Chg x id (P.mvT x c) r y ∧ SailUp w.heap.size w' y a' ∧ Below w.heap.size w w' := by
  have hb1 : Below w.heap.size w (w.alloc (.cells (C.sail x a) 32)) := al _ _
  have hb2 : Below w.heap.size w ((w.alloc (.cells (C.sail x a) 32)).alloc (.cells #[.int .i64 c] 3)) := bvia hb1 (al _ _)
  have hb3 : Below w.heap.size w (((w.alloc (.cells (C.sail x a) 32)).alloc (.cells #[.int .i64 c] 3)).alloc O.zs) := bvia hb2 (al _ _)
  have hb0 : Below w.heap.size w ((((w.alloc (.cells (C.sail x a) 32)).alloc (.cells #[.int .i64 c] 3)).alloc O.zs).alloc (.cells (C.sail x a) 96)) := bvia hb3 (al _ _)
  have hq1 : RowIs ((((w.alloc (.cells (C.sail x a) 32)).alloc (.cells #[.int .i64 c] 3)).alloc O.zs).alloc (.cells (C.sail x a) 96)) (w.heap.size + 1) #[.int .i64 c] := by
    have := RowIs.new (w.alloc (.cells (C.sail x a) 32)) #[.int .i64 c] 3
    rw [World.size_alloc] at this
    exact (this.below (al _ _)).below (al _ _)
  have hq2 : SRow ((((w.alloc (.cells (C.sail x a) 32)).alloc (.cells #[.int .i64 c] 3)).alloc O.zs).alloc (.cells (C.sail x a) 96)) (w.heap.size + 1 + 1 + 1) x a := by
    have := RowIs.new (((w.alloc (.cells (C.sail x a) 32)).alloc (.cells #[.int .i64 c] 3)).alloc O.zs) (C.sail x a) 96
    simp only [World.size_alloc] at this
    exact this
  have HC : Aside (Calls Tryz.prog 63 #[V.sail x a, .int .i64 id, .func (.func 70) #[] #[.pointer (some ⟨w.heap.size + 1, 0, none⟩), .pointer (some ⟨w.heap.size + 1 + 1 + 1, 0, none⟩)]] ((((w.alloc (.cells (C.sail x a) 32)).alloc (.cells #[.int .i64 c] 3)).alloc O.zs).alloc (.cells (C.sail x a) 96)) _) :=
    change_any x a id 70 #[.pointer (some ⟨w.heap.size + 1, 0, none⟩), .pointer (some ⟨w.heap.size + 1 + 1 + 1, 0, none⟩)] (P.mvT x c) _ (hs.below hb0) move1_calls (fun _ k b wx hbx _ _ => move1_lit wx b (w.heap.size + 1) (w.heap.size + 1 + 1 + 1) x a c ((hq1.below hbx).cell 0) (hq2.below hbx) ((hs.below hb0).below hbx))
  have HZ0 : Aside (RowIs ((((w.alloc (.cells (C.sail x a) 32)).alloc (.cells #[.int .i64 c] 3)).alloc O.zs).alloc (.cells (C.sail x a) 96)) (w.heap.size + 1 + 1) C.zs) := by
    have := RowIs.new ((w.alloc (.cells (C.sail x a) 32)).alloc (.cells #[.int .i64 c] 3)) C.zs 32
    simp only [World.size_alloc] at this
    exact this.below (al _ _)
  have HB0 : Aside (Below w.heap.size w ((((w.alloc (.cells (C.sail x a) 32)).alloc (.cells #[.int .i64 c] 3)).alloc O.zs).alloc (.cells (C.sail x a) 96))) := hb0
  clear hs hb0 hb1 hb2 hb3 hq1 hq2
  go_enter Tryz.func21, Tryz.ntmps21
  go_wp2_with fail
  refine HC.out.mono ?_
  rintro e w1 ⟨r, y, a1, rfl, h1, h2, h3⟩
  have H1 : Aside (P.Chg x id (P.mvT x c) r y) := h1
  have H2 : Aside (SailUp ((((w.alloc (.cells (C.sail x a) 32)).alloc (.cells #[.int .i64 c] 3)).alloc O.zs).alloc (.cells (C.sail x a) 96)).heap.size w1 y a1) := h2
  have H3 : Aside (Below w.heap.size w w1) := bvia HB0.out h3
  have HZ1 : Aside (RowIs w1 (w.heap.size + 1 + 1) C.zs) := HZ0.out.below h3
  have hlt : w.heap.size + 1 + 1 < ((((w.alloc (.cells (C.sail x a) 32)).alloc (.cells #[.int .i64 c] 3)).alloc O.zs).alloc (.cells (C.sail x a) 96)).heap.size := HZ0.out.lt
  clear h1 h2 h3 HC HZ0
  go_wp2_with ((with_reducible refine wpList_stO (w.heap.size + 1 + 1) C.zs (C.sail y a1) ?_ ?_ ?_ HZ1.out ?_ ?_ ?_); exact Tryz.sizeSail; rfl; rfl; rfl; exact sail_one _ _; intro w9 hr9 hg9)
  exact bodyPost_ret (res2 rfl hr9 _ rfl rfl Tryz.underlying32 rfl Tryz.sizeSail) rfl ⟨r, y, a1, rfl, H1.out, SailUp.mono (SailUp.up H2.out (Up.gr hg9 hlt)) (by omega), below_gr H3.out H3.out.size hg9 (by omega)⟩

end Go.Proofs.YtlamhfbdeinkkaeGreat.St
