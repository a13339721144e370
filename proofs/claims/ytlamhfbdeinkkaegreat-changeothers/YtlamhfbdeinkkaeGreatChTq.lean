/- Package change: a booking that is gone takes no room: what is cancelled leaves a sailing right. -/
import Derived.Test.YtlamhfbdeinkkaeGreatChJq
import Derived.Test.YtlamhfbdeinkkaeGreatChHq
namespace Go.Proofs.YtlamhfbdeinkkaeGreat.St
open Go.RowKit Bk
set_option linter.unusedSimpArgs false
set_option linter.unusedVariables false
set_option maxRecDepth 10000

def P.goneB (b : Bkg) (l : List Fo.Ent) : Bkg := ⟨b.id, b.kind, 3, b.guests, b.level, b.cabin, b.cat, b.frm, b.to, 0, l⟩
theorem hasC_gone {c : Int} {g : Bkg} (hg : g.state = 3) : P.hasC c g = false := by simp [P.hasC, P.live, hg]
theorem opn_gone {g : Bkg} (hg : g.state = 3) : P.opn g = false := by simp [P.opn, hg]
theorem mine_gone {c : Int} {A B : List Bkg} {g : Bkg} (hg : g.state = 3) : P.mine c (A ++ g :: B) = P.mine c (A ++ B) := by
  rw [P.mine, P.mine, List.filter_append, List.filter_append, List.filter_cons, hasC_gone hg]
  rfl
theorem soul_gone {k : Int} {A B : List Bkg} {g : Bkg} (hg : g.state = 3) : P.soul k (A ++ g :: B) = P.soul k (A ++ B) := by
  rw [soul_append, soul_append, P.soul]
  have : P.onLeg k g = 0 := by
    rw [P.onLeg, if_neg]
    simp [P.live, hg]
  omega
theorem pids_gone {A B : List Bkg} {g : Bkg} (hg : g.state = 3) : P.pids (A ++ g :: B) = P.pids (A ++ B) := by
  rw [P.pids, P.pids, List.filter_append, List.filter_append, List.filter_cons, opn_gone hg]
  rfl
theorem elC_gone {s : Vsl} {A B : List Bkg} {g b : Bkg} {c : Nat} (hg : g.state = 3) : P.elC s (A ++ g :: B) b c = P.elC s (A ++ B) b c := by
  rw [P.elC, P.elC, mine_gone hg]
theorem edgs_gone {s : Vsl} {A B : List Bkg} {g b : Bkg} {i n : Nat} (hg : g.state = 3) : P.edgs s (A ++ g :: B) i b n = P.edgs s (A ++ B) i b n := by
  have e : P.elC s (A ++ g :: B) b = P.elC s (A ++ B) b := funext (fun c => elC_gone hg)
  rw [P.edgs, P.edgs, e]
theorem pedg_far {s : Vsl} {A B : List Bkg} {g : Bkg} (hg : g.state = 3) (m : List Bkg) (i : Nat) : P.pedg s (A ++ g :: B) i m = P.pedg s (A ++ B) i m := by
  induction m generalizing i with
  | nil => rfl
  | cons y t ih => rw [P.pedg, P.pedg, edgs_gone hg, ih, ih]
theorem pedg_in {s : Vsl} {l A B : List Bkg} {g : Bkg} (hg : g.state = 3) (i : Nat) : P.pedg s l i (A ++ g :: B) = P.pedg s l i (A ++ B) := by
  induction A generalizing i with
  | nil =>
    rw [List.nil_append, List.nil_append, P.pedg, if_neg]
    rw [opn_gone hg]
    decide
  | cons y t ih => rw [List.cons_append, List.cons_append, P.pedg, P.pedg, ih, ih]
theorem pedg_gone {s : Vsl} {A B : List Bkg} {g : Bkg} (hg : g.state = 3) : P.pedg s (A ++ g :: B) 0 (A ++ g :: B) = P.pedg s (A ++ B) 0 (A ++ B) := by
  rw [pedg_far hg, pedg_in hg]
theorem gone_bkE {s : Vsl} {b : Bkg} {l : List Fo.Ent} (hb : P.bkE s b = 0) (h : Fo.P.folE l = 0) : P.bkE s (P.goneB b l) = 0 := by
  have hk : P.kindE s (P.goneB b l) = P.kindE s b := rfl
  unfold P.bkE at hb ⊢
  rw [hk]
  show (if (P.btw b.kind 1 2 && P.btw 3 1 3) = true then (if (P.btw b.id 1 999999 && P.btw b.guests 1 4) = true then (if P.chk b.frm b.to s.legs = 0 then (if P.kindE s b = 0 then (if P.btw 0 0 9999 = true then (if (0 : Int) ≠ 0 ∧ (3 : Int) ≠ 1 then 1 else Fo.P.folE l) else 3) else P.kindE s b) else P.chk b.frm b.to s.legs) else 3) else 7) = 0
  have e1 : P.btw 3 1 3 = true := by decide
  have e2 : P.btw 0 0 9999 = true := by decide
  have e3 : ¬ ((0 : Int) ≠ 0 ∧ (3 : Int) ≠ 1) := by simp
  split at hb
  · next h1 =>
    rw [if_pos (by rw [Bool.and_eq_true] at h1 ⊢; exact ⟨h1.1, e1⟩)]
    split at hb
    · next h2 =>
      rw [if_pos h2]
      split at hb
      · next h3 =>
        rw [if_pos h3]
        split at hb
        · next h4 => rw [if_pos h4, if_pos e2, if_neg e3]; exact h
        · next h4 => exact absurd hb h4
      · next h3 => exact absurd hb h3
    · exact absurd hb (by decide)
  · exact absurd hb (by decide)
theorem set_split {α : Type} {l : List α} {k : Nat} {b g : α} (hk : l[k]? = some b) : l = l.take k ++ b :: l.drop (k + 1) ∧ l.set k g = l.take k ++ g :: l.drop (k + 1) := by
  obtain ⟨hkl, e⟩ := List.getElem?_eq_some_iff.1 hk
  refine ⟨?_, ?_⟩
  · conv => lhs; rw [← List.take_append_drop k l, List.drop_eq_getElem_cons hkl, e]
  · rw [List.set_eq_take_append_cons_drop, if_pos hkl]
/-- One that goes leaves a sailing right, whatever its folio is, if that is right. -/
theorem gone_right {x : Sail} {k : Nat} {b : Bkg} {l : List Fo.Ent} (hE : P.SailE x 0) (hk : x.bks[k]? = some b) (h : Fo.P.folE l = 0) : P.SailE (P.setB x (x.bks.set k (P.goneB b l))) 0 := by
  have hg : (P.goneB b l).state = 3 := rfl
  obtain ⟨hp, hf, h0, hbk, h16, ht, hm, c, hc, hcn⟩ := sail_ok hE
  obtain ⟨_, hI, hcl⟩ := pre_zero hp
  obtain ⟨hr1, hr2⟩ := bksI_rise hI
  obtain ⟨e1, e2⟩ := set_split (g := P.goneB b l) hk
  obtain ⟨hL, _, _⟩ := sail_less e1 hE
  obtain ⟨_, _, _, _, _, ht', hm', c', hc', hcn'⟩ := sail_ok hL
  have hall : ∀ z ∈ x.bks.set k (P.goneB b l), P.bkE x.s z = 0 := fun z hz => by
    rcases List.mem_or_eq_of_mem_set hz with h1 | rfl
    · exact hbk z h1
    · exact gone_bkE (hbk b (List.mem_of_getElem? hk)) h
  have hf' : P.frame (P.setB x (x.bks.set k (P.goneB b l))) = 0 := by
    obtain ⟨g1, g2, g3, g4, g5⟩ := frame_zero hf
    refine frame_ok g1 g2 (by rw [Bool.and_eq_true]; exact ⟨g3, g4⟩) ?_
    show ¬ 16 < (x.bks.set k (P.goneB b l)).length
    rw [List.length_set]
    omega
  have hids : (x.bks.set k (P.goneB b l)).map (fun b => b.id) = x.bks.map (fun b => b.id) := by
    rw [e2]
    conv => rhs; rw [e1]
    rw [List.map_append, List.map_append, List.map_cons, List.map_cons]
    rfl
  have hrise : (x.bks.set k (P.goneB b l)).Pairwise (fun a b => a.id < b.id) := by
    have h1 : (x.bks.map (fun b => b.id)).Pairwise (· < ·) := List.pairwise_map.2 hr2
    rw [← hids] at h1
    exact List.pairwise_map.1 h1
  have hI' : P.bksI x.s 0 (x.bks.set k (P.goneB b l)) = 0 := bksI_of hall (fun z hz => by
    have := (bk_ok (hall z hz)).2.2.2.1
    omega) hrise
  have hp' : P.pre (P.setB x (x.bks.set k (P.goneB b l))) = 0 := by
    refine pre_ok hf' hI' ?_
    rw [List.any_eq_false] at hcl ⊢
    intro z hz
    rcases List.mem_or_eq_of_mem_set hz with h1 | rfl
    · exact hcl z h1
    · simp [P.clB, P.live, hg]
  refine .inr ⟨hp', 0, .inr (.inr ⟨?_, ?_, c', ?_, ?_⟩), rfl⟩
  · rw [← ht']
    show ((List.range x.s.bs.length).any fun d => !P.addsB x.s.legs (P.mine (d : Nat) (x.bks.set k (P.goneB b l)))) = ((List.range x.s.bs.length).any fun d => !P.addsB x.s.legs (P.mine (d : Nat) (x.bks.take k ++ x.bks.drop (k + 1))))
    rw [e2]
    simp only [mine_gone hg]
  · rw [← hm']
    have e : P.soulsL x.s.legs.toNat (x.bks.set k (P.goneB b l)) = P.soulsL x.s.legs.toNat (x.bks.take k ++ x.bks.drop (k + 1)) := List.map_congr_left (fun j _ => by rw [e2, soul_gone hg])
    show decide (x.s.souls < P.mst 0 (P.soulsL x.s.legs.toNat (x.bks.set k (P.goneB b l)))) = decide (x.s.souls < P.mst 0 (P.soulsL x.s.legs.toNat (x.bks.take k ++ x.bks.drop (k + 1))))
    rw [e]
  · show Ma.MaxM (P.pedg x.s (x.bks.set k (P.goneB b l)) 0 (x.bks.set k (P.goneB b l))) c'
    rw [e2, pedg_gone hg]
    exact hc'
  · rw [if_neg]
    show ¬ c' < (P.pids (x.bks.set k (P.goneB b l))).length
    rw [e2, pids_gone hg]
    show ¬ c' < (P.pids (P.setB x (x.bks.take k ++ x.bks.drop (k + 1))).bks).length
    omega
/-- What Cancel does. -/
def P.cnE (x : Sail) (b : Bkg) : Int := if P.canE x b = 0 then Fo.P.canE b.fol x.day (P.canP x b) else P.canE x b
def P.cnB (x : Sail) (b : Bkg) : Bkg := P.goneB b (Fo.P.can b.fol x.day (P.canP x b))
def P.cnT (x : Sail) (b : Bkg) (e : Int) (b' : Bkg) : Prop := e = P.cnE x b ∧ (e = 0 → b' = P.cnB x b)
theorem cnT_one (x : Sail) (b : Bkg) (e : Int) (b' : Bkg) (e' : Int) (b'' : Bkg) (h : P.cnT x b e b') (h' : P.cnT x b e' b'') : e = e' ∧ (e = 0 → b' = b'') :=
  ⟨h.1.trans h'.1.symm, fun h0 => (h.2 h0).trans (h'.2 ((h'.1.trans h.1.symm).trans h0)).symm⟩
theorem cn_right {x : Sail} {k : Nat} {b b' : Bkg} (hE : P.SailE x 0) (hk : x.bks[k]? = some b) (h : P.cnT x b 0 b') : P.SailE (P.setB x (x.bks.set k b')) 0 := by
  have h1 : Fo.P.canE b.fol x.day (P.canP x b) = 0 := by
    have := h.1.symm
    rw [P.cnE] at this
    split at this
    · exact this
    · next h1 => exact absurd this h1
  obtain ⟨_, _, _, h2, h3⟩ := Fo.can_some h1
  rw [h.2 rfl]
  exact gone_right hE hk (by rw [h3]; exact h2)

end Go.Proofs.YtlamhfbdeinkkaeGreat.St
