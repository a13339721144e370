/- What is sold: plain functions, and what they tell. -/
import Derived.Test.YtlamhfbdeinkkaeGreatStTr
namespace Go.Proofs.YtlamhfbdeinkkaeGreat.St
open Go.RowKit Bk
set_option linter.unusedSimpArgs false
set_option linter.unusedVariables false
set_option maxRecDepth 10000

/-- The sailing beside an errno. -/
def P.zeroS : Sail := ⟨⟨0, 0, [], []⟩, [], 0, 0, [], 0, 0, 0, [], false⟩
def A.zeroS : SailA := ⟨⟨none, none, 0, 0⟩, none, none, 0, 0, none, 0⟩
theorem zero_at (w : World) : SailAt w P.zeroS A.zeroS := ⟨⟨SlAt.nilOf _, SlAt.nilOf _⟩, ⟨SlAt.nilOf _, SlAt.nilOf _⟩, SlAt.nilOf _⟩

/-- An option is decided in time; anything else is. -/
def P.waits (x : Sail) (b : Bkg) : Bool := decide (b.state ≠ 1) || (decide (x.day ≤ b.til) && decide (b.til < x.lvs))
/-- By which category one pays. -/
def P.catOf (k : Int) (x : Sail) (b : Bkg) : Int := if k = 1 then (P.cabAt x.s b.cabin).2.1 else b.cat
def P.fee (k : Int) (x : Sail) (b : Bkg) : Int := Fo.P.price x.L x.al x.th x.B x.dn x.s.cs.length x.s.legs (P.catOf k x b) b.frm b.to b.guests
def P.setF (b : Bkg) (l : List Fo.Ent) : Bkg := ⟨b.id, b.kind, b.state, b.guests, b.level, b.cabin, b.cat, b.frm, b.to, b.til, l⟩
/-- As it is sold. -/
def P.priced (k : Int) (x : Sail) (b : Bkg) : Bkg := P.setF b [(x.day, 1, P.fee k x b)]
def P.isIn (id : Int) (l : List Bkg) : Bool := l.any (fun y => decide (y.id = id))
/-- I1: what is wrong ahead of the room. -/
def P.lateE (k : Int) (x : Sail) (b : Bkg) : Int :=
  if (x.lvs ≤ x.day ∨ P.waits x b = false) ∨ (k = 2 ∧ x.cl = true) then 4 else if P.isIn b.id x.bks = true then 6 else if 16 ≤ x.bks.length then 2 else 0
def P.sellE (k : Int) (x : Sail) (b : Bkg) : Int :=
  if b.kind = k ∧ b.state ≠ 3 then (if 0 < b.fol.length ∨ (k = 2 ∧ b.cabin ≠ -1) then 1 else if P.bkE x.s b = 0 then P.lateE k x b else P.bkE x.s b) else 7
/-- I1: the sailing that comes, or the errno: of a sailing that is right. -/
def P.Sells (k : Int) (x : Sail) (b : Bkg) (r : Int) (y : Sail) : Prop :=
  (¬ P.sellE k x b = 0 ∧ r = P.sellE k x b ∧ y = P.zeroS) ∨
  (P.sellE k x b = 0 ∧ P.Room (P.withB x (P.priced k x b)) r ∧ ((r = 0 ∧ y = P.withB x (P.priced k x b)) ∨ (¬ r = 0 ∧ y = P.zeroS)))
/-- Of whatever sailing. -/
def P.SellS (k : Int) (x : Sail) (b : Bkg) (r : Int) (y : Sail) : Prop := (∃ q, P.SailE x q ∧ ¬ q = 0 ∧ r = q ∧ y = P.zeroS) ∨ (P.SailE x 0 ∧ P.Sells k x b r y)
theorem Sells.one {k : Int} {x : Sail} {b : Bkg} {r r' : Int} {y y' : Sail} (h : P.Sells k x b r y) (h' : P.Sells k x b r' y') : r = r' ∧ y = y' := by
  rcases h with ⟨a1, rfl, rfl⟩ | ⟨a1, a2, a3⟩ <;> rcases h' with ⟨b1, rfl, rfl⟩ | ⟨b1, b2, b3⟩
  · exact ⟨rfl, rfl⟩
  · exact absurd b1 a1
  · exact absurd a1 b1
  · obtain rfl := Room.one a2 b2
    refine ⟨rfl, ?_⟩
    rcases a3 with ⟨c1, rfl⟩ | ⟨c1, rfl⟩ <;> rcases b3 with ⟨d1, rfl⟩ | ⟨d1, rfl⟩
    · rfl
    · exact absurd c1 d1
    · exact absurd d1 c1
    · rfl
theorem SellS.one {k : Int} {x : Sail} {b : Bkg} {r r' : Int} {y y' : Sail} (h : P.SellS k x b r y) (h' : P.SellS k x b r' y') : r = r' ∧ y = y' := by
  rcases h with ⟨q, a1, a2, rfl, rfl⟩ | ⟨a1, a2⟩ <;> rcases h' with ⟨q', b1, b2, rfl, rfl⟩ | ⟨b1, b2⟩
  · exact ⟨SailE.one a1 b1, rfl⟩
  · exact absurd (SailE.one a1 b1) a2
  · exact absurd (SailE.one b1 a1) b2
  · exact Sells.one a2 b2
theorem Sells.err {k : Int} {x : Sail} {b : Bkg} {r : Int} {y : Sail} (h : P.Sells k x b r y) (hr : ¬ r = 0) : y = P.zeroS := by
  rcases h with ⟨a1, rfl, rfl⟩ | ⟨a1, a2, ⟨a3, _⟩ | ⟨_, rfl⟩⟩
  · rfl
  · exact absurd a3 hr
  · rfl
theorem SellS.err {k : Int} {x : Sail} {b : Bkg} {r : Int} {y : Sail} (h : P.SellS k x b r y) (hr : ¬ r = 0) : y = P.zeroS := by
  rcases h with ⟨q, a1, a2, rfl, rfl⟩ | ⟨a1, a2⟩
  · rfl
  · exact Sells.err a2 hr

/-- Numbers that rise, and one that is not there. -/
theorem ins_split {l : List Bkg} {b : Bkg} (h : l.Pairwise (fun a b => a.id < b.id)) (hn : P.isIn b.id l = false) :
    ∃ A B, l = A ++ B ∧ P.insB b l = A ++ b :: B ∧ (A ++ b :: B).Pairwise (fun a b => a.id < b.id) := by
  have hne : ∀ y ∈ l, y.id ≠ b.id := fun y hy e => by
    have := List.any_eq_false.1 hn y hy
    simp [e] at this
  refine ⟨l.filter (fun y => decide (y.id < b.id)), l.filter (fun y => decide (b.id < y.id)), ?_, rfl, ?_⟩
  · clear hn
    induction l with
    | nil => rfl
    | cons y t ih =>
      obtain ⟨h1, h2⟩ := List.pairwise_cons.1 h
      have hy := hne y (by simp)
      have i := ih h2 (fun z hz => hne z (by simp [hz]))
      rw [List.filter_cons, List.filter_cons]
      by_cases hlt : y.id < b.id
      · rw [if_pos (by simpa using hlt), if_neg (by simp; omega), List.cons_append, ← i]
      · have e1 : t.filter (fun y => decide (y.id < b.id)) = [] := List.filter_eq_nil_iff.2 (fun z hz => by have := h1 z hz; simp; omega)
        have e2 : t.filter (fun y => decide (b.id < y.id)) = t := List.filter_eq_self.2 (fun z hz => by have := h1 z hz; simp; omega)
        rw [if_neg (by simpa using hlt), if_pos (by simp; omega), e1, e2, List.nil_append]
  · refine List.pairwise_append.2 ⟨h.filter _, List.pairwise_cons.2 ⟨fun z hz => by simpa using (List.mem_filter.1 hz).2, h.filter _⟩, fun u hu v hv => ?_⟩
    have h1 : u.id < b.id := by simpa using (List.mem_filter.1 hu).2
    rcases List.mem_cons.1 hv with rfl | hv
    · exact h1
    · have h2 : b.id < v.id := by simpa using (List.mem_filter.1 hv).2
      omega

/-- A folio of one fare. -/
theorem fol_one {d p : Int} (hd : 0 ≤ d ∧ d ≤ 9999) (hp : 0 ≤ p ∧ p ≤ 100000000) : Fo.P.folE [(d, 1, p)] = 0 := by
  have h1 : Fo.P.entB (d, 1, p) = 0 := by
    rw [Fo.P.entB, if_pos (by simp [P.btw]), if_pos (by simp [Fo.P.amt, P.btw]; omega), if_neg (by simp; omega)]
  have h2 : Fo.P.entE (d, 1, p) 0 = 0 := by rw [Fo.P.entE, if_pos h1, if_neg (by simp; omega)]
  have h3 : Fo.P.entsE 0 [(d, 1, p)] = 0 := by simp [Fo.P.entsE, h2]
  have h4 : (Fo.P.sumsL Fo.P.all 0 [(d, 1, p)]).all Fo.P.amt = true := by
    simp [Fo.P.sumsL, Fo.P.amt, P.btw]
    omega
  rw [Fo.P.folE, if_neg (by simp), if_pos h3, if_pos h4]
theorem fee_in (k : Int) (x : Sail) (b : Bkg) : 0 ≤ P.fee k x b ∧ P.fee k x b ≤ 2800000 := by
  rw [P.fee, Fo.P.price]
  split
  · rename_i h
    obtain ⟨h1, h2, h3, h4⟩ := Fo.priceE_zero h
    obtain ⟨_, _, _, _, hal, hth, _⟩ := Fo.fareE_zero h1
    have hs := Fo.legSum_in h1 h2 h3
    have p1 := Fo.part_in2 hs hal
    have p2 := Fo.part_in hs hth
    rw [Fo.P.cost]
    split
    · omega
    · have m3 := Fo.mul_in (a := b.guests - 2) (m := 2) (by omega) p2
      omega
  · omega
theorem setF_bk {s : Vsl} {b : Bkg} {l : List Fo.Ent} (h : P.bkE s b = 0) (hl : Fo.P.folE l = 0) : P.bkE s (P.setF b l) = 0 := by
  obtain ⟨h1, h2, h3, h4, h5, h6, h7⟩ := bk_all h
  have e : P.bkE s (P.setF b l) = if (P.btw b.kind 1 2 && P.btw b.state 1 3) = true then
    (if (P.btw b.id 1 999999 && P.btw b.guests 1 4) = true then
      (if P.chk b.frm b.to s.legs = 0 then
        (if P.kindE s b = 0 then (if P.btw b.til 0 9999 = true then (if b.til ≠ 0 ∧ b.state ≠ 1 then 1 else Fo.P.folE l) else 3) else P.kindE s b)
      else P.chk b.frm b.to s.legs)
    else 3) else 7 := rfl
  rw [e, if_pos h1, if_pos h2, if_pos h3, if_pos h4, if_pos h5, if_neg h6]
  exact hl
theorem frame_parts {x : Sail} (h : P.frame x = 0) : P.shp x.s = 0 ∧ P.fareS x = 0 ∧ (0 ≤ x.day ∧ x.day ≤ 9999) ∧ (0 ≤ x.lvs ∧ x.lvs ≤ 9999) ∧ x.bks.length ≤ 16 := by
  unfold P.frame at h
  split at h
  · rename_i h1
    split at h
    · rename_i h2
      split at h
      · rename_i h3
        split at h
        · omega
        · simp only [P.btw, Bool.and_eq_true, decide_eq_true_eq] at h3
          exact ⟨h1, h2, h3.1, h3.2, by omega⟩
      · omega
    · contradiction
  · contradiction
theorem frame_of {x : Sail} (h1 : P.shp x.s = 0) (h2 : P.fareS x = 0) (h3 : 0 ≤ x.day ∧ x.day ≤ 9999) (h4 : 0 ≤ x.lvs ∧ x.lvs ≤ 9999) (h5 : x.bks.length ≤ 16) : P.frame x = 0 :=
  frame_ok h1 h2 (by simp [P.btw]; omega) (by omega)
theorem sellE_zero {k : Int} {x : Sail} {b : Bkg} (h : P.sellE k x b = 0) : b.kind = k ∧ b.state ≠ 3 ∧ b.fol = [] ∧ (k = 2 → b.cabin = -1) ∧ P.bkE x.s b = 0 ∧ x.day < x.lvs ∧ P.waits x b = true ∧ (k = 2 → x.cl = false) ∧ P.isIn b.id x.bks = false ∧ x.bks.length < 16 := by
  unfold P.sellE at h
  split at h
  · rename_i h1
    split at h
    · omega
    · rename_i h2
      split at h
      · rename_i h3
        unfold P.lateE at h
        split at h
        · omega
        · rename_i h4
          split at h
          · omega
          · rename_i h5
            split at h
            · omega
            · rename_i h6
              refine ⟨h1.1, h1.2, List.eq_nil_of_length_eq_zero (by omega), fun e => Classical.byContradiction fun hc => h2 (.inr ⟨e, hc⟩), h3, Int.not_le.1 fun hc => h4 (.inl (.inl hc)), ?_, fun e => ?_, by simpa using h5, by omega⟩
              · cases hw : P.waits x b
                · exact absurd (.inl (.inr hw)) h4
                · rfl
              · cases hw : x.cl
                · rfl
                · exact absurd (.inr ⟨e, hw⟩) h4
      · contradiction
  · omega
/-- The price of what is sold is told. -/
theorem fee_ok {k : Int} {x : Sail} {b : Bkg} (hk : k = 1 ∨ k = 2) (h0 : P.frame x = 0) (hkb : b.kind = k) (hb : P.bkE x.s b = 0) : Fo.P.priceE x.L x.al x.th x.B x.dn x.s.cs.length x.s.legs (P.catOf k x b) b.frm b.to b.guests = 0 := by
  obtain ⟨f1, f2, f3, f4, f5⟩ := frame_parts h0
  obtain ⟨c1, c2, c3, c4, c5, c6, c7, c8, c9⟩ := bk_ok hb
  have hcat : 0 ≤ P.catOf k x b ∧ P.catOf k x b < x.s.cs.length := by
    rcases hk with rfl | rfl
    · have hc := kind_named c6 hkb
      simp only [P.cabB, P.btw, Bool.and_eq_true, decide_eq_true_eq] at hc
      have hlt : b.cabin.toNat < x.s.bs.length := by omega
      have hm : P.cabAt x.s b.cabin ∈ x.s.bs := by
        rw [P.cabAt, List.getD_eq_getElem?_getD, List.getElem?_eq_getElem hlt]
        exact List.getElem_mem hlt
      have := shp_cabs f1 _ hm
      rw [P.catOf, if_pos rfl]
      omega
    · have := kind_prom c6 hkb
      rw [P.catOf, if_neg (by omega)]
      omega
  have hf : Fo.P.fareE x.L x.al x.th x.B x.dn x.s.cs.length x.s.legs = 0 := f2
  rw [Fo.P.priceE, if_pos hf, if_pos (by simp [P.btw]; omega), if_pos c1, if_pos (by simp [P.btw]; omega)]
/-- With what is sold all but the room is right. -/
theorem sell_pre {k : Int} {x : Sail} {b : Bkg} (hk : k = 1 ∨ k = 2) (hE : P.SailE x 0) (h : P.sellE k x b = 0) : P.bkE x.s (P.priced k x b) = 0 ∧ P.pre (P.withB x (P.priced k x b)) = 0 ∧ (P.insB (P.priced k x b) x.bks).length = x.bks.length + 1 := by
  obtain ⟨hp, hf, h0, hbk, h16, _⟩ := sail_ok hE
  obtain ⟨s1, s2, s3, s4, s5, s6, s7, s8, s9, s10⟩ := sellE_zero h
  obtain ⟨f1, f2, f3, f4, f5⟩ := frame_parts hf
  obtain ⟨p1, p2, p3⟩ := pre_zero hp
  have hfee := fee_in k x b
  have hb : P.bkE x.s (P.priced k x b) = 0 := setF_bk s5 (fol_one f3 (by omega))
  obtain ⟨r1, r2⟩ := bksI_rise p2
  obtain ⟨A, B, eA, eI, hI⟩ := ins_split (b := P.priced k x b) r2 s9
  have hid : 0 < (P.priced k x b).id := by
    have := (bk_ok hb).2.2.2.1
    omega
  have hlen : (P.insB (P.priced k x b) x.bks).length = x.bks.length + 1 := by rw [eI, eA]; simp; omega
  refine ⟨hb, ?_, hlen⟩
  have hmem : ∀ y ∈ P.insB (P.priced k x b) x.bks, y = P.priced k x b ∨ y ∈ x.bks := fun y hy => by
    rw [eI] at hy
    rw [eA]
    simp at hy ⊢
    rcases hy with h | h | h <;> simp [h]
  have q1 : P.frame (P.withB x (P.priced k x b)) = 0 := frame_of f1 f2 f3 f4 (by show (P.insB _ _).length ≤ 16; omega)
  have q2 : P.bksI (P.withB x (P.priced k x b)).s 0 (P.withB x (P.priced k x b)).bks = 0 := bksI_of (fun y hy => by
      rcases hmem y hy with rfl | h
      · exact hb
      · exact hbk y h) (fun y hy => by
      rcases hmem y hy with rfl | h
      · exact hid
      · exact r1 y h) (by show (P.insB _ _).Pairwise _; rw [eI]; exact hI)
  have q3 : (P.withB x (P.priced k x b)).bks.any (P.clB (P.withB x (P.priced k x b))) = false := by
    rw [List.any_eq_false]
    intro y hy
    rcases hmem y hy with rfl | h
    · rcases hk with rfl | rfl
      · simp [P.clB, P.priced, P.setF, s1]
      · have e1 := s4 rfl
        have e2 := s8 rfl
        simp [P.clB, P.priced, P.setF, e1, e2, P.withB]
    · exact List.any_eq_false.1 p3 y h
  rw [P.pre, if_pos q1, if_pos q2, if_neg (by rw [q3]; simp)]
theorem room_vals {x : Sail} {r : Int} (h : P.Room x r) : r = 6 ∨ r = 8 ∨ r = 9 ∨ r = 0 := by
  rcases h with ⟨_, rfl⟩ | ⟨_, _, rfl⟩ | ⟨_, _, c, _, rfl⟩
  · simp
  · simp
  · split <;> simp
theorem sail_room {x : Sail} {q : Int} (hp : P.pre x = 0) (h : P.SailE x q) : P.Room x (if q = 2 then 8 else q) := by
  rcases h with ⟨h1, _⟩ | ⟨_, r, hr, rfl⟩
  · exact absurd hp h1
  · have hv := room_vals hr
    have e : (if (if r = 8 then 2 else r) = 2 then (8 : Int) else (if r = 8 then 2 else r)) = r := by
      rcases hv with rfl | rfl | rfl | rfl <;> simp
    rw [e]
    exact hr
theorem room_sail {x : Sail} (hp : P.pre x = 0) (h : P.Room x 0) : P.SailE x 0 := .inr ⟨hp, 0, h, by simp⟩
/-- I3: what comes is right. -/
theorem sells_right {k : Int} {x : Sail} {b : Bkg} {y : Sail} (hk : k = 1 ∨ k = 2) (hE : P.SailE x 0) (h : P.Sells k x b 0 y) : P.sellE k x b = 0 ∧ y = P.withB x (P.priced k x b) ∧ P.SailE y 0 := by
  rcases h with ⟨a1, a2, _⟩ | ⟨a1, a2, ⟨_, rfl⟩ | ⟨a3, _⟩⟩
  · exact absurd a2.symm a1
  · exact ⟨a1, rfl, room_sail (sell_pre hk hE a1).2.1 a2⟩
  · exact absurd rfl a3
/-- What the program does: the errno of the sailing that comes is told anew. -/
theorem sells_of {k : Int} {x : Sail} {b : Bkg} {q : Int} (hk : k = 1 ∨ k = 2) (hE : P.SailE x 0) (h : P.sellE k x b = 0) (hq : P.SailE (P.withB x (P.priced k x b)) q) :
    P.Sells k x b (if q = 2 then 8 else q) (if q = 0 then P.withB x (P.priced k x b) else P.zeroS) := by
  have hr := sail_room (sell_pre hk hE h).2.1 hq
  refine .inr ⟨h, hr, ?_⟩
  by_cases h0 : q = 0
  · subst h0
    left
    exact ⟨by simp, by simp⟩
  · right
    refine ⟨?_, by rw [if_neg h0]⟩
    split <;> omega

end Go.Proofs.YtlamhfbdeinkkaeGreat.St
