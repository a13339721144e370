/- The reference: RoomOf. -/
import Derived.Test.YtlamhfbdeinkkaeGreatStCt
import Derived.Test.YtlamhfbdeinkkaeGreatBoDt
import Derived.Test.YtlamhfbdeinkkaeGreatMaFt
import Derived.Deep.RegionHeld3
import Derived.Test.YtlamhfbdeinkkaeGreatStFt
namespace Go.Proofs.YtlamhfbdeinkkaeGreat.St
open Go.RowKit Bk
set_option linter.unusedSimpArgs false
set_option linter.unusedVariables false
set_option maxRecDepth 10000

theorem gr_of {n m : Int} {l seen : List (Int × Int)} (h : ∀ x ∈ l, 0 ≤ x.1 ∧ x.1 < n ∧ 0 ≤ x.2 ∧ x.2 < m) (hd : l.Nodup) (hs : ∀ x ∈ l, ¬ x ∈ seen) : Ma.P.gr n m seen l = 0 := by
  induction l generalizing seen with
  | nil => rfl
  | cons y l ih =>
    rw [Ma.P.gr, if_pos (Ma.inE_iff.2 (h y (by simp))), if_neg (fun e => hs y (by simp) ((Ma.hasEdge_iff _ _).1 e))]
    refine ih (fun x hx => h x (by simp [hx])) (List.nodup_cons.1 hd).2 (fun x hx hm => ?_)
    rcases List.mem_append.1 hm with h1 | h1
    · exact hs x (by simp [hx]) h1
    · simp at h1
      subst h1
      exact (List.nodup_cons.1 hd).1 hx
theorem graph_of {n m : Int} {l : List (Int × Int)} (h1 : 0 ≤ n ∧ n ≤ 16) (h2 : 0 ≤ m ∧ m ≤ 16) (h : ∀ x ∈ l, 0 ≤ x.1 ∧ x.1 < n ∧ 0 ≤ x.2 ∧ x.2 < m) (hd : l.Nodup) : Ma.P.graphE n m l = 0 := by
  rw [Ma.P.graphE, if_pos (by simp [P.btw]; omega)]
  exact gr_of h hd (by simp)
theorem edgs_mem {s : Vsl} {l : List Bkg} {i : Nat} {b : Bkg} {n : Nat} {x : Int × Int} (h : x ∈ P.edgs s l i b n) : x.1 = i ∧ 0 ≤ x.2 ∧ x.2 < n := by
  obtain ⟨c, hc, rfl⟩ := List.mem_map.1 h
  have := List.mem_range.1 (List.mem_filter.1 hc).1
  exact ⟨rfl, by simp, by simpa using this⟩
theorem edgs_nodup (s : Vsl) (l : List Bkg) (i : Nat) (b : Bkg) (n : Nat) : (P.edgs s l i b n).Nodup := by
  induction n with
  | zero => simp [P.edgs]
  | succ n ih =>
    rw [edgs_on]
    refine List.nodup_append.2 ⟨ih, by split <;> simp, fun x hx y hy e => ?_⟩
    subst e
    have h1 := edgs_mem hx
    split at hy
    · simp at hy
      rw [hy] at h1
      simp at h1
    · simp at hy
theorem pedg_mem {s : Vsl} {l m : List Bkg} {i : Nat} {x : Int × Int} (h : x ∈ P.pedg s l i m) : (i : Int) ≤ x.1 ∧ x.1 < i + (m.filter P.opn).length ∧ 0 ≤ x.2 ∧ x.2 < s.bs.length := by
  induction m generalizing i with
  | nil => simp [P.pedg] at h
  | cons b t ih =>
    rw [P.pedg] at h
    rw [List.filter_cons]
    split at h
    · rename_i ho
      rw [if_pos ho, List.length_cons]
      rcases List.mem_append.1 h with h1 | h1
      · have := edgs_mem h1
        omega
      · have := ih h1
        omega
    · rename_i ho
      rw [if_neg ho]
      exact ih h
theorem pedg_nodup (s : Vsl) (l m : List Bkg) (i : Nat) : (P.pedg s l i m).Nodup := by
  induction m generalizing i with
  | nil => simp [P.pedg]
  | cons b t ih =>
    rw [P.pedg]
    split
    · refine List.nodup_append.2 ⟨edgs_nodup .., ih _, fun x hx y hy e => ?_⟩
      subst e
      have h1 := edgs_mem hx
      have h2 := pedg_mem hy
      omega
    · exact ih _
theorem pedg_graph {s : Vsl} {l : List Bkg} (h16 : l.length ≤ 16) (h12 : s.bs.length ≤ 12) : Ma.P.graphE ((P.pids l).length : Nat) (s.bs.length : Nat) (P.pedg s l 0 l) = 0 := by
  have hl : (P.pids l).length ≤ 16 := by
    rw [pids_len]
    have := List.length_filter_le P.opn l
    omega
  refine graph_of (by omega) (by omega) (fun x hx => ?_) (pedg_nodup ..)
  have := pedg_mem hx
  rw [pids_len]
  omega

/-- H1: of bookings that are right, together. -/
def P.twice (x : Sail) : Bool := (List.range x.s.bs.length).any fun c => !P.addsB x.s.legs (P.mine (c : Nat) x.bks)
def P.many (x : Sail) : Bool := decide (x.s.souls < P.mst 0 (P.soulsL x.s.legs.toNat x.bks))
def P.Room (x : Sail) (r : Int) : Prop :=
  (P.twice x = true ∧ r = 6) ∨ (P.twice x = false ∧ P.many x = true ∧ r = 8) ∨
  (P.twice x = false ∧ P.many x = false ∧ ∃ c, Ma.MaxM (P.pedg x.s x.bks 0 x.bks) c ∧ r = if c < (P.pids x.bks).length then 9 else 0)
theorem Room.one {x : Sail} {r r' : Int} (h : P.Room x r) (h' : P.Room x r') : r = r' := by
  rcases h with ⟨a, rfl⟩ | ⟨a, b, rfl⟩ | ⟨a, b, c, hc, rfl⟩ <;> rcases h' with ⟨a', rfl⟩ | ⟨a', b', rfl⟩ | ⟨a', b', c', hc', rfl⟩ <;> simp_all
  rw [Ma.MaxM.one hc hc']
theorem twice_hit {x : Sail} {c : Nat} (hc : c < x.s.bs.length) (h : P.addsB x.s.legs (P.mine c x.bks) = false) : P.twice x = true := by
  rw [P.twice, List.any_eq_true]
  exact ⟨c, List.mem_range.2 hc, by simp [h]⟩
theorem twice_none {x : Sail} (h : ∀ c, c < x.s.bs.length → P.addsB x.s.legs (P.mine (c : Nat) x.bks) = true) : P.twice x = false := by
  rw [P.twice, List.any_eq_false]
  intro c hc
  have := h c (List.mem_range.1 hc)
  simp at this
  simp [this]

set_option maxHeartbeats 2000000 in
theorem roomOf_any (x : Sail) (a : SailA) (w : World) (hs : SailAt w x a) (h0 : P.shp x.s = 0) (hbk : ∀ b ∈ x.bks, P.bkE x.s b = 0) (h16 : x.bks.length ≤ 16) :
    Calls Tryz.prog 76 #[V.sail x a] w fun e w' => ∃ r, e = .returned (.int .i64 r) ∧ P.Room x r ∧ Below w.heap.size w w' := by
  obtain ⟨hl1, hl7, _, _, _, _, _, hbs⟩ := shp_size h0
  have hle := hs.bks.le
  have hmx := hs.bks.max
  unfold maxLen at hmx
  obtain ⟨n, hn⟩ : ∃ n : Nat, x.s.legs = n := ⟨x.s.legs.toNat, by omega⟩
  have hn7 : n ≤ 7 := by omega
  have HNL : Aside (x.s.legs = n) := hn
  have HTN : Aside (x.s.legs.toNat = n) := by show _ = _; rw [hn]; simp
  have HSL : Aside (P.sails x.s.legs = true) := by show _ = _; simp [P.sails]; omega
  have HBK : Aside (∀ b ∈ x.bks, P.bkE x.s b = 0) := hbk
  have HCH : Aside (∀ b ∈ x.bks, P.chk b.frm b.to x.s.legs = 0) := fun b hb => (bk_ok (hbk b hb)).1
  have H0 : Aside (P.shp x.s = 0) := h0
  have hsx := SBox.new w x a
  clear hbk h0 hl1 hl7 hn
  go_enter Tryz.func76, Tryz.ntmps76
  go_wp2
  go_loopg [3] x.s.bs.length (fun g i wr => ∃ (c : Nat), c ≤ x.s.bs.length ∧ g = x.s.bs.length - c ∧ i = .int .i64 c ∧ Aside (∀ d, d < c → P.addsB x.s.legs (P.mine (d : Nat) x.bks) = true) ∧ SBox wr w.heap.size x a ∧ Below w.heap.size w wr)
  case atStart => exact ⟨0, Nat.zero_le _, rfl, rfl, (fun d h => by omega), hsx, sail_below w x a⟩
  case round =>
    obtain ⟨c, hc, rfl, rfl, HA, hbx, hB⟩ := hrel
    have HBX : Aside (SBox wr w.heap.size x a) := hbx
    have c3 := hbx.c3
    have c11 := hbx.c11
    by_cases hlt : c < x.s.bs.length
    · clear hbx
      go_wp2_with fail
      refine (spansOf_any x.s.legs a.ao a.cap x.bks c _ (SlAt.below RBk.mono hs.bks hB) HSL.out HCH.out).mono ?_
      rintro e w2 ⟨v2, rfl, own2, hb2⟩
      obtain ⟨a2, c2, n2, hv2⟩ : ∃ a2 n2 c2, v2 = .slice a2 n2 c2 := by obtain ⟨a2, c2, hv, -⟩ := Sp.Own.at own2; exact ⟨_, _, _, hv⟩
      rw [hv2]
      have hB2 := bvia hB hb2
      have HX2 : Aside (SBox w2 w.heap.size x a) := HBX.out.below hb2
      clear own2 hv2 hB hb2 HBX c3 c11
      cases had : P.addsB x.s.legs (P.mine c x.bks)
      · have HT : Aside (P.twice x = true) := twice_hit hlt had
        go_wp2
        go_ret
        exact ⟨_, rfl, .inl ⟨HT.out, rfl⟩, hB2⟩
      · go_wp2
        go_roundg (x.s.bs.length - (c + 1))
        case measure => omega
        case rel => exact ⟨c + 1, by omega, rfl, by go_num, (fun d hd => by
          by_cases e : d = c
          · subst e; exact had
          · exact HA.out d (by omega)), HX2.out, hB2⟩
    · obtain rfl : c = x.s.bs.length := by omega
      have HT : Aside (P.twice x = false) := twice_none HA.out
      have HM : Aside (P.many x = decide (x.s.souls < P.mst 0 (P.soulsL n x.bks))) := by show _ = _; rw [P.many, HTN.out]
      have f0 := hbx.c0
      rw [HNL.out] at f0
      have f1 := hbx.c1
      have HG : Aside (Ma.P.graphE ((P.pids x.bks).length : Nat) (x.s.bs.length : Nat) (P.pedg x.s x.bks 0 x.bks) = 0) := pedg_graph h16 hbs
      obtain ⟨SL, hSL⟩ : ∃ SL, P.soulsL n x.bks = SL := ⟨_, rfl⟩
      have HSLL : Aside (P.soulsL n x.bks = SL) := hSL
      rw [hSL] at HM
      clear hSL hbx HA
      generalize hM : P.mst 0 SL = M at HM
      have HMM : Aside (P.mst 0 SL = M) := hM
      clear hM
      go_wp2_with fail
      go_region_held3 (fun u => u.cell? ⟨w.heap.size, 0, none⟩ = some (.int .i64 n) ∧ u.cell? ⟨w.heap.size, 1, none⟩ = some (.int .i64 x.s.souls) ∧ u.cell? ⟨w.heap.size, 11, none⟩ = some (.slice a.ao x.bks.length a.cap))
        (first
          | exact ⟨y0, y1, y11⟩
          | exact ⟨z0, z1, z11⟩
          | exact ⟨f0, f1, c11⟩
          | go_keep)
        (first
          | (go_at_call 130; refine (soulsOf_any x.s n a.ao a.cap x.bks _ (SlAt.below RBk.mono hs.bks (bvia hB (by go_grown))) (by omega) hn7 HNL.out HBK.out).mono ?_; rintro e w3 ⟨v3, rfl, own3, hb3⟩; rw [HSLL.out] at own3; obtain ⟨ao3, cap3, rfl, a3⟩ := Ma.OwnI.at own3; have z0 := cellIn hb3 f0; have z1 := cellIn hb3 f1; have z11 := cellIn hb3 c11)
          | (go_at_call 129; refine (most_any ao3 cap3 SL _ (SlAt.below RInt.mono a3 (by go_grown))).mono ?_; rintro e w4 ⟨rfl, hb4⟩; rw [HMM.out]; have y0 := cellIn hb4 z0; have y1 := cellIn hb4 z1; have y11 := cellIn hb4 z11))
      all_goals
        have hr4 : Below wr.heap.size wr w4 := bvia (bvia (by go_grown) hb3) hb4
        have hB4 : Below w.heap.size w w4 := bvia hB hr4
        have HX4 : Aside (SBox w4 w.heap.size x a) := HBX.out.below hr4
        clear a3 own3 z0 z1 z11 y0 y1 y11 f0 f1 c3 c11 hb3 hb4 hr4 HBX hB
        by_cases hM : x.s.souls < M
        · have HM1 : Aside (P.many x = true) := by show _ = _; rw [HM.out]; simpa using hM
          go_wp2
          go_ret
          exact ⟨_, rfl, .inr (.inl ⟨HT.out, HM1.out, rfl⟩), hB4⟩
        · have HM1 : Aside (P.many x = false) := by show _ = _; rw [HM.out]; simpa using hM
          obtain ⟨d0, d1, d2, d3, d4, d5, d6, d7, d8, d9, d10, d11, d12⟩ := HX4.out
          clear HM
          go_wp2_with fail
          rw [← HNL.out]
          refine (promisesOf_any x a _ (hs.below hB4) H0.out HBK.out h16).mono ?_
          rintro e w5 ⟨v5, v6, rfl, own5, own6, hb5⟩
          obtain ⟨ao5, cap5, rfl, a5⟩ := OwnJ.at own5
          obtain ⟨ao6, cap6, rfl, a6⟩ := OwnC.at cellsG_len own6
          have e3 := (HX4.out.below hb5).c3
          have hle5 := a5.le
          have hmx5 := a5.max
          unfold maxLen at hmx5
          have HS : Aside (Calls Tryz.prog 132 #[.int .i64 ((P.pids x.bks).length : Nat), .int .i64 (x.s.bs.length : Nat), .slice ao6 (P.pedg x.s x.bks 0 x.bks).length cap6] w5 fun e w' => ∃ c : Nat, e = .returned (.int .i64 c) ∧ Ma.MaxM (P.pedg x.s x.bks 0 x.bks) c ∧ Below w5.heap.size w5 w') := Ma.size_any ao6 cap6 (P.pedg x.s x.bks 0 x.bks) _ _ w5 a6 HG.out
          have HRO : Aside (∀ (c : Nat) (r : Int), Ma.MaxM (P.pedg x.s x.bks 0 x.bks) c → (r = if c < (P.pids x.bks).length then 9 else 0) → P.Room x r) := fun c r h1 h2 => .inr (.inr ⟨HT.out, HM1.out, c, h1, h2⟩)
          clear d0 d1 d2 d3 d4 d5 d6 d7 d8 d9 d10 d11 d12 own5 own6 a5 a6 HG HSLL HMM hM
          generalize P.pedg x.s x.bks 0 x.bks = E at HS HRO
          generalize P.pids x.bks = I0 at HS HRO hle5
          go_wp2_with fail
          refine HS.out.mono ?_
          rintro e w6 ⟨c, rfl, hmax, hb6⟩
          have hBf := bvia hB4 (bvia hb5 hb6)
          by_cases hc : c < I0.length
          · have HR9 : Aside (P.Room x 9) := HRO.out c 9 hmax (by rw [if_pos hc])
            clear hmax HRO HS
            go_wp2
            go_ret
            exact ⟨_, rfl, HR9.out, hBf⟩
          · have HR0 : Aside (P.Room x 0) := HRO.out c 0 hmax (by rw [if_neg hc])
            clear hmax HRO HS
            go_wp2
            go_ret
            exact ⟨_, rfl, HR0.out, hBf⟩

end Go.Proofs.YtlamhfbdeinkkaeGreat.St
namespace Go.Proofs.YtlamhfbdeinkkaeGreat.St
open Go.RowKit Bk
set_option linter.unusedSimpArgs false
set_option linter.unusedVariables false
set_option maxRecDepth 10000

/-- H1. -/
def P.SailE (x : Sail) (r : Int) : Prop := (¬ P.pre x = 0 ∧ r = P.pre x) ∨ (P.pre x = 0 ∧ ∃ q, P.Room x q ∧ r = if q = 8 then 2 else q)
theorem SailE.one {x : Sail} {r r' : Int} (h : P.SailE x r) (h' : P.SailE x r') : r = r' := by
  rcases h with ⟨a, rfl⟩ | ⟨a, q, hq, rfl⟩ <;> rcases h' with ⟨a', rfl⟩ | ⟨a', q', hq', rfl⟩
  · rfl
  · exact absurd a' a
  · exact absurd a a'
  · rw [Room.one hq hq']
theorem frame_zero {x : Sail} (h : P.frame x = 0) : P.shp x.s = 0 ∧ P.fareS x = 0 ∧ P.btw x.day 0 9999 = true ∧ P.btw x.lvs 0 9999 = true ∧ x.bks.length ≤ 16 := by
  unfold P.frame at h
  split at h
  · split at h
    · split at h
      · rename_i h1 h2 h3
        obtain ⟨h4, h5⟩ := Bool.and_eq_true_iff.1 h3
        split at h
        · omega
        · exact ⟨h1, h2, h4, h5, by omega⟩
      · omega
    · contradiction
  · contradiction
theorem pre_bks {x : Sail} (h : P.frame x = 0) (h1 : ¬ P.bksI x.s 0 x.bks = 0) : P.pre x = P.bksI x.s 0 x.bks := by rw [P.pre, if_pos h, if_neg h1]
theorem pre_cl {x : Sail} (h : P.frame x = 0) (h1 : P.bksI x.s 0 x.bks = 0) (h2 : x.bks.any (P.clB x) = true) : P.pre x = 4 := by rw [P.pre, if_pos h, if_pos h1, if_pos h2]
theorem pre_ok {x : Sail} (h : P.frame x = 0) (h1 : P.bksI x.s 0 x.bks = 0) (h2 : x.bks.any (P.clB x) = false) : P.pre x = 0 := by rw [P.pre, if_pos h, if_pos h1, if_neg (by simp [h2])]
theorem bksI_ok {s : Vsl} {p : Int} {l : List Bkg} (h : P.bksI s p l = 0) : ∀ b ∈ l, P.bkE s b = 0 := by
  induction l generalizing p with
  | nil => simp
  | cons b t ih =>
    rw [P.bksI] at h
    split at h
    · rename_i hb
      split at h
      · omega
      · intro y hy
        rcases List.mem_cons.1 hy with rfl | hy
        · exact hb
        · exact ih h y hy
    · contradiction
theorem bksI_bad {s : Vsl} {p : Int} {y : Bkg} {t : List Bkg} (h : ¬ P.bkE s y = 0) : P.bksI s p (y :: t) = P.bkE s y := by rw [P.bksI, if_neg h]
theorem bksI_low {s : Vsl} {p : Int} {y : Bkg} {t : List Bkg} (h : P.bkE s y = 0) (hp : y.id ≤ p) : P.bksI s p (y :: t) = 4 := by rw [P.bksI, if_pos h, if_pos hp]
theorem bksI_on {s : Vsl} {p : Int} {y : Bkg} {t : List Bkg} (h : P.bkE s y = 0) (hp : ¬ y.id ≤ p) : P.bksI s p (y :: t) = P.bksI s y.id t := by rw [P.bksI, if_pos h, if_neg hp]

set_option maxHeartbeats 4000000 in
theorem refSail_ok (x : Sail) (a : SailA) (w : World) (hs : SailAt w x a) (hf : P.frame x = 0) :
    Calls Tryz.prog 22 #[V.sail x a] w fun e w' => ∃ r, e = .returned (.int .i64 r) ∧ P.SailE x r ∧ Below w.heap.size w w' := by
  have hle := hs.bks.le
  have hmx := hs.bks.max
  unfold maxLen at hmx
  obtain ⟨h0, h1, hd, hv, h16⟩ := frame_zero hf
  have HF : Aside (P.frame x = 0) := hf
  have H0 : Aside (P.shp x.s = 0) := h0
  have H1 : Aside (P.fareS x = 0) := h1
  have hm : ¬ (16 : Int) < x.bks.length := by omega
  have hsx := SBox.new w x a
  have hsb := sail_below w x a
  clear hf h0 h1
  go_enter Tryz.func22, Tryz.ntmps22
  go_wp2_with fail
  refine (refShp_any x.s a.v _ (hs.below hsb).ship).mono ?_
  rintro e w1 ⟨rfl, hb1⟩
  have hB1 := bvia hsb hb1
  obtain ⟨d0, d1, d2, d3, d4, d5, d6, d7, d8, d9, d10, d11, d12⟩ := hsx.below hb1
  rw [H0.out]
  go_wp2_with fail
  refine (fareS_any x a _ (hs.below hB1)).mono ?_
  rintro e w2 ⟨rfl, hb2⟩
  have hB2 := bvia hB1 hb2
  clear d0 d1 d2 d3 d4 d5 d6 d7 d8 d9 d10 d11 d12
  have HX2 : Aside (SBox w2 w.heap.size x a) := (hsx.below hb1).below hb2
  obtain ⟨d0, d1, d2, d3, d4, d5, d6, d7, d8, d9, d10, d11, d12⟩ := HX2.out
  rw [H1.out]
  go_wp2_with (go_at_call 74; refine (between_any _ _ _ _).mono ?_; rintro e wb ⟨rfl, rfl⟩; first | rw [hd] | rw [hv])
  clear d0 d1 d2 d3 d4 d5 d6 d7 d8 d9 d10 d11 d12 hb1 hb2 hB1 hsx hsb
  go_loopg [3, 4] x.bks.length (fun g ev iv wr => ∃ (k : Nat) (c : Int), k ≤ x.bks.length ∧ g = x.bks.length - k ∧ iv = .int .i64 k ∧ ev = .int .i64 c ∧ ((c = 0 ∧ ∃ p : Int, Aside (P.bksI x.s p (x.bks.drop k) = P.bksI x.s 0 x.bks) ∧ (k = 0 → p = 0) ∧ ∀ j y, k = j + 1 → x.bks.drop j = y :: x.bks.drop (j + 1) → p = y.id) ∨ (¬ c = 0 ∧ Aside (c = P.bksI x.s 0 x.bks))) ∧ SBox wr w.heap.size x a ∧ Below w.heap.size w wr)
  case atStart => exact ⟨0, 0, Nat.zero_le _, rfl, rfl, rfl, .inl ⟨rfl, 0, rfl, fun _ => rfl, fun j y h => by omega⟩, HX2.out, hB2⟩
  case round =>
    clear HX2 hB2
    obtain ⟨k, c, hk, rfl, rfl, rfl, hP, hbx, hB⟩ := hrel
    have HBX : Aside (SBox wr w.heap.size x a) := hbx
    have d11 := hbx.c11
    clear hbx
    rcases hP with ⟨rfl, p, HP, hp0, hp1⟩ | ⟨hc, HC⟩
    rotate_left
    · have hc1 : (c == 0) = false := by simpa using hc
      have hc2 : (c != 0) = true := by simpa using hc
      have HE : Aside (P.SailE x c) := .inl (by
        have h1 : c = P.bksI x.s 0 x.bks := HC
        have h2 : ¬ P.bksI x.s 0 x.bks = 0 := by rw [← h1]; exact hc
        rw [pre_bks HF.out h2]
        exact ⟨h2, h1⟩)
      clear hc HC
      by_cases hlt : (k : Int) < x.bks.length
      all_goals
        go_wp2
        go_ret
        exact ⟨_, rfl, HE.out, hB⟩
    by_cases hlt : k < x.bks.length
    · obtain ⟨b, off, y, fo, fc, hao, hbw, hd2, hy, hfy⟩ := BksAt.get hs.bks hB k hlt
      have HP2 : Aside (P.bksI x.s p (y :: x.bks.drop (k + 1)) = P.bksI x.s 0 x.bks) := by
        have h : P.bksI x.s p (x.bks.drop k) = P.bksI x.s 0 x.bks := HP
        rw [hd2] at h
        exact h
      have HD : Aside (x.bks.drop k = y :: x.bks.drop (k + 1)) := hd2
      have HNX : Aside (∀ j z, k + 1 = j + 1 → x.bks.drop j = z :: x.bks.drop (j + 1) → y.id = z.id) := fun j z h1 h2 => by
        obtain rfl : k = j := by omega
        rw [hd2] at h2
        simp only [List.cons.injEq] at h2
        rw [h2.1]
      have HAO : Aside (a.ao = some ⟨b, off, none⟩) := hao
      rw [hao] at d11
      have HC : Aside (∀ W : World, Below wr.heap.size wr W → Calls Tryz.prog 75 #[V.vsl x.s a.v, V.bk y fo fc] W fun e w' => e = .returned (.int .i64 (P.bkE x.s y)) ∧ Below W.heap.size W w') := fun W hW => refBk_any x.s a.v y fo fc W (hs.below (bvia hB hW)).ship (SlAt.below Fo.REnt.mono hfy hW) H0.out
      have hkl : (k : Int) < x.bks.length := by omega
      have r0 := cell_regrown hy.c0
      have r1 := cell_regrown hy.c1
      have r2 := cell_regrown hy.c2
      have r3 := cell_regrown hy.c3
      have r4 := cell_regrown hy.c4
      have r5 := cell_regrown hy.c5
      have r6 := cell_regrown hy.c6
      have r7 := cell_regrown hy.c7
      have r8 := cell_regrown hy.c8
      have r9 := cell_regrown hy.c9
      have r10 := cell_regrown hy.c10
      have t0 := cell_regrown HBX.out.c0
      have t1 := cell_regrown HBX.out.c1
      have t2 := cell_regrown HBX.out.c2
      have t3 := cell_regrown HBX.out.c3
      have t11 := cell_regrown d11
      clear hd2 hao HP hfy
      go_wp2
      refine wp_region_quiet_below (by kernel_rfl) (by kernel_rfl) (Qt.out ?_)
      repeat (refine Qt.step (fun K hK => ?_); go_simp; first | (refine hK _ ?_; clear hK K) | (apply Exists.intro; refine ⟨fun _ => ?_, hK _ ?_⟩; (go_at_call 75; exact Calls.regrown_of (v := .int .i64 (P.bkE x.s y)) (HC.out _ (below_regrown _ _ _))); clear hK K))
      refine Qt.fin ?_
      intro w2 hw2
      obtain ⟨⟨dq, osq⟩, hw2⟩ := hw2
      have hb2 := below_regrown wr dq osq
      rw [← hw2] at hb2
      have hB2 := bvia hB hb2
      have HX2 : Aside (SBox w2 w.heap.size x a) := HBX.out.below hb2
      have e11 := cellIn hb2 d11
      have e0 := cellIn hb2 hy.c0
      clear hw2 r0 r1 r2 r3 r4 r5 r6 r7 r8 r9 r10 t0 t1 t2 t3 t11 HC d11 hy
      have t11 := cell_regrown e11
      have r0 := cell_regrown e0
      cases he : (P.bkE x.s y != 0)
      rotate_left
      · have he1 : (P.bkE x.s y == 0) = false := by simpa using he
        have HE : Aside (¬ P.bkE x.s y = 0 ∧ P.bkE x.s y = P.bksI x.s 0 x.bks) := ⟨by simpa using he, by rw [← HP2.out, bksI_bad (by simpa using he)]⟩
        go_wp2
        refine wp_region_quiet_below (by kernel_rfl) (by kernel_rfl) (Qt.out ?_)
        repeat (refine Qt.step (fun K hK => ?_); go_simp; first | (refine hK _ ?_; clear hK K) | fail)
        refine Qt.fin ?_
        intro w3 hw3
        obtain ⟨⟨dq3, osq3⟩, hw3⟩ := hw3
        have hb3 := below_regrown w2 dq3 osq3
        rw [← hw3] at hb3
        clear hw3
        go_wp2
        go_roundg (x.bks.length - (k + 1))
        case measure => omega
        case rel => exact ⟨k + 1, P.bkE x.s y, by omega, rfl, by go_num, rfl, .inr ⟨HE.out.1, HE.out.2⟩, HX2.out.below hb3, bvia hB2 hb3⟩
      have hez : P.bkE x.s y = 0 := by simpa using he
      have HEZ : Aside (P.bkE x.s y = 0) := hez
      rw [hez]
      clear hez he
      rcases Nat.eq_zero_or_pos k with hk0 | hk0
      · have hd0 : decide ((0 : Int) < (k : Int)) = false := by simp; omega
        have hn0 : ¬ 0 < k := by omega
        have HN : Aside (P.bksI x.s y.id (x.bks.drop (k + 1)) = P.bksI x.s 0 x.bks) := by
          have h := HP2.out
          have hid := (bk_ok HEZ.out).2.2.2.1
          rw [hp0 hk0] at h
          rw [bksI_on HEZ.out (by omega)] at h
          exact h
        have HK0 : Aside (k = 0) := hk0
        clear hk0
        go_wp2
        refine wp_region_quiet_below (by kernel_rfl) (by kernel_rfl) (Qt.out ?_)
        repeat (refine Qt.step (fun K hK => ?_); go_simp; first | (refine hK _ ?_; clear hK K) | fail)
        refine Qt.fin ?_
        intro w3 hw3
        obtain ⟨⟨dq3, osq3⟩, hw3⟩ := hw3
        have hb3 := below_regrown w2 dq3 osq3
        rw [← hw3] at hb3
        clear hw3
        go_wp2
        go_roundg (x.bks.length - (k + 1))
        case measure => omega
        case rel => exact ⟨k + 1, 0, by omega, rfl, by go_num, rfl, .inl ⟨rfl, y.id, HN, fun h => by omega, HNX.out⟩, HX2.out.below hb3, bvia hB2 hb3⟩
      · obtain ⟨j, hj⟩ : ∃ j, k = j + 1 := ⟨k - 1, by omega⟩
        subst hj
        obtain ⟨b', off', z, fo', fc', hao', _, hdz, hz, _⟩ := BksAt.get hs.bks hB2 j (by omega)
        have hbb : b' = b ∧ off' = off := by
          rw [HAO.out] at hao'
          simp at hao'
          exact ⟨hao'.1.symm, hao'.2.symm⟩
        obtain ⟨rfl, rfl⟩ := hbb
        have HPZ : Aside (p = z.id) := hp1 j z rfl hdz
        have q0 := cell_regrown hz.c0
        have hjl : (j : Int) < x.bks.length := by omega
        have hj0 : (0 : Int) ≤ (j : Int) := by omega
        have hj1 : (j : Int) + 1 < x.bks.length := by omega
        have hj2 : (0 : Int) ≤ (j : Int) + 1 := by omega
        have hj3 : ((j : Int) + 1).toNat = j + 1 := by omega
        have hwj : IntKind.i64.wrap (j : Int) = j := by rw [IntKind.wrap_i64]; omega
        clear hdz hao' hz hp0 hp1
        by_cases hyz : y.id ≤ z.id
        · have HN : Aside ((4 : Int) = P.bksI x.s 0 x.bks) := by
            have h := HP2.out
            rw [bksI_low HEZ.out (by rw [HPZ.out]; exact hyz)] at h
            exact h
          go_wp2
          refine wp_region_quiet_below (by kernel_rfl) (by kernel_rfl) (Qt.out ?_)
          repeat (refine Qt.step (fun K hK => ?_); go_simp; first | (refine hK _ ?_; clear hK K) | fail)
          refine Qt.fin ?_
          intro w3 hw3
          obtain ⟨⟨dq3, osq3⟩, hw3⟩ := hw3
          have hb3 := below_regrown w2 dq3 osq3
          rw [← hw3] at hb3
          clear hw3
          go_wp2
          go_roundg (x.bks.length - (j + 1 + 1))
          case measure => omega
          case rel => exact ⟨j + 1 + 1, 4, by omega, rfl, by go_num, rfl, .inr ⟨by decide, HN⟩, HX2.out.below hb3, bvia hB2 hb3⟩
        · have HN : Aside (P.bksI x.s y.id (x.bks.drop (j + 1 + 1)) = P.bksI x.s 0 x.bks) := by
            have h := HP2.out
            rw [bksI_on HEZ.out (by rw [HPZ.out]; exact hyz)] at h
            exact h
          have hdy : decide (y.id ≤ z.id) = false := by simpa using hyz
          go_wp2
          refine wp_region_quiet_below (by kernel_rfl) (by kernel_rfl) (Qt.out ?_)
          repeat (refine Qt.step (fun K hK => ?_); go_simp; first | (refine hK _ ?_; clear hK K) | fail)
          refine Qt.fin ?_
          intro w3 hw3
          obtain ⟨⟨dq3, osq3⟩, hw3⟩ := hw3
          have hb3 := below_regrown w2 dq3 osq3
          rw [← hw3] at hb3
          clear hw3
          go_wp2
          go_roundg (x.bks.length - (j + 1 + 1))
          case measure => omega
          case rel => exact ⟨j + 1 + 1, 0, by omega, rfl, by go_num, rfl, .inl ⟨rfl, y.id, HN, fun h => by omega, HNX.out⟩, HX2.out.below hb3, bvia hB2 hb3⟩
    · obtain rfl : k = x.bks.length := by omega
      have HZ : Aside (P.bksI x.s 0 x.bks = 0) := by
        have h : P.bksI x.s p (x.bks.drop x.bks.length) = P.bksI x.s 0 x.bks := HP
        rw [List.drop_of_length_le (Nat.le_refl _), P.bksI] at h
        exact h.symm
      have HBK : Aside (∀ b ∈ x.bks, P.bkE x.s b = 0) := bksI_ok HZ.out
      clear HP hp0 hp1
      go_wp2
      go_loopg [5] x.bks.length (fun g iv wx => ∃ (k : Nat), k ≤ x.bks.length ∧ g = x.bks.length - k ∧ iv = .int .i64 k ∧ Aside ((x.bks.drop k).any (P.clB x) = x.bks.any (P.clB x)) ∧ SBox wx w.heap.size x a ∧ Below w.heap.size w wx)
      case atStart => exact ⟨0, Nat.zero_le _, rfl, rfl, rfl, HBX.out, hB⟩
      case round =>
        clear HBX d11 hB
        obtain ⟨k, hk2, rfl, rfl, HP, hbx, hB⟩ := hrel
        have HBX : Aside (SBox wr w.heap.size x a) := hbx
        by_cases hlt2 : k < x.bks.length
        · obtain ⟨b, off, y, fo, fc, hao, hbw, hd2, hy, hfy⟩ := BksAt.get hs.bks hB k hlt2
          have HP2 : Aside ((P.clB x y || (x.bks.drop (k + 1)).any (P.clB x)) = x.bks.any (P.clB x)) := by
            have h : (x.bks.drop k).any (P.clB x) = x.bks.any (P.clB x) := HP
            rw [hd2, List.any_cons] at h
            exact h
          have d11 := hbx.c11
          rw [hao] at d11
          have d12 := hbx.c12
          obtain ⟨y0, y1, y2, y3, y4, y5, y6, y7, y8, y9, y10⟩ := hy
          have hbl : b < wr.heap.size := World.block_lt_of_cell? wr _ y0
          have hkl : (k : Int) < x.bks.length := by omega
          have hwl : w.heap.size < wr.heap.size := HBX.out.lt
          clear hd2 hao hbx HP hfy
          cases h1 : (y.kind == 2)
          · have HP3 : Aside ((x.bks.drop (k + 1)).any (P.clB x) = x.bks.any (P.clB x)) := by have := HP2.out; rw [show P.clB x y = false by (simp at h1; simp [P.clB, h1])] at this; exact this
            clear HP2
            go_wp2
            go_roundg (x.bks.length - (k + 1))
            case measure => omega
            case rel => exact ⟨k + 1, by omega, rfl, by go_num, HP3, HBX.out.below (by go_grown), bvia hB (by go_grown)⟩
          cases h2 : (y.state != 3)
          · have HP3 : Aside ((x.bks.drop (k + 1)).any (P.clB x) = x.bks.any (P.clB x)) := by have := HP2.out; rw [show P.clB x y = false by (simp at h2; simp [P.clB, P.live, h2])] at this; exact this
            clear HP2
            go_wp2
            go_roundg (x.bks.length - (k + 1))
            case measure => omega
            case rel => exact ⟨k + 1, by omega, rfl, by go_num, HP3, HBX.out.below (by go_grown), bvia hB (by go_grown)⟩
          rcases Bool.eq_false_or_eq_true x.cl with hcl | hcl
          · rw [hcl] at d12
            have HCL : Aside (x.cl = true) := hcl
            clear hcl
            by_cases h3 : y.cabin < 0
            · have HE4 : Aside (P.SailE x 4) := .inl (by
                have h : x.bks.any (P.clB x) = true := by rw [← HP2.out, show P.clB x y = true by (simp at h1 h2; simp [P.clB, P.live, h1, h2, HCL.out, h3])]; rfl
                rw [pre_cl HF.out HZ.out h]
                exact ⟨by decide, rfl⟩)
              clear HP2
              go_wp2
              go_ret
              exact ⟨_, rfl, HE4.out, bvia hB (by go_grown)⟩
            · have h3' : 0 ≤ y.cabin := by omega
              have HP3 : Aside ((x.bks.drop (k + 1)).any (P.clB x) = x.bks.any (P.clB x)) := by have := HP2.out; rw [show P.clB x y = false by (have := HCL.out; simp [P.clB, HCL.out]; intros; omega)] at this; exact this
              clear HP2
              go_wp2
              go_roundg (x.bks.length - (k + 1))
              case measure => omega
              case rel => exact ⟨k + 1, by omega, rfl, by go_num, HP3, HBX.out.below (by go_grown), bvia hB (by go_grown)⟩
          · rw [hcl] at d12
            have HCL : Aside (x.cl = false) := hcl
            clear hcl
            by_cases h3 : y.cabin < 0
            · have HP3 : Aside ((x.bks.drop (k + 1)).any (P.clB x) = x.bks.any (P.clB x)) := by have := HP2.out; rw [show P.clB x y = false by (simp [P.clB, HCL.out]; intros; omega)] at this; exact this
              clear HP2
              go_wp2
              go_roundg (x.bks.length - (k + 1))
              case measure => omega
              case rel => exact ⟨k + 1, by omega, rfl, by go_num, HP3, HBX.out.below (by go_grown), bvia hB (by go_grown)⟩
            · have h3' : 0 ≤ y.cabin := by omega
              have HE4 : Aside (P.SailE x 4) := .inl (by
                have h : x.bks.any (P.clB x) = true := by rw [← HP2.out, show P.clB x y = true by (simp at h1 h2; simp [P.clB, P.live, h1, h2, HCL.out, h3'])]; rfl
                rw [pre_cl HF.out HZ.out h]
                exact ⟨by decide, rfl⟩)
              clear HP2
              go_wp2
              go_ret
              exact ⟨_, rfl, HE4.out, bvia hB (by go_grown)⟩
        · obtain rfl : k = x.bks.length := by omega
          have HP0 : Aside (P.pre x = 0) := by
            have h : (x.bks.drop x.bks.length).any (P.clB x) = x.bks.any (P.clB x) := HP
            rw [List.drop_of_length_le (Nat.le_refl _)] at h
            exact pre_ok HF.out HZ.out h.symm
          obtain ⟨d0, d1, d2, d3, d4, d5, d6, d7, d8, d9, d10, d11, d12⟩ := hbx
          clear HP
          go_wp2_with fail
          refine (roomOf_any x a _ (hs.below hB) H0.out HBK.out h16).mono ?_
          rintro e w5 ⟨r, rfl, hr, hb5⟩
          have hB5 := bvia hB hb5
          clear d0 d1 d2 d3 d4 d5 d6 d7 d8 d9 d10 d11 d12
          cases h8 : (r == 8)
          · have HE : Aside (P.SailE x r) := .inr ⟨HP0.out, r, hr, by rw [if_neg (by simpa using h8)]⟩
            clear hr
            go_wp2
            go_ret
            exact ⟨_, rfl, HE.out, hB5⟩
          · have HE : Aside (P.SailE x 2) := .inr ⟨HP0.out, r, hr, by rw [if_pos (by simpa using h8)]⟩
            clear hr
            go_wp2
            go_ret
            exact ⟨_, rfl, HE.out, hB5⟩

end Go.Proofs.YtlamhfbdeinkkaeGreat.St
