/- The reference: RoomOf. -/
import Derived.Test.YtlamhfbdeinkkaeGreatStCp
import Derived.Test.YtlamhfbdeinkkaeGreatBoDp
import Derived.Test.YtlamhfbdeinkkaeGreatMaFp
import Derived.Deep.RegionHeld3
namespace Go.Proofs.YtlamhfbdeinkkaeGreat.St
open Go.RowKit Bk
set_option linter.unusedSimpArgs false
set_option linter.unusedVariables false
set_option maxRecDepth 10000

theorem gr_of {n m : Int} {l seen : List (Int × Int)} (h : ∀ x ∈ l, 0 ≤ x.1 ∧ x.1 < n ∧ 0 ≤ x.2 ∧ x.2 < m) (hd : l.Nodup) (hs : ∀ x ∈ l, ¬ x ∈ seen) : Ma.P.gr n m seen l = 0 := by
  induction l generalizing seen with
  | nil => rfl
  | cons y l ih =>
    rw [Ma.P.gr, if_pos (Ma.inE_iff.2 (h y (by simp))), if_neg (fun e => hs y (by simp) ((Ma.hasEdge_iff _ _).1 e))]
    refine ih (fun x hx => h x (by simp [hx])) (List.nodup_cons.1 hd).2 (fun x hx hm => ?_)
    rcases List.mem_append.1 hm with h1 | h1
    · exact hs x (by simp [hx]) h1
    · simp at h1
      subst h1
      exact (List.nodup_cons.1 hd).1 hx
theorem graph_of {n m : Int} {l : List (Int × Int)} (h1 : 0 ≤ n ∧ n ≤ 16) (h2 : 0 ≤ m ∧ m ≤ 16) (h : ∀ x ∈ l, 0 ≤ x.1 ∧ x.1 < n ∧ 0 ≤ x.2 ∧ x.2 < m) (hd : l.Nodup) : Ma.P.graphE n m l = 0 := by
  rw [Ma.P.graphE, if_pos (by simp [P.btw]; omega)]
  exact gr_of h hd (by simp)
theorem edgs_mem {s : Vsl} {l : List Bkg} {i : Nat} {b : Bkg} {n : Nat} {x : Int × Int} (h : x ∈ P.edgs s l i b n) : x.1 = i ∧ 0 ≤ x.2 ∧ x.2 < n := by
  obtain ⟨c, hc, rfl⟩ := List.mem_map.1 h
  have := List.mem_range.1 (List.mem_filter.1 hc).1
  exact ⟨rfl, by simp, by simpa using this⟩
theorem edgs_nodup (s : Vsl) (l : List Bkg) (i : Nat) (b : Bkg) (n : Nat) : (P.edgs s l i b n).Nodup := by
  induction n with
  | zero => simp [P.edgs]
  | succ n ih =>
    rw [edgs_on]
    refine List.nodup_append.2 ⟨ih, by split <;> simp, fun x hx y hy e => ?_⟩
    subst e
    have h1 := edgs_mem hx
    split at hy
    · simp at hy
      rw [hy] at h1
      simp at h1
    · simp at hy
theorem pedg_mem {s : Vsl} {l m : List Bkg} {i : Nat} {x : Int × Int} (h : x ∈ P.pedg s l i m) : (i : Int) ≤ x.1 ∧ x.1 < i + (m.filter P.opn).length ∧ 0 ≤ x.2 ∧ x.2 < s.bs.length := by
  induction m generalizing i with
  | nil => simp [P.pedg] at h
  | cons b t ih =>
    rw [P.pedg] at h
    rw [List.filter_cons]
    split at h
    · rename_i ho
      rw [if_pos ho, List.length_cons]
      rcases List.mem_append.1 h with h1 | h1
      · have := edgs_mem h1
        omega
      · have := ih h1
        omega
    · rename_i ho
      rw [if_neg ho]
      exact ih h
theorem pedg_nodup (s : Vsl) (l m : List Bkg) (i : Nat) : (P.pedg s l i m).Nodup := by
  induction m generalizing i with
  | nil => simp [P.pedg]
  | cons b t ih =>
    rw [P.pedg]
    split
    · refine List.nodup_append.2 ⟨edgs_nodup .., ih _, fun x hx y hy e => ?_⟩
      subst e
      have h1 := edgs_mem hx
      have h2 := pedg_mem hy
      omega
    · exact ih _
theorem pedg_graph {s : Vsl} {l : List Bkg} (h16 : l.length ≤ 16) (h12 : s.bs.length ≤ 12) : Ma.P.graphE ((P.pids l).length : Nat) (s.bs.length : Nat) (P.pedg s l 0 l) = 0 := by
  have hl : (P.pids l).length ≤ 16 := by
    rw [pids_len]
    have := List.length_filter_le P.opn l
    omega
  refine graph_of (by omega) (by omega) (fun x hx => ?_) (pedg_nodup ..)
  have := pedg_mem hx
  rw [pids_len]
  omega

/-- H1: of bookings that are right, together. -/
def P.twice (x : Sail) : Bool := (List.range x.s.bs.length).any fun c => !P.addsB x.s.legs (P.mine (c : Nat) x.bks)
def P.many (x : Sail) : Bool := decide (x.s.souls < P.mst 0 (P.soulsL x.s.legs.toNat x.bks))
def P.Room (x : Sail) (r : Int) : Prop :=
  (P.twice x = true ∧ r = 6) ∨ (P.twice x = false ∧ P.many x = true ∧ r = 8) ∨
  (P.twice x = false ∧ P.many x = false ∧ ∃ c, Ma.MaxM (P.pedg x.s x.bks 0 x.bks) c ∧ r = if c < (P.pids x.bks).length then 9 else 0)
theorem Room.one {x : Sail} {r r' : Int} (h : P.Room x r) (h' : P.Room x r') : r = r' := by
  rcases h with ⟨a, rfl⟩ | ⟨a, b, rfl⟩ | ⟨a, b, c, hc, rfl⟩ <;> rcases h' with ⟨a', rfl⟩ | ⟨a', b', rfl⟩ | ⟨a', b', c', hc', rfl⟩ <;> simp_all
  rw [Ma.MaxM.one hc hc']
theorem twice_hit {x : Sail} {c : Nat} (hc : c < x.s.bs.length) (h : P.addsB x.s.legs (P.mine c x.bks) = false) : P.twice x = true := by
  rw [P.twice, List.any_eq_true]
  exact ⟨c, List.mem_range.2 hc, by simp [h]⟩
theorem twice_none {x : Sail} (h : ∀ c, c < x.s.bs.length → P.addsB x.s.legs (P.mine (c : Nat) x.bks) = true) : P.twice x = false := by
  rw [P.twice, List.any_eq_false]
  intro c hc
  have := h c (List.mem_range.1 hc)
  simp at this
  simp [this]

set_option maxHeartbeats 2000000 in
theorem roomOf_any (x : Sail) (a : SailA) (w : World) (hs : SailAt w x a) (h0 : P.shp x.s = 0) (hbk : ∀ b ∈ x.bks, P.bkE x.s b = 0) (h16 : x.bks.length ≤ 16) :
    Calls Tryz.prog 76 #[V.sail x a] w fun e w' => ∃ r, e = .returned (.int .i64 r) ∧ P.Room x r ∧ Below w.heap.size w w' := by
  obtain ⟨hl1, hl7, _, _, _, _, _, hbs⟩ := shp_size h0
  have hle := hs.bks.le
  have hmx := hs.bks.max
  unfold maxLen at hmx
  obtain ⟨n, hn⟩ : ∃ n : Nat, x.s.legs = n := ⟨x.s.legs.toNat, by omega⟩
  have hn7 : n ≤ 7 := by omega
  have HNL : Aside (x.s.legs = n) := hn
  have HTN : Aside (x.s.legs.toNat = n) := by show _ = _; rw [hn]; simp
  have HSL : Aside (P.sails x.s.legs = true) := by show _ = _; simp [P.sails]; omega
  have HBK : Aside (∀ b ∈ x.bks, P.bkE x.s b = 0) := hbk
  have HCH : Aside (∀ b ∈ x.bks, P.chk b.frm b.to x.s.legs = 0) := fun b hb => (bk_ok (hbk b hb)).1
  have H0 : Aside (P.shp x.s = 0) := h0
  have hsx := SBox.new w x a
  clear hbk h0 hl1 hl7 hn
  go_enter Tryz.func76, Tryz.ntmps76
  go_wp2
  go_loopg [3] x.s.bs.length (fun g i wr => ∃ (c : Nat), c ≤ x.s.bs.length ∧ g = x.s.bs.length - c ∧ i = .int .i64 c ∧ Aside (∀ d, d < c → P.addsB x.s.legs (P.mine (d : Nat) x.bks) = true) ∧ SBox wr w.heap.size x a ∧ Below w.heap.size w wr)
  case atStart => exact ⟨0, Nat.zero_le _, rfl, rfl, (fun d h => by omega), hsx, sail_below w x a⟩
  case round =>
    obtain ⟨c, hc, rfl, rfl, HA, hbx, hB⟩ := hrel
    have HBX : Aside (SBox wr w.heap.size x a) := hbx
    have c3 := hbx.c3
    have c11 := hbx.c11
    by_cases hlt : c < x.s.bs.length
    · clear hbx
      go_wp2_with fail
      refine (spansOf_any x.s.legs a.ao a.cap x.bks c _ (SlAt.below RBk.mono hs.bks hB) HSL.out HCH.out).mono ?_
      rintro e w2 ⟨v2, rfl, own2, hb2⟩
      obtain ⟨a2, c2, n2, hv2⟩ : ∃ a2 n2 c2, v2 = .slice a2 n2 c2 := by obtain ⟨a2, c2, hv, -⟩ := Sp.Own.at own2; exact ⟨_, _, _, hv⟩
      rw [hv2]
      have hB2 := bvia hB hb2
      have HX2 : Aside (SBox w2 w.heap.size x a) := HBX.out.below hb2
      clear own2 hv2 hB hb2 HBX c3 c11
      cases had : P.addsB x.s.legs (P.mine c x.bks)
      · have HT : Aside (P.twice x = true) := twice_hit hlt had
        go_wp2
        go_ret
        exact ⟨_, rfl, .inl ⟨HT.out, rfl⟩, hB2⟩
      · go_wp2
        go_roundg (x.s.bs.length - (c + 1))
        case measure => omega
        case rel => exact ⟨c + 1, by omega, rfl, by go_num, (fun d hd => by
          by_cases e : d = c
          · subst e; exact had
          · exact HA.out d (by omega)), HX2.out, hB2⟩
    · obtain rfl : c = x.s.bs.length := by omega
      have HT : Aside (P.twice x = false) := twice_none HA.out
      have HM : Aside (P.many x = decide (x.s.souls < P.mst 0 (P.soulsL n x.bks))) := by show _ = _; rw [P.many, HTN.out]
      have f0 := hbx.c0
      rw [HNL.out] at f0
      have f1 := hbx.c1
      have HG : Aside (Ma.P.graphE ((P.pids x.bks).length : Nat) (x.s.bs.length : Nat) (P.pedg x.s x.bks 0 x.bks) = 0) := pedg_graph h16 hbs
      obtain ⟨SL, hSL⟩ : ∃ SL, P.soulsL n x.bks = SL := ⟨_, rfl⟩
      have HSLL : Aside (P.soulsL n x.bks = SL) := hSL
      rw [hSL] at HM
      clear hSL hbx HA
      generalize hM : P.mst 0 SL = M at HM
      have HMM : Aside (P.mst 0 SL = M) := hM
      clear hM
      go_wp2_with fail
      go_region_held3 (fun u => u.cell? ⟨w.heap.size, 0, none⟩ = some (.int .i64 n) ∧ u.cell? ⟨w.heap.size, 1, none⟩ = some (.int .i64 x.s.souls) ∧ u.cell? ⟨w.heap.size, 11, none⟩ = some (.slice a.ao x.bks.length a.cap))
        (first
          | exact ⟨y0, y1, y11⟩
          | exact ⟨z0, z1, z11⟩
          | exact ⟨f0, f1, c11⟩
          | go_keep)
        (first
          | (go_at_call 130; refine (soulsOf_any x.s n a.ao a.cap x.bks _ (SlAt.below RBk.mono hs.bks (bvia hB (by go_grown))) (by omega) hn7 HNL.out HBK.out).mono ?_; rintro e w3 ⟨v3, rfl, own3, hb3⟩; rw [HSLL.out] at own3; obtain ⟨ao3, cap3, rfl, a3⟩ := Ma.OwnI.at own3; have z0 := cellIn hb3 f0; have z1 := cellIn hb3 f1; have z11 := cellIn hb3 c11)
          | (go_at_call 129; refine (most_any ao3 cap3 SL _ (SlAt.below RInt.mono a3 (by go_grown))).mono ?_; rintro e w4 ⟨rfl, hb4⟩; rw [HMM.out]; have y0 := cellIn hb4 z0; have y1 := cellIn hb4 z1; have y11 := cellIn hb4 z11))
      all_goals
        have hr4 : Below wr.heap.size wr w4 := bvia (bvia (by go_grown) hb3) hb4
        have hB4 : Below w.heap.size w w4 := bvia hB hr4
        have HX4 : Aside (SBox w4 w.heap.size x a) := HBX.out.below hr4
        clear a3 own3 z0 z1 z11 y0 y1 y11 f0 f1 c3 c11 hb3 hb4 hr4 HBX hB
        by_cases hM : x.s.souls < M
        · have HM1 : Aside (P.many x = true) := by show _ = _; rw [HM.out]; simpa using hM
          go_wp2
          go_ret
          exact ⟨_, rfl, .inr (.inl ⟨HT.out, HM1.out, rfl⟩), hB4⟩
        · have HM1 : Aside (P.many x = false) := by show _ = _; rw [HM.out]; simpa using hM
          obtain ⟨d0, d1, d2, d3, d4, d5, d6, d7, d8, d9, d10, d11, d12⟩ := HX4.out
          clear HM
          go_wp2_with fail
          rw [← HNL.out]
          refine (promisesOf_any x a _ (hs.below hB4) H0.out HBK.out h16).mono ?_
          rintro e w5 ⟨v5, v6, rfl, own5, own6, hb5⟩
          obtain ⟨ao5, cap5, rfl, a5⟩ := OwnJ.at own5
          obtain ⟨ao6, cap6, rfl, a6⟩ := OwnC.at cellsG_len own6
          have e3 := (HX4.out.below hb5).c3
          have hle5 := a5.le
          have hmx5 := a5.max
          unfold maxLen at hmx5
          have HS : Aside (Calls Tryz.prog 132 #[.int .i64 ((P.pids x.bks).length : Nat), .int .i64 (x.s.bs.length : Nat), .slice ao6 (P.pedg x.s x.bks 0 x.bks).length cap6] w5 fun e w' => ∃ c : Nat, e = .returned (.int .i64 c) ∧ Ma.MaxM (P.pedg x.s x.bks 0 x.bks) c ∧ Below w5.heap.size w5 w') := Ma.size_any ao6 cap6 (P.pedg x.s x.bks 0 x.bks) _ _ w5 a6 HG.out
          have HRO : Aside (∀ (c : Nat) (r : Int), Ma.MaxM (P.pedg x.s x.bks 0 x.bks) c → (r = if c < (P.pids x.bks).length then 9 else 0) → P.Room x r) := fun c r h1 h2 => .inr (.inr ⟨HT.out, HM1.out, c, h1, h2⟩)
          clear d0 d1 d2 d3 d4 d5 d6 d7 d8 d9 d10 d11 d12 own5 own6 a5 a6 HG HSLL HMM hM
          generalize P.pedg x.s x.bks 0 x.bks = E at HS HRO
          generalize P.pids x.bks = I0 at HS HRO hle5
          go_wp2_with fail
          refine HS.out.mono ?_
          rintro e w6 ⟨c, rfl, hmax, hb6⟩
          have hBf := bvia hB4 (bvia hb5 hb6)
          by_cases hc : c < I0.length
          · have HR9 : Aside (P.Room x 9) := HRO.out c 9 hmax (by rw [if_pos hc])
            clear hmax HRO HS
            go_wp2
            go_ret
            exact ⟨_, rfl, HR9.out, hBf⟩
          · have HR0 : Aside (P.Room x 0) := HRO.out c 0 hmax (by rw [if_neg hc])
            clear hmax HRO HS
            go_wp2
            go_ret
            exact ⟨_, rfl, HR0.out, hBf⟩

end Go.Proofs.YtlamhfbdeinkkaeGreat.St
