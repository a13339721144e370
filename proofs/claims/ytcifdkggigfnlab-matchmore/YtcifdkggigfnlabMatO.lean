/- Walks of pairs, matchBegun; of the laws MatchEither and MatchAlone. -/
import Derived.Test.YtcifdkggigfnlabMatN
namespace Go.Proofs.Ytcifdkggigfnlab
open Go.RowKit Go.Maps Go.WideMaps
set_option linter.unusedSimpArgs false
set_option linter.unusedVariables false

def P.pairs : List Edge := [(0, 1), (1, 1), (2, 0), (2, 1)]
def P.pairs2 : List Edge := [(0, 0), (0, 1), (1, 0)]

set_option maxHeartbeats 1000000 in
theorem pairs_any (w : World) :
    Calls Try.prog 43 #[] w fun e w' => ∃ ao cap, e = .returned (.slice ao 4 cap) ∧ EdgesAt w' ao cap P.pairs ∧ Below w.heap.size w w' := by
  go_enter Try.func43, Try.ntmps43
  go_wp2
  go_ret
  refine ⟨_, _, rfl, ?_, by go_grown⟩
  have hl := heap_fold [.cells #[.int .i64 0, .int .i64 1, .int .i64 1, .int .i64 1, .int .i64 2, .int .i64 0, .int .i64 2, .int .i64 1] 52] w 0
  exact SlAt.ofBlock [[.int .i64 0, .int .i64 1], [.int .i64 1, .int .i64 1], [.int .i64 2, .int .i64 0], [.int .i64 2, .int .i64 1]] (l := P.pairs) hl rfl rfl (fun i hi => by have hi : i < 4 := hi; match i, hi with | 0, _ => exact ⟨_, rfl, rfl⟩ | 1, _ => exact ⟨_, rfl, rfl⟩ | 2, _ => exact ⟨_, rfl, rfl⟩ | 3, _ => exact ⟨_, rfl, rfl⟩) (by simp) (by simp [maxLen, P.pairs])

theorem edges3 (w : World) : EdgesAt (w.alloc (.cells #[.int .i64 0, .int .i64 0, .int .i64 0, .int .i64 1, .int .i64 1, .int .i64 0] 52)) (some ⟨w.heap.size, 0, none⟩) 3 P.pairs2 := by
  have hl := heap_fold [.cells #[.int .i64 0, .int .i64 0, .int .i64 0, .int .i64 1, .int .i64 1, .int .i64 0] 52] w 0
  exact SlAt.ofBlock [[.int .i64 0, .int .i64 0], [.int .i64 0, .int .i64 1], [.int .i64 1, .int .i64 0]] (l := P.pairs2) hl rfl rfl (fun i hi => by have hi : i < 3 := hi; match i, hi with | 0, _ => exact ⟨_, rfl, rfl⟩ | 1, _ => exact ⟨_, rfl, rfl⟩ | 2, _ => exact ⟨_, rfl, rfl⟩) (by simp) (by simp [maxLen, P.pairs2])

theorem isM_right {l m : List Edge} {R : Nat} (hE : ∀ x ∈ l, 0 ≤ x.2 ∧ x.2 < (R : Int)) (h : IsM l m) : m.length ≤ R := by
  have hnd : (m.map (fun z => z.2)).Nodup := by
    rw [List.nodup_iff_pairwise_ne, List.pairwise_map]
    exact h.2.imp (fun h => h.2)
  have := pigeon R _ hnd (fun x hx => by
    obtain ⟨z, hz, rfl⟩ := List.mem_map.1 hx
    exact hE z (h.1 z hz))
  simpa using this
theorem pairs_max : MaxM P.pairs 2 := by
  refine ⟨⟨[(0, 1), (2, 0)], ⟨by decide, by simp⟩, rfl⟩, fun m hm => isM_right (R := 2) (by decide) hm⟩

theorem pairs_e : P.graphE 3 2 P.pairs = 0 := by decide
theorem pairs2_e : P.graphE 2 2 P.pairs2 = 0 := by decide

set_option maxHeartbeats 2000000 in
theorem matchBegun_any (w : World) :
    Calls Try.prog 21 #[] w fun e w' => e = .returned (.bool true) ∧ Below w.heap.size w w' := by
  go_enter Try.func21, Try.ntmps21
  go_wp2_with fail
  refine (pairs_any _).mono ?_
  rintro e w1 ⟨ao1, cap1, rfl, a1, hb1⟩
  go_wp2_with fail
  refine (most_any ao1 cap1 P.pairs 3 2 _ a1).mono ?_
  rintro e w2 ⟨v2, m2, rfl, own2, hb2, _, hok2⟩
  obtain ⟨ao2, cap2, rfl, a2⟩ := OwnE.at own2
  have hl2 : m2.length = 2 := (hok2 pairs_e).2.2.one pairs_max
  rw [pairs_e, hl2]
  clear hok2 own2 a1 a2
  go_wp2_with fail
  refine (pairs_any _).mono ?_
  rintro e w3 ⟨ao3, cap3, rfl, a3, hb3⟩
  go_wp2_with fail
  refine (lack_any ao3 cap3 P.pairs 3 2 _ a3).mono ?_
  rintro e w4 ⟨v4, k4, rfl, own4, hb4, _, hok4⟩
  obtain ⟨ao4, cap4, rfl, a4⟩ := OwnI.at own4
  have hl4 : 0 < k4.length := by
    rcases hok4 pairs_e with ⟨_, h⟩ | h
    · have := h.one pairs_max
      simp at this
    · obtain ⟨A, _, h2, _⟩ := h.few
      omega
  rw [pairs_e]
  clear hok4 own4 a3 a4
  have hl4' : decide ((0 : Int) < (k4.length : Int)) = true := by simp; omega
  go_wp2_with fail
  refine (lack_any _ 3 P.pairs2 2 2 _ (edges3 w4)).mono ?_
  rintro e w5 ⟨v5, k5, rfl, own5, hb5, _, hok5⟩
  obtain ⟨ao5, cap5, rfl, a5⟩ := OwnI.at own5
  have hl5 : k5 = [] := by
    rcases hok5 pairs2_e with ⟨h, _⟩ | h
    · exact h
    · exfalso
      have := lacks_max (m := [(0, 1), (1, 0)]) (by decide) h ⟨by decide, by simp⟩
      simp at this
  subst hl5
  rw [pairs2_e]
  clear hok5 own5 a5
  go_wp2_with fail
  refine (pairs_any _).mono ?_
  rintro e w6 ⟨ao6, cap6, rfl, a6, hb6⟩
  go_wp2_with fail
  refine (mCheck_any ao6 cap6 P.pairs 3 2 _ a6).mono ?_
  rintro e w7 ⟨rfl, hb7⟩
  rw [pairs_e]
  go_wp2
  go_ret
  exact ⟨by simp, bvia (bvia (bvia (bvia (bvia (bvia (bvia hb1 hb2) hb3) hb4) (by go_grown)) hb5) hb6) hb7⟩

theorem both_pair {m : List Edge} (h1 : m.Pairwise (fun a b => a.1 ≠ b.1 ∧ a.2 ≠ b.2)) (h2 : m.Pairwise (fun a b => a.1 < b.1)) : m.Pairwise (fun a b => a.1 < b.1 ∧ a.2 ≠ b.2) := by
  induction m with
  | nil => exact List.Pairwise.nil
  | cons a m ih =>
    obtain ⟨a1, b1⟩ := List.pairwise_cons.1 h1
    obtain ⟨a2, b2⟩ := List.pairwise_cons.1 h2
    exact List.pairwise_cons.2 ⟨fun x hx => ⟨a2 x hx, (a1 x hx).2⟩, ih b1 b2⟩

set_option maxHeartbeats 2000000 in
theorem matchEither_walk (n m : Int) (ao : Option Addr) (cap : Nat) (l : List Edge) (W : World) (hl : EdgesAt W ao cap l) :
    Calls Try.prog 7 #[.int .i64 n, .int .i64 m, .slice ao l.length cap] W fun e w' => e = .returned (.bool true) ∧ Below W.heap.size W w' := by
  go_enter Try.func7, Try.ntmps7
  go_wp2_with fail
  refine (most_any ao cap l n m _ hl).mono ?_
  rintro e w1 ⟨v1, k1, rfl, own1, hb1, hbad1, hok1⟩
  obtain ⟨ao1, cap1, rfl, a1⟩ := OwnE.at own1
  go_wp2_with fail
  refine (lack_any ao cap l n m _ (SlAt.below REdge.mono hl hb1)).mono ?_
  rintro e w2 ⟨v2, k2, rfl, own2, hb2, hbad2, hok2⟩
  obtain ⟨ao2, cap2, rfl, a2⟩ := OwnI.at own2
  have hB2 := bvia hb1 hb2
  clear own1 own2
  have HO : Aside ((P.graphE n m l = 0 → IsM l k1 ∧ k1.Pairwise (fun a b => a.1 < b.1) ∧ MaxM l k1.length) ∧ (P.graphE n m l = 0 → (k2 = [] ∧ MaxM l n.toNat) ∨ Lacks l n.toNat k2)) := ⟨hok1, hok2⟩
  clear hbad1 hbad2 hok1 hok2
  go_wp2_with fail
  refine (matchBegun_any _).mono ?_
  rintro e w3 ⟨rfl, hb3⟩
  have hB3 := bvia hB2 hb3
  have hB13 := bvia hb2 hb3
  cases hz : (P.graphE n m l != 0)
  · have hz0 : P.graphE n m l = 0 := by simpa using hz
    obtain ⟨n0, n16, m0, m16, hE, _⟩ := graphE_zero hz0
    obtain ⟨hM, hrise, hmax⟩ := HO.out.1 hz0
    have hk := HO.out.2 hz0
    have HP : Aside (k1.Pairwise (fun a b => a.1 < b.1 ∧ a.2 ≠ b.2)) := both_pair hM.2 hrise
    have HS : Aside (∀ x ∈ k1, x ∈ l) := hM.1
    have HE : Aside (∀ x ∈ l, 0 ≤ x.2 ∧ x.2 < 16) := fun x hx => by have := hE x hx; omega
    obtain ⟨N, rfl⟩ : ∃ N : Nat, n = N := ⟨n.toNat, by omega⟩
    simp only [Int.toNat_natCast] at hk
    by_cases hln : k1.length = N
    · have hk2 : k2 = [] := by
        rcases hk with ⟨h, _⟩ | h
        · exact h
        · have := lacks_max (fun x hx => ⟨(hE x hx).1, (hE x hx).2.1⟩) h hM
          omega
      subst hk2
      have hln' : ((k1.length : Int) == (N : Int)) = true := by rw [hln]; simp
      clear hz0 HO hM hrise hmax hk hE hln
      go_wp2_with (go_at_call 28; refine (isMatching_any _ _ _ _ l k1 _ (SlAt.below REdge.mono hl hB3) (SlAt.below REdge.mono a1 hB13) HS.out HP.out).mono ?_; rintro e w4 ⟨rfl, hb4⟩)
      go_ret
      exact ⟨rfl, bvia hB3 hb4⟩
    · have hln' : ((k1.length : Int) == (N : Int)) = false := by rw [beq_eq_false_iff_ne]; omega
      have hL : Lacks l N k2 := by
        rcases hk with ⟨_, h⟩ | h
        · exact absurd (hmax.one h) hln
        · exact h
      have hpos : 0 < k2.length := by obtain ⟨A, _, h2, _⟩ := hL.few; omega
      have hpos' : decide ((0 : Int) < (k2.length : Int)) = true := by simp; omega
      have HL : Aside (Lacks l N k2) := hL
      clear hz0 HO hM hrise hmax hk hE hL
      go_wp2_with (first
        | (go_at_call 24; refine (doLack_any _ _ _ _ l k2 N _ (by omega) (SlAt.below REdge.mono hl hB3) (SlAt.below RInt.mono a2 hb3) HE.out HL.out).mono ?_; rintro e w4 ⟨rfl, hb4⟩)
        | (go_at_call 28; refine (isMatching_any _ _ _ _ l k1 _ (SlAt.below REdge.mono hl (bvia hB3 hb4)) (SlAt.below REdge.mono a1 (bvia hB13 hb4)) HS.out HP.out).mono ?_; rintro e w5 ⟨rfl, hb5⟩))
      go_ret
      exact ⟨rfl, bvia (bvia hB3 hb4) hb5⟩
  · go_wp2
    go_ret
    exact ⟨rfl, hB3⟩

theorem graphE_mk {n m : Int} {l : List Edge} (hn : 0 ≤ n ∧ n ≤ 16) (hm : 0 ≤ m ∧ m ≤ 16) (hE : ∀ x ∈ l, 0 ≤ x.1 ∧ x.1 < n ∧ 0 ≤ x.2 ∧ x.2 < m) (hd : l.Nodup) : P.graphE n m l = 0 := by
  have key : ∀ (l seen : List Edge), (∀ x ∈ l, 0 ≤ x.1 ∧ x.1 < n ∧ 0 ≤ x.2 ∧ x.2 < m) → l.Nodup → (∀ x ∈ l, ¬ x ∈ seen) → P.gr n m seen l = 0 := by
    intro l
    induction l with
    | nil => intro seen _ _ _; rfl
    | cons y l ih =>
      intro seen h1 h2 h3
      obtain ⟨i1, i2⟩ := List.nodup_cons.1 h2
      have hno : P.hasEdge seen y ≠ true := fun h => h3 y (by simp) ((hasEdge_iff _ _).1 h)
      rw [P.gr, if_pos (inE_iff.2 (h1 y (by simp))), if_neg hno]
      refine ih _ (fun x hx => h1 x (by simp [hx])) i2 (fun x hx hm => ?_)
      rcases List.mem_append.1 hm with h | h
      · exact h3 x (by simp [hx]) h
      · simp at h; subst h; exact i1 hx
  have hb : (P.btw n 0 16 && P.btw m 0 16) = true := by simp [P.btw]; omega
  rw [P.graphE, if_pos hb]
  exact key l [] hE hd (by simp)

set_option maxHeartbeats 4000000 in
theorem matchAlone_walk (n m : Int) (ao : Option Addr) (cap : Nat) (l : List Edge) (W : World) (hl : EdgesAt W ao cap l) :
    Calls Try.prog 5 #[.int .i64 n, .int .i64 m, .slice ao l.length cap] W fun e w' => e = .returned (.bool true) ∧ Below W.heap.size W w' := by
  go_enter Try.func5, Try.ntmps5
  go_wp2_with fail
  refine (matchBegun_any _).mono ?_
  rintro e w0 ⟨rfl, hb0⟩
  go_wp2_with fail
  refine (most_any ao cap l n m _ (SlAt.below REdge.mono hl hb0)).mono ?_
  rintro e w1 ⟨v1, k1, rfl, own1, hb1, hbad1, hok1⟩
  obtain ⟨ao1, cap1, rfl, a1⟩ := OwnE.at own1
  have hB1 := bvia hb0 hb1
  clear own1
  by_cases hz : P.graphE n m l = 0
  · obtain ⟨n0, n16, m0, m16, hE, hnd⟩ := graphE_zero hz
    have hmax := (hok1 hz).2.2
    have HM : Aside (MaxM l k1.length) := hmax
    have HE : Aside ((∀ x ∈ l, 0 ≤ x.1 ∧ x.1 < n ∧ 0 ≤ x.2 ∧ x.2 < m) ∧ l.Nodup) := ⟨hE, hnd⟩
    rw [hz]
    clear hbad1 hok1 hz hE hnd hmax a1
    -- one more on the right
    have tail : ∀ (w2 : World), Below W.heap.size W w2 → ¬ m = 16 → P.graphE n (m + 1) l = 0 := fun w2 _ h => graphE_mk (by omega) (by omega) (fun x hx => by have := HE.out.1 x hx; omega) HE.out.2
    have HT : Aside (¬ m = 16 → P.graphE n (m + 1) l = 0) := fun h => graphE_mk (by omega) (by omega) (fun x hx => by have := HE.out.1 x hx; omega) HE.out.2
    clear tail
    by_cases hn : n < 16
    · have he1 : P.graphE (n + 1) m l = 0 := graphE_mk (by omega) (by omega) (fun x hx => by have := HE.out.1 x hx; omega) HE.out.2
      have HE1 : Aside (P.graphE (n + 1) m l = 0) := he1
      clear he1
      go_wp2_with fail
      refine (most_any ao cap l (n + 1) m _ (SlAt.below REdge.mono hl hB1)).mono ?_
      rintro e w2 ⟨v2, k2, rfl, own2, hb2, _, hok2⟩
      obtain ⟨ao2, cap2, rfl, a2⟩ := OwnE.at own2
      have hlen2 : k2.length = k1.length := (hok2 HE1.out).2.2.one HM.out
      rw [HE1.out, hlen2]
      have hB2 := bvia hB1 hb2
      clear own2 hok2 a2 hlen2
      go_wp2_with fail
      refine (lack_any ao cap l (n + 1) m _ (SlAt.below REdge.mono hl hB2)).mono ?_
      rintro e w3 ⟨v3, k3, rfl, own3, hb3, _, hok3⟩
      obtain ⟨ao3, cap3, rfl, a3⟩ := OwnI.at own3
      rw [HE1.out]
      obtain ⟨N, rfl⟩ : ∃ N : Nat, n = N := ⟨n.toNat, by omega⟩
      have hL : Lacks l (N + 1) k3 := by
        have hN : ((N : Int) + 1).toNat = N + 1 := by omega
        rcases hok3 HE1.out with ⟨_, h⟩ | h
        · exfalso
          rw [hN] at h
          obtain ⟨q, hq1, hq2⟩ := h.1
          have hndq : (q.map (fun z => z.1)).Nodup := by
            rw [List.nodup_iff_pairwise_ne, List.pairwise_map]
            exact hq1.2.imp (fun h => h.1)
          have := pigeon N _ hndq (fun x hx => by
            obtain ⟨z, hz, rfl⟩ := List.mem_map.1 hx
            have := HE.out.1 z (hq1.1 z hz)
            omega)
          simp at this
          omega
        · rw [hN] at h
          exact h
      have HL : Aside (Lacks l (N + 1) k3) := hL
      have HR : Aside (∀ x ∈ l, 0 ≤ x.2 ∧ x.2 < 16) := fun x hx => by have := HE.out.1 x hx; omega
      have hB3 := bvia hB2 hb3
      clear hok3 own3 hL
      have hNN : ((N : Int) + 1) = ((N + 1 : Nat) : Int) := by omega
      have HNN : Aside (((N : Int) + 1) = ((N + 1 : Nat) : Int)) := hNN
      clear hNN
      go_wp2_with fail
      rw [HNN.out]
      refine (doLack_any ao ao3 cap cap3 l k3 (N + 1) w3 (by omega) (SlAt.below REdge.mono hl hB3) a3 HR.out HL.out).mono ?_
      rintro e w4 ⟨rfl, hb4⟩
      have hB4 := bvia hB3 hb4
      by_cases hm : m = 16
      · subst hm
        go_wp2
        go_ret
        exact ⟨rfl, hB4⟩
      · have hm' : (m == 16) = false := by simpa using hm
        have HE2 : Aside (P.graphE N (m + 1) l = 0) := HT.out hm
        go_wp2_with fail
        refine (most_any ao cap l N (m + 1) _ (SlAt.below REdge.mono hl hB4)).mono ?_
        rintro e w5 ⟨v5, k5, rfl, own5, hb5, _, hok5⟩
        obtain ⟨ao5, cap5, rfl, a5⟩ := OwnE.at own5
        have hlen5 : k5.length = k1.length := (hok5 HE2.out).2.2.one HM.out
        rw [HE2.out, hlen5]
        clear hok5 own5 a5 hlen5
        go_wp2
        go_ret
        exact ⟨by simp, bvia hB4 hb5⟩
    · obtain rfl : n = 16 := by omega
      by_cases hm : m = 16
      · subst hm
        go_wp2
        go_ret
        exact ⟨rfl, hB1⟩
      · have hm' : (m == 16) = false := by simpa using hm
        have HE2 : Aside (P.graphE 16 (m + 1) l = 0) := HT.out hm
        go_wp2_with fail
        refine (most_any ao cap l 16 (m + 1) _ (SlAt.below REdge.mono hl hB1)).mono ?_
        rintro e w5 ⟨v5, k5, rfl, own5, hb5, _, hok5⟩
        obtain ⟨ao5, cap5, rfl, a5⟩ := OwnE.at own5
        have hlen5 : k5.length = k1.length := (hok5 HE2.out).2.2.one HM.out
        rw [HE2.out, hlen5]
        clear hok5 own5 a5 hlen5
        go_wp2
        go_ret
        exact ⟨by simp, bvia hB1 hb5⟩
  · have hz' : (P.graphE n m l != 0) = true := by simpa using hz
    obtain rfl := hbad1 hz
    clear hbad1 hok1
    go_wp2
    go_ret
    exact ⟨rfl, hB1⟩

end Go.Proofs.Ytcifdkggigfnlab
