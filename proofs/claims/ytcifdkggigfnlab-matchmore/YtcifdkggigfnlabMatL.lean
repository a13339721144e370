/- Walks of Most and Lack. -/
import Derived.Test.YtcifdkggigfnlabMatK
namespace Go.Proofs.Ytcifdkggigfnlab
open Go.RowKit Go.Maps Go.WideMaps
set_option linter.unusedSimpArgs false
set_option linter.unusedVariables false

/-- What lies in memory between two calls of find. -/
structure MAt (w : World) (gp n R B G : Nat) (E : List Edge) (s : Nat → Int) : Prop where
  edges : ESet w B E
  owner : w.rowIs G 3 R (fun r => .int .i64 (s r))
  p0 : w.cell? ⟨gp, 0, none⟩ = some (.int .i64 n)
  p1 : w.cell? ⟨gp, 1, none⟩ = some (.int .i64 R)
  p2 : w.cell? ⟨gp, 2, none⟩ = some (.map (some B))
  p3 : w.cell? ⟨gp, 3, none⟩ = some (.slice (some ⟨G, 0, none⟩) R R)
  bg : B ≠ G
  pg : gp ≠ G
theorem MAt.pst {w : World} {gp n R B G : Nat} {E : List Edge} {s : Nat → Int} (h : MAt w gp n R B G E s) : PSt (w.alloc (.map #[] 0)) B G w.heap.size E R s [] :=
  ⟨h.edges.alloc _, h.owner.alloc _, ISet.made w, h.bg, fun e => by have := h.edges.lt; omega, fun e => by have := h.owner.lt; omega⟩
theorem MAt.next {w w' : World} {gp n R B G M : Nat} {E : List Edge} {s s' : Nat → Int} {A : List Int} (h : MAt w gp n R B G E s) (hM : M = w.heap.size) (hm : Mut G M (w.alloc (.map #[] 0)) w') (hp : PSt w' B G M E R s' A) : MAt w' gp n R B G E s' := by
  have hlt : gp < w.heap.size := World.block_lt_of_cell? w _ h.p0
  have hne : gp ≠ M := by omega
  exact ⟨hp.edges, hp.owner, hm.cell (cellIn (by go_grown) h.p0) h.pg hne, hm.cell (cellIn (by go_grown) h.p1) h.pg hne, hm.cell (cellIn (by go_grown) h.p2) h.pg hne, hm.cell (cellIn (by go_grown) h.p3) h.pg hne, h.bg, h.pg⟩

set_option maxHeartbeats 4000000 in
theorem most_any (ao : Option Addr) (cap : Nat) (l : List Edge) (n m : Int) (w : World) (hl : EdgesAt w ao cap l) :
    Calls Try.prog 22 #[.int .i64 n, .int .i64 m, .slice ao l.length cap] w fun e w' => ∃ v k, e = .returned (.tuple #[v, .int .i64 (P.graphE n m l)]) ∧ OwnE w' w.heap.size v k ∧ Below w.heap.size w w' ∧
      (P.graphE n m l ≠ 0 → k = []) ∧ (P.graphE n m l = 0 → IsM l k ∧ k.Pairwise (fun a b => a.1 < b.1) ∧ MaxM l k.length) := by
  by_cases hz : P.graphE n m l = 0
  · obtain ⟨n0, n16, m0, m16, hE, _⟩ := graphE_zero hz
    obtain ⟨N, rfl⟩ : ∃ N : Nat, n = N := ⟨n.toNat, by omega⟩
    obtain ⟨R, rfl⟩ : ∃ R : Nat, m = R := ⟨m.toNat, by omega⟩
    have HZ : Aside (P.graphE N R l = 0) := hz
    have HE : Aside (∀ x ∈ l, 0 ≤ x.1 ∧ x.1 < (N : Int) ∧ 0 ≤ x.2 ∧ x.2 < (R : Int)) := hE
    have hmm := @run_makeMap Try.prog
    clear hE hz
    go_enter Try.func22, Try.ntmps22
    go_wp2_with fail
    refine (read_any ao cap l N R w hl).mono ?_
    rintro e w1 ⟨v, rfl, hb1, _, hok⟩
    obtain ⟨rfl, hset1⟩ := hok HZ.out
    rw [HZ.out]
    clear hok
    go_wp2_with fail
    refine (noPairs_any N R (w.heap.size + 1) (by omega) _).mono ?_
    rintro e w2 ⟨rfl, hrow2, hb2⟩
    have hb12 : Below w1.heap.size w1 w2 := bvia (by go_grown) hb2
    have hB2 : Below w.heap.size w w2 := bvia hb1 hb12
    have hset2 : ESet w2 (w.heap.size + 1) l := set_below hset1 hb12
    have g0 : w2.cell? ⟨w1.heap.size, 0, none⟩ = some (.int .i64 N) := cellIn hb2 (by simp)
    have hlt1 : w1.heap.size < w2.heap.size := World.block_lt_of_cell? w2 _ g0
    have hs1 := hset1.lt
    simp only [World.size_alloc] at hrow2
    have hgl := hrow2.lt
    clear hset1 hb12 hb2
    go_wp2
    have hat : MAt (w2.alloc (.cells #[.int .i64 N, .int .i64 R, .map (some (w.heap.size + 1)), .slice (some ⟨w1.heap.size + 1 + 1 + 1, 0, none⟩) R R] 70)) w2.heap.size N R (w.heap.size + 1) (w1.heap.size + 1 + 1 + 1) l (fun _ => -1) :=
      ⟨hset2.alloc _, hrow2.alloc _, by simp, by simp, by simp, by simp, by omega, by omega⟩
    have hw1 := hb1.size
    go_loopg [26] N (fun g i wr => ∃ (k : Nat) (s : Nat → Int), k ≤ N ∧ g = N - k ∧ i = .int .i64 k ∧ MAt wr w2.heap.size N R (w.heap.size + 1) (w1.heap.size + 1 + 1 + 1) l s ∧ Known l R s k ∧ Below w.heap.size w wr)
    case atStart => exact ⟨0, _, Nat.zero_le _, rfl, rfl, hat, known_none l R, bvia hB2 (by go_grown)⟩
    case round =>
      clear hat hset2 hrow2 hgl hB2 g0
      obtain ⟨k, s, hk, rfl, rfl, hat, hkn, hB⟩ := hrel
      have HK : Aside (Known l R s k) := hkn
      clear hkn
      have c0 := hat.p0
      have c1 := hat.p1
      have c2 := hat.p2
      have c3 := hat.p3
      have hgpl : w2.heap.size < wr.heap.size := World.block_lt_of_cell? wr _ c0
      by_cases hlt : k < N
      · go_wp2_with fail
        refine (find_any N R _ _ _ l s (known_right HK.out (by omega) (by omega) HE.out) k _ (by omega) (by omega) hat.pst).mono ?_
        rintro e w3 ⟨b, A', s', rfl, hst3, hm3, hno, hyes⟩
        have hat3 := hat.next rfl hm3 hst3
        have HK3 : Aside (Known l R s' (k + 1)) := known_next HK.out hno hyes
        have hB3 : Below w.heap.size w w3 := hm3.below (bvia hB (by go_grown)) (by omega) (by have := hB.size; omega)
        clear hno hyes hst3 hm3 HK hat c0 c1 c2 c3
        go_wp2
        go_roundg (N - (k + 1))
        case measure => omega
        case rel => exact ⟨k + 1, s', by omega, rfl, by go_num, hat3, HK3.out, hB3⟩
      · obtain rfl : k = N := by omega
        obtain ⟨hi1, hi2⟩ := known_max HE.out HK.out
        have hpr := edgesTo_pair R s k
        have HF : Aside (IsM l (P.edgesTo R s k) ∧ (P.edgesTo R s k).Pairwise (fun a b => a.1 < b.1) ∧ MaxM l (P.edgesTo R s k).length) := ⟨hi1, hpr.imp (fun h => h.1), hi2⟩
        clear hi1 hi2 hpr HK
        go_wp2_with fail
        refine (edges_any k R _ _ s _ (by omega) (by omega) hat.owner).mono ?_
        rintro e w3 ⟨v3, rfl, own3, hb3⟩
        go_wp2
        go_ret2
        exact ⟨v3, P.edgesTo R s k, ret2_int HZ.out.symm, World.ownsRow.mono own3 hB.size, bvia hB hb3, fun h => absurd HZ.out h, fun _ => HF.out⟩
  · have HZ : Aside (P.graphE n m l ≠ 0) := hz
    have hz' : (P.graphE n m l != 0) = true := by simpa using hz
    go_enter Try.func22, Try.ntmps22
    go_wp2_with fail
    refine (read_any ao cap l n m w hl).mono ?_
    rintro e w1 ⟨v, rfl, hb1, hbad, _⟩
    obtain rfl := hbad HZ.out
    clear hbad
    go_wp2
    go_ret2
    exact ⟨_, [], rfl, World.ownsRow_nil _ _ _ _, bvia hb1 (by go_grown), fun _ => rfl, fun h => absurd h HZ.out⟩

set_option maxHeartbeats 4000000 in
theorem lack_any (ao : Option Addr) (cap : Nat) (l : List Edge) (n m : Int) (w : World) (hl : EdgesAt w ao cap l) :
    Calls Try.prog 23 #[.int .i64 n, .int .i64 m, .slice ao l.length cap] w fun e w' => ∃ v k, e = .returned (.tuple #[v, .int .i64 (P.graphE n m l)]) ∧ OwnI w' w.heap.size v k ∧ Below w.heap.size w w' ∧
      (P.graphE n m l ≠ 0 → k = []) ∧ (P.graphE n m l = 0 → (k = [] ∧ MaxM l n.toNat) ∨ Lacks l n.toNat k) := by
  by_cases hz : P.graphE n m l = 0
  · obtain ⟨n0, n16, m0, m16, hE, _⟩ := graphE_zero hz
    obtain ⟨N, rfl⟩ : ∃ N : Nat, n = N := ⟨n.toNat, by omega⟩
    obtain ⟨R, rfl⟩ : ∃ R : Nat, m = R := ⟨m.toNat, by omega⟩
    have HZ : Aside (P.graphE N R l = 0) := hz
    have HE : Aside (∀ x ∈ l, 0 ≤ x.1 ∧ x.1 < (N : Int) ∧ 0 ≤ x.2 ∧ x.2 < (R : Int)) := hE
    have hmm := @run_makeMap Try.prog
    clear hE hz
    go_enter Try.func23, Try.ntmps23
    go_wp2_with fail
    refine (read_any ao cap l N R w hl).mono ?_
    rintro e w1 ⟨v, rfl, hb1, _, hok⟩
    obtain ⟨rfl, hset1⟩ := hok HZ.out
    rw [HZ.out]
    clear hok
    go_wp2_with fail
    refine (noPairs_any N R (w.heap.size + 1) (by omega) _).mono ?_
    rintro e w2 ⟨rfl, hrow2, hb2⟩
    have hb12 : Below w1.heap.size w1 w2 := bvia (by go_grown) hb2
    have hB2 : Below w.heap.size w w2 := bvia hb1 hb12
    have hset2 : ESet w2 (w.heap.size + 1) l := set_below hset1 hb12
    have g0 : w2.cell? ⟨w1.heap.size, 0, none⟩ = some (.int .i64 N) := cellIn hb2 (by simp)
    have hlt1 : w1.heap.size < w2.heap.size := World.block_lt_of_cell? w2 _ g0
    have hs1 := hset1.lt
    simp only [World.size_alloc] at hrow2
    have hgl := hrow2.lt
    clear hset1 hb12 hb2
    go_wp2
    have hat : MAt (w2.alloc (.cells #[.int .i64 N, .int .i64 R, .map (some (w.heap.size + 1)), .slice (some ⟨w1.heap.size + 1 + 1 + 1, 0, none⟩) R R] 70)) w2.heap.size N R (w.heap.size + 1) (w1.heap.size + 1 + 1 + 1) l (fun _ => -1) :=
      ⟨hset2.alloc _, hrow2.alloc _, by simp, by simp, by simp, by simp, by omega, by omega⟩
    have hw1 := hb1.size
    go_loopg [27] N (fun g i wr => ∃ (k : Nat) (s : Nat → Int), k ≤ N ∧ g = N - k ∧ i = .int .i64 k ∧ MAt wr w2.heap.size N R (w.heap.size + 1) (w1.heap.size + 1 + 1 + 1) l s ∧ Known l R s k ∧ AllHave R s k ∧ Below w.heap.size w wr)
    case atStart => exact ⟨0, _, Nat.zero_le _, rfl, rfl, hat, known_none l R, (fun y h => by omega), bvia hB2 (by go_grown)⟩
    case round =>
      clear hat hset2 hrow2 hgl hB2 g0
      obtain ⟨k, s, hk, rfl, rfl, hat, hkn, hah, hB⟩ := hrel
      have HK : Aside (Known l R s k ∧ AllHave R s k) := ⟨hkn, hah⟩
      clear hkn hah
      have c0 := hat.p0
      have c1 := hat.p1
      have c2 := hat.p2
      have c3 := hat.p3
      have hgpl : w2.heap.size < wr.heap.size := World.block_lt_of_cell? wr _ c0
      by_cases hlt : k < N
      · go_wp2_with fail
        refine (find_any N R _ _ _ l s (known_right HK.out.1 (by omega) (by omega) HE.out) k _ (by omega) (by omega) hat.pst).mono ?_
        rintro e w3 ⟨b, A', s', rfl, hst3, hm3, hno, hyes⟩
        have hat3 := hat.next rfl hm3 hst3
        have HK3 : Aside (Known l R s' (k + 1)) := known_next HK.out.1 hno hyes
        have hB3 : Below w.heap.size w w3 := hm3.below (bvia hB (by go_grown)) (by omega) (by have := hB.size; omega)
        cases b with
        | true =>
          have HA3 : Aside (AllHave R s' (k + 1)) := by obtain ⟨p, e1, e2⟩ := hyes rfl; rw [e1]; exact all_next HK.out.2 e2
          clear hno hyes hst3 hm3 HK hat c0 c1 c2 c3
          go_wp2
          go_roundg (N - (k + 1))
          case measure => omega
          case rel => exact ⟨k + 1, s', by omega, rfl, by go_num, hat3, HK3.out, HA3.out, hB3⟩
        | false =>
          obtain ⟨rfl, hD, hq⟩ := hno rfl
          have hr := known_right HK.out.1 (n := N) (by omega) (by omega) HE.out
          have hsA : ∀ r, r < R → (r : Int) ∈ A' → 0 ≤ s' r ∧ s' r < (N : Int) := fun r h1 h2 => by
            have h3 := (hD.own r h2 (by simp)).1
            rcases hr.own r h1 with h4 | h4
            · exact absurd h4 h3
            · exact h4
          have HF : Aside (Lacks l N (P.crowd (P.inTo s' A' k R) N)) := crowd_lacks HE.out HK.out.1 hlt hD hq
          have HSA : Aside (∀ r, r < R → (r : Int) ∈ A' → 0 ≤ s' r ∧ s' r < (N : Int)) := hsA
          clear hno hyes hm3 HK hat c0 c1 c2 c3 hD hq hr HK3 hsA
          have c0 := hat3.p0
          have c1 := hat3.p1
          have c2 := hat3.p2
          have c3 := hat3.p3
          go_wp2_with fail
          refine (crowd_any N R _ _ _ s' A' k _ (by omega) (by omega) hat3.owner hst3.asked (by omega) HSA.out).mono ?_
          rintro e w4 ⟨v4, rfl, own4, hb4⟩
          go_wp2
          go_ret2
          exact ⟨v4, _, ret2_int HZ.out.symm, World.ownsRow.mono own4 hB3.size, bvia hB3 hb4, fun h => absurd HZ.out h, fun _ => .inr (by simpa using HF.out)⟩
      · obtain rfl : k = N := by omega
        have hmx := (known_max HE.out HK.out.1).2
        rw [all_len HK.out.2] at hmx
        have HF : Aside (MaxM l k) := hmx
        clear hmx HK
        go_wp2
        go_ret2
        exact ⟨_, [], ret2_int HZ.out.symm, World.ownsRow_nil _ _ _ _, hB, fun _ => rfl, fun _ => .inl ⟨rfl, by simpa using HF.out⟩⟩
  · have HZ : Aside (P.graphE n m l ≠ 0) := hz
    have hz' : (P.graphE n m l != 0) = true := by simpa using hz
    go_enter Try.func23, Try.ntmps23
    go_wp2_with fail
    refine (read_any ao cap l n m w hl).mono ?_
    rintro e w1 ⟨v, rfl, hb1, hbad, _⟩
    obtain rfl := hbad HZ.out
    clear hbad
    go_wp2
    go_ret2
    exact ⟨_, [], rfl, World.ownsRow_nil _ _ _ _, bvia hb1 (by go_grown), fun _ => rfl, fun h => absurd h HZ.out⟩

end Go.Proofs.Ytcifdkggigfnlab
