/- Walks of IndexFunc over bands, Penalty, Price. -/
import Derived.Test.YtagjlckmemmflacFarD
namespace Go.Proofs.Ytagjlckmemmflac
open Go.RowKit
set_option linter.unusedSimpArgs false
set_option linter.unusedVariables false

section
variable {α : Type} {l : List α} {p : α → Bool} {k : Nat} {x : α}
theorem find_hit (hP : (l.drop k).find? p = l.find? p) (hD : l.drop k = x :: l.drop (k + 1)) (h : p x = true) : l.find? p = some x := by
  rw [hD, List.find?_cons, h] at hP
  exact hP.symm
theorem find_on (hP : (l.drop k).find? p = l.find? p) (hD : l.drop k = x :: l.drop (k + 1)) (h : p x = false) : (l.drop (k + 1)).find? p = l.find? p := by
  rw [hD, List.find?_cons, h] at hP
  exact hP
theorem find_none (hP : (l.drop l.length).find? p = l.find? p) : l.find? p = none := by
  rw [List.drop_of_length_le (Nat.le_refl _)] at hP
  simpa using hP.symm
end

set_option maxHeartbeats 1000000 in
/-- 'IndexFunc' of bands, with whatever function literal that answers p: where the first lies. -/
theorem indexBands_any (ao : Option Addr) (cap : Nat) (l : List (Int × Int)) (F : Nat) (cs : Array Value) (p : Int × Int → Bool) (w : World) (hl : PairsAt w ao cap l)
    (hcf : ∀ (args : Array Value) (wx : World), (callFunc F args).run Try.prog wx = .ok (.enter F args) wx)
    (hp : Hid (∀ (x : Int × Int) (wx : World), Below w.heap.size w wx → Calls Try.prog F (#[.agg #[.int .i64 x.1, .int .i64 x.2]] ++ cs) wx fun e w' => e = .returned (.bool (p x)) ∧ Below wx.heap.size wx w')) :
    Calls Try.prog 35 #[.slice ao l.length cap, .func (.func F) #[] cs] w fun e w' => ∃ n : Int, e = .returned (.int .i64 n) ∧ (l.find? p = none → n = -1) ∧ (∀ x, l.find? p = some x → ∃ k : Nat, n = k ∧ k < l.length ∧ l.drop k = x :: l.drop (k + 1)) ∧ Below w.heap.size w w' := by
  have hle := hl.le
  have hmx := hl.max
  unfold maxLen at hmx
  go_enter Try.func35, Try.ntmps35
  go_wp2
  go_loopg [8] l.length (fun g i wr => ∃ (k : Nat), k ≤ l.length ∧ g = l.length - k ∧ i = .int .i64 k ∧ (l.drop k).find? p = l.find? p ∧ Below w.heap.size w wr)
  case atStart => exact ⟨0, Nat.zero_le _, rfl, rfl, rfl, Below.refl _ _⟩
  case round =>
    obtain ⟨k, hk, rfl, rfl, hP, hB⟩ := hrel
    have HP : Aside ((l.drop k).find? p = l.find? p) := hP
    clear hP
    by_cases hlt : k < l.length
    · obtain ⟨b, off, x, y, rfl, hbw, hd, hc0, hc1⟩ := PairsAt.get hl hB k hlt
      have HD : Aside (l.drop k = (x, y) :: l.drop (k + 1)) := hd
      clear hd
      cases hpf : p (x, y)
      · go_wp2_with fail
        refine (hp.out (x, y) _ hB).mono ?_
        rintro e w1 ⟨rfl, hb1⟩
        rw [hpf]
        go_wp2
        go_roundg (l.length - (k + 1))
        case measure => omega
        case rel => exact ⟨k + 1, by omega, rfl, by go_num, find_on HP.out HD.out hpf, bvia hB hb1⟩
      · go_wp2_with fail
        refine (hp.out (x, y) _ hB).mono ?_
        rintro e w1 ⟨rfl, hb1⟩
        rw [hpf]
        go_wp2
        go_ret
        have hh := find_hit HP.out HD.out hpf
        exact ⟨_, rfl, (fun h => by rw [hh] at h; cases h), (fun z h => by rw [hh] at h; cases h; exact ⟨k, rfl, hlt, HD.out⟩), bvia hB hb1⟩
    · obtain rfl : k = l.length := by omega
      go_wp2
      go_ret
      have hh := find_none HP.out
      exact ⟨_, rfl, (fun h => rfl), (fun z h => by rw [hh] at h; cases h), hB⟩

set_option maxHeartbeats 400000 in
theorem penalty1_any (x : Int × Int) (d : Int) (g : Nat) (w : World) (h0 : w.cell? ⟨g, 0, none⟩ = some (.int .i64 d)) :
    Calls Try.prog 36 #[.agg #[.int .i64 x.1, .int .i64 x.2], .pointer (some ⟨g, 0, none⟩)] w fun e w' => e = .returned (.bool (decide (d ≤ x.1))) ∧ Below w.heap.size w w' := by
  have hg := World.block_lt_of_cell? w _ h0
  have hg' : g < w.heap.size := hg
  have h0' : (w.alloc (.cells #[.int .i64 x.1, .int .i64 x.2] 61)).cell? ⟨g, 0, none⟩ = some (.int .i64 d) := cellIn (by go_grown) h0
  go_enter Try.func36, Try.ntmps36
  go_wp2
  go_ret
  exact ⟨rfl, by go_grown⟩

/-- E2: the band that tells, of one who cancels d days ahead. -/
def P.band (B : List (Int × Int)) (d : Int) : Option (Int × Int) := B.find? (fun x => decide (d ≤ x.1))
def P.penV (B : List (Int × Int)) (p d : Int) : Int := match P.band B d with | none => 0 | some x => P.part p x.2
def P.penE (L : List (List Int)) (al th : Int) (B : List (Int × Int)) (dn c n p d : Int) : Int := if P.fareP L al th B dn c n p = 0 then (if d < 0 then 3 else 0) else P.fareP L al th B dn c n p
def P.pen (L : List (List Int)) (al th : Int) (B : List (Int × Int)) (dn c n p d : Int) : Int := if P.penE L al th B dn c n p d = 0 then P.penV B p d else 0

theorem bands_zero {B : List (Int × Int)} {d p : Int} (h : P.bands d p B = 0) : ∀ x ∈ B, d < x.1 ∧ x.2 ≤ p ∧ 0 ≤ x.2 ∧ x.2 ≤ 100 := by
  induction B generalizing d p with
  | nil => intro x hx; cases hx
  | cons y B ih =>
    unfold P.bands at h
    split at h
    · rename_i h1
      split at h
      · omega
      · rename_i h2
        simp only [P.btw, Bool.and_eq_true, decide_eq_true_eq] at h1
        intro x hx
        rcases List.mem_cons.1 hx with rfl | hx
        · omega
        · have := ih h x hx; omega
    · omega
theorem bandsE_in {B : List (Int × Int)} (h : P.bandsE B = 0) : ∀ x ∈ B, 0 ≤ x.2 ∧ x.2 ≤ 100 := by
  unfold P.bandsE at h
  split at h
  · intro x hx; exact (bands_zero h x hx).2.2
  · omega

theorem penE_zero {L : List (List Int)} {al th : Int} {B : List (Int × Int)} {dn c n p d : Int} (h : P.penE L al th B dn c n p d = 0) : P.fareP L al th B dn c n p = 0 ∧ 0 ≤ d := by
  unfold P.penE at h
  split at h
  · rename_i h1
    split at h
    · omega
    · exact ⟨h1, by omega⟩
  · contradiction

set_option maxHeartbeats 2000000 in
theorem penalty_any (lo bo : Option Addr) (lc bc : Nat) (L : List (List Int)) (al th : Int) (B : List (Int × Int)) (dn c n p d : Int) (w : World) (hf : FareAt w lo bo lc bc L B) :
    Calls Try.prog 11 #[V.fare lo bo lc bc L al th B dn, .int .i64 c, .int .i64 n, .int .i64 p, .int .i64 d] w fun e w' => e = .returned (.tuple #[.int .i64 (P.pen L al th B dn c n p d), .int .i64 (P.penE L al th B dn c n p d)]) ∧ Below w.heap.size w w' := by
  have hle := hf.bands.le
  have hmx := hf.bands.max
  unfold maxLen at hmx
  cases hz : (P.fareP L al th B dn c n p != 0)
  · have hz' : P.fareP L al th B dn c n p = 0 := by simpa using hz
    by_cases hd : d < 0
    · have HE : Aside (P.penE L al th B dn c n p d = 3) := by show _ = _; rw [P.penE, if_pos hz', if_pos hd]
      have HV : Aside (P.pen L al th B dn c n p d = 0) := by show _ = _; rw [P.pen, if_neg (by rw [HE.out]; omega)]
      clear hz'
      go_enter Try.func11, Try.ntmps11
      go_wp2_with (go_at_call 33; refine (checkPrice_any _ _ _ _ _ _ _ _ _ _ _ _ _ (hf.below (by go_grown))).mono ?_; rintro e w1 ⟨rfl, hb1⟩; have c4 : w1.cell? ⟨w.heap.size + 1, 0, none⟩ = some (.int .i64 d) := cellIn hb1 (by simp))
      go_ret2
      exact ⟨ret2_ii HV.out.symm HE.out.symm, bvia (by go_grown) hb1⟩
    · have HE : Aside (P.penE L al th B dn c n p d = 0) := by show _ = _; rw [P.penE, if_pos hz', if_neg hd]
      have HV : Aside (P.pen L al th B dn c n p d = P.penV B p d) := by show _ = _; rw [P.pen, if_pos HE.out]
      obtain ⟨k1, k2, k3⟩ := fareP_zero hz'
      obtain ⟨_, _, _, _, _, _, _, k5⟩ := fareE_zero k1
      have HB : Aside (∀ x ∈ B, 0 ≤ x.2 ∧ x.2 ≤ 100) := bandsE_in k5
      have hx : ∀ (W : World), PairsAt W bo bc B → W.cell? ⟨w.heap.size + 1, 0, none⟩ = some (.int .i64 d) →
          Calls Try.prog 35 #[.slice bo B.length bc, .func (.func 36) #[] #[.pointer (some ⟨w.heap.size + 1, 0, none⟩)]] W fun e w' => ∃ n : Int, e = .returned (.int .i64 n) ∧ (P.band B d = none → n = -1) ∧ (∀ x, P.band B d = some x → ∃ k : Nat, n = k ∧ k < B.length ∧ B.drop k = x :: B.drop (k + 1)) ∧ Below W.heap.size W w' := fun W hW h0 =>
        indexBands_any bo bc B 36 _ _ W hW (fun args wx => by go_simp) (fun x wx hb => by rw [arr2]; exact penalty1_any x d _ wx (cellIn hb h0))
      have HX := (show Hid _ from hx)
      clear hx hz' k1 k5
      go_enter Try.func11, Try.ntmps11
      go_wp2_with (first
        | (go_at_call 33; refine (checkPrice_any _ _ _ _ _ _ _ _ _ _ _ _ _ (hf.below (by go_grown))).mono ?_; rintro e w1 ⟨rfl, hb1⟩; have c3 : w1.cell? ⟨w.heap.size, 3, none⟩ = some (.slice bo B.length bc) := cellIn hb1 (by simp); have c4 : w1.cell? ⟨w.heap.size + 1, 0, none⟩ = some (.int .i64 d) := cellIn hb1 (by simp); have hB1 : Below w.heap.size w w1 := bvia (by go_grown) hb1))
      refine (HX.out _ (SlAt.below RPair.mono hf.bands hB1) c4).mono ?_
      rintro e w2 ⟨m, rfl, hn, hs, hb2⟩
      have d3 := cellIn hb2 c3
      have hB2 := bvia hB1 hb2
      cases hbd : P.band B d with
      | none =>
        have hm := hn hbd
        subst hm
        clear hn hs
        have HW : Aside (P.penV B p d = 0) := by show _ = _; rw [P.penV, hbd]
        go_wp2
        go_ret2
        exact ⟨ret2_ii (by rw [HV.out, HW.out]) HE.out.symm, hB2⟩
      | some x =>
        obtain ⟨k, rfl, hk, hdr⟩ := hs x hbd
        clear hn hs
        have HW : Aside (P.penV B p d = P.part p x.2) := by show _ = _; rw [P.penV, hbd]
        have hx2 := HB.out x (memA hk hdr)
        obtain ⟨b, off, x1, y1, rfl, hbw, hd1, hc0, hc1⟩ := PairsAt.get hf.bands hB2 k hk
        rw [hdr] at hd1
        simp only [List.cons.injEq, and_true] at hd1
        subst hd1
        have m1 := mul_in (m := 100000000) ⟨k2, k3⟩ hx2
        simp only at m1 hx2
        clear hdr hbd
        go_wp2_with (go_at_call 34; refine (part_any _ _ _ (by omega) (by omega)).mono ?_; rintro e w3 ⟨rfl, rfl⟩)
        go_ret2
        exact ⟨ret2_ii (by rw [HV.out, HW.out]) HE.out.symm, hB2⟩
  · have HE : Aside (P.penE L al th B dn c n p d = P.fareP L al th B dn c n p) := by show _ = _; rw [P.penE, if_neg (by simpa using hz)]
    have HV : Aside (P.pen L al th B dn c n p d = 0) := by show _ = _; rw [P.pen, if_neg (by rw [HE.out]; simpa using hz)]
    go_enter Try.func11, Try.ntmps11
    go_wp2_with (go_at_call 33; refine (checkPrice_any _ _ _ _ _ _ _ _ _ _ _ _ _ (hf.below (by go_grown))).mono ?_; rintro e w1 ⟨rfl, hb1⟩)
    go_ret2
    exact ⟨ret2_ii HV.out.symm HE.out.symm, bvia (by go_grown) hb1⟩

end Go.Proofs.Ytagjlckmemmflac
