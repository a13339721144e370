/- Walk of the reference's AskOf. -/
import Derived.Test.YtfiaeokdcbmedafDoorCdK
namespace Go.Proofs.YtfiaeokdcbmedafDoor
open Go.RowKit
set_option linter.unusedSimpArgs false
set_option linter.unusedVariables false

set_option maxRecDepth 20000 in
set_option maxHeartbeats 16000000 in
theorem askOf_any (l : List UInt8) (w : World) (hl : l.length ≤ 9223372036854775807) : Calls Tryd.prog 9 #[V.str l] w fun e w' => e = .returned (.tuple #[V.ask (P.askOfA l), .int .i64 (P.askOfE l)]) ∧ Below w.heap.size w w' := by
  have HR0 : Aside (RowIs (W.ask w P.zeroA) w.heap.size (C.ask P.zeroA)) := RowIs.new w _ _
  have HB0 : Aside (Below w.heap.size w (W.ask w P.zeroA)) := alB _ _
  have hsz : (ByteArray.mk l.toArray).size = l.length := by simp [ByteArray.size]
  by_cases h3 : l.length < 3
  · have HV : Aside (P.askOfE l = 1 ∧ P.askOfA l = P.zeroA) := by
      have : P.parsed l = none := by rw [P.parsed, if_pos (.inl h3)]
      show _ ∧ _
      simp [P.askOfE, P.askOfA, this]
    go_enter Tryd.func9, Tryd.ntmps9
    go_wp2_with (refine wpList_stC rfl 25 _ _ (by rfl) w.heap.size (C.ask P.zeroA) (C.ask P.zeroA) Tryd.sizeAsk (by rfl) (by rfl) HR0.out rfl (ask_one _) ?_; intro w9 hr9 hg9)
    refine bodyPost_ret (v := .tuple #[V.ask P.zeroA, .int .i64 1]) (res2 Tryd.results9 hr9 _ (by rfl) (by rfl) Tryd.underlying25 rfl Tryd.sizeAsk) rfl ?_
    exact ⟨by rw [HV.out.1, HV.out.2], below_gr HB0.out HB0.out.size hg9 (Nat.le_refl _)⟩
  obtain ⟨b0, b1, b2, r, rfl⟩ : ∃ b0 b1 b2 r, l = b0 :: b1 :: b2 :: r := by
    match l, h3 with
    | [], h => simp at h
    | [_], h => simp at h
    | [_, _], h => simp at h
    | a :: b :: c :: r, _ => exact ⟨a, b, c, r, rfl⟩
  have ek : P.kindOf (b0 :: b1 :: b2 :: r) = (b0.toNat : Int) := by simp [P.kindOf, P.wh]
  have en : P.numberOf (b0 :: b1 :: b2 :: r) = 256 * (b1.toNat : Int) + (b2.toNat : Int) := by simp [P.numberOf, P.wh]; omega
  generalize hL : b0 :: b1 :: b2 :: r = l at *
  have z0 : 0 < (ByteArray.mk l.toArray).size := by rw [hsz]; omega
  have z1 : 1 < (ByteArray.mk l.toArray).size := by rw [hsz]; omega
  have z2 : 2 < (ByteArray.mk l.toArray).size := by rw [hsz]; omega
  have i0 := bytes_at l 0 b0 z0 (by rw [← hL]; rfl)
  have i1 := bytes_at l 1 b1 z1 (by rw [← hL]; rfl)
  have i2 := bytes_at l 2 b2 z2 (by rw [← hL]; rfl)
  have v0 := wrap_byte b0
  have v1 := wrap_byte b1
  have v2 := wrap_byte b2
  have u0 := b0.toNat_lt
  have u1 := b1.toNat_lt
  have u2 := b2.toNat_lt
  have hl3 : (3 : Int) ≤ (l.length : Int) := by omega
  have hlt3 : ((l.length : Int) < 3) = False := by simp; omega
  have HL := show Aside (b0 :: b1 :: b2 :: r = l) from hL
  clear hL
  cases hk : P.btw (b0.toNat : Int) 1 8
  · have HV : Aside (P.askOfE l = 1 ∧ P.askOfA l = P.zeroA) := by
      have : P.parsed l = none := by rw [P.parsed, if_pos (.inr (by rw [ek]; exact hk))]
      show _ ∧ _
      simp [P.askOfE, P.askOfA, this]
    go_enter Tryd.func9, Tryd.ntmps9
    go_wp2_with fail
    refine (between_any _ _ _ _).mono ?_
    rintro e w1 ⟨rfl, rfl⟩
    rw [hk]
    go_wp2_with (refine wpList_stC rfl 25 _ _ (by rfl) w.heap.size (C.ask P.zeroA) (C.ask P.zeroA) Tryd.sizeAsk (by rfl) (by rfl) HR0.out rfl (ask_one _) ?_; intro w9 hr9 hg9)
    refine bodyPost_ret (v := .tuple #[V.ask P.zeroA, .int .i64 1]) (res2 Tryd.results9 hr9 _ (by rfl) (by rfl) Tryd.underlying25 rfl Tryd.sizeAsk) rfl ?_
    exact ⟨by rw [HV.out.1, HV.out.2], below_gr HB0.out HB0.out.size hg9 (Nat.le_refl _)⟩
  go_enter Tryd.func9, Tryd.ntmps9
  go_wp2_with fail
  refine (between_any _ _ _ _).mono ?_
  rintro e w1 ⟨rfl, rfl⟩
  rw [hk]
  go_wp2_with fail
  change Code.wp Tryd.prog _ _ _ (W.ask w P.zeroA)
  generalize W.ask w P.zeroA = wB at HR0 HB0 ⊢
  go_cut [4] from 25 to 36 (fun s4 wx => s4 = .pointer (some ⟨wB.heap.size, 0, none⟩) ∧ Aside (RowIs wx wB.heap.size (C.ask (P.gath (b0.toNat : Int) (256 * (b1.toNat : Int) + (b2.toNat : Int)) (fun _ => 0)))) ∧ Aside (Below wB.heap.size wB wx))
  case first =>
    have t0 : IntKind.i64.wrap (b0.toNat : Int) = (b0.toNat : Int) := wrap_small _ (by omega)
    have t1 : IntKind.i64.wrap (b1.toNat : Int) = (b1.toNat : Int) := wrap_small _ (by omega)
    have t2 : IntKind.i64.wrap (b2.toNat : Int) = (b2.toNat : Int) := wrap_small _ (by omega)
    have t3 : IntKind.i64.wrap (256 * (b1.toNat : Int)) = 256 * (b1.toNat : Int) := by have := wrap_small (256 * b1.toNat) (by omega); rw [Int.natCast_mul] at this; exact this
    have t4 : IntKind.i64.wrap (256 * (b1.toNat : Int) + (b2.toNat : Int)) = 256 * (b1.toNat : Int) + (b2.toNat : Int) := by have := wrap_small (256 * b1.toNat + b2.toNat) (by omega); rw [Int.natCast_add, Int.natCast_mul] at this; exact this
    go_region_held3 (fun _ => True) (exact trivial) (fail)
    all_goals
      go_wp2_with fail
      go_meet
      first
        | exact ⟨rfl, (RowIs.new wB (C.ask (P.gath (b0.toNat : Int) (256 * (b1.toNat : Int) + (b2.toNat : Int)) (fun _ => 0))) 25).below (drB _), bvia (alB _ _) (drB _)⟩
        | (simp only [t0, t1, t2, t3, t4]; exact ⟨trivial, (RowIs.new wB (C.ask (P.gath (b0.toNat : Int) (256 * (b1.toNat : Int) + (b2.toNat : Int)) (fun _ => 0))) 25).below (drB _), bvia (alB _ _) (drB _)⟩)
  case rest =>
  obtain ⟨rfl, HG0, HBc⟩ := hcut
  generalize hK : (b0.toNat : Int) = KI at *
  generalize hN : 256 * (b1.toNat : Int) + (b2.toNat : Int) = NI at *
  clear i0 i1 i2 v0 v1 v2 u0 u1 u2 z0 z1 z2 hK hN
  have hg1 : (P.gath KI NI (fun _ => 0)).kind = KI := rfl
  have hgc := (HG0.out.cell 1)
  go_wp2_with fail
  refine (namesOf_any _ _).mono ?_
  rintro e w1 ⟨rfl, rfl⟩
  have hnl := names_len KI
  have HIN : Aside (∀ p ∈ P.names KI, p < 9) := fun p hp => names_lt hp
  have HPD : Aside (P.parsed l = P.parse (P.names KI) (l.drop 3) (fun _ => 0)) := by
    show _ = _
    rw [P.parsed, if_neg (by rw [ek, hk]; simp; omega), ek]
  generalize P.names KI = ps at *
  have hsp := letters_size ps
  clear hgc hg1
  have hRc : Aside (RowIs wc w.heap.size (C.ask P.zeroA)) := RowIs.below HR0.out HBc.out
  go_wp2
  go_loopg [6, 7] ps.length (fun g sc i ww => ∃ (k c : Nat) (n' : Nat → Int), k ≤ ps.length ∧ g = ps.length - k ∧ i = .int .i64 k ∧ sc = .int .i64 c ∧ c ≤ l.length ∧ Aside (P.parse (ps.drop k) (l.drop c) n' = P.parse ps (l.drop 3) (fun _ => 0)) ∧ Aside (RowIs ww wB.heap.size (C.ask (P.gath KI NI n'))) ∧ Aside (Below wB.heap.size wB ww))
  case atStart => exact ⟨0, 3, _, by omega, rfl, rfl, rfl, by omega, rfl, HG0, HBc⟩
  case round =>
    obtain ⟨k, c, n', hkk, rfl, rfl, rfl, hc, HP, HG, HB⟩ := hrel
    by_cases hlt : k < ps.length
    · obtain ⟨x, hx⟩ : ∃ x, ps[k]? = some x := ⟨ps[k], List.getElem?_eq_getElem hlt⟩
      have hx9 : x < 9 := HIN.out x (List.mem_of_getElem? hx)
      have hX : ps[k] = x := by have := List.getElem?_eq_getElem hlt; rw [hx] at this; exact (Option.some.inj this).symm
      have HD : Aside (ps.drop k = x :: ps.drop (k + 1)) := by show _ = _; rw [List.drop_eq_getElem_cons hlt, hX]
      have hsk : k < (ByteArray.mk (ps.map P.letter).toArray).size := by rw [hsp]; exact hlt
      have hak := letters_at ps k x hsk hx
      have y1 : (k : Int) < (ps.length : Int) := by omega
      clear hx hX
      generalize hGG : P.gath KI NI n' = G at *
      have HGG := show Aside (P.gath KI NI n' = G) from hGG
      clear hGG
      obtain ⟨k0, k1, k2, k3, k4, k5, k6, k7, k8, k9, k10⟩ := RowIs.abox HG.out
      go_wp2
      go_region_held3 (fun u => u.cell? ⟨wB.heap.size, 0, none⟩ = some (.int .i64 G.number) ∧ u.cell? ⟨wB.heap.size, 1, none⟩ = some (.int .i64 G.kind) ∧ u.cell? ⟨wB.heap.size, 2, none⟩ = some (.int .i64 G.id) ∧ u.cell? ⟨wB.heap.size, 3, none⟩ = some (.int .i64 G.guests) ∧ u.cell? ⟨wB.heap.size, 4, none⟩ = some (.bool G.level) ∧ u.cell? ⟨wB.heap.size, 5, none⟩ = some (.int .i64 G.cabin) ∧ u.cell? ⟨wB.heap.size, 6, none⟩ = some (.int .i64 G.category) ∧ u.cell? ⟨wB.heap.size, 7, none⟩ = some (.int .i64 G.f) ∧ u.cell? ⟨wB.heap.size, 8, none⟩ = some (.int .i64 G.t) ∧ u.cell? ⟨wB.heap.size, 9, none⟩ = some (.int .i64 G.til) ∧ u.cell? ⟨wB.heap.size, 10, none⟩ = some (.int .i64 G.amount))
        (first | with_reducible exact ⟨k0, k1, k2, k3, k4, k5, k6, k7, k8, k9, k10⟩ | with_reducible exact ⟨y0, y1, y2, y3, y4, y5, y6, y7, y8, y9, y10⟩ | go_keep)
        (first
          | (go_at_call 17; refine (valueOf_any G x _ hx9).mono ?_; rintro e w5 ⟨rfl, hb5⟩; obtain ⟨y0, y1, y2, y3, y4, y5, y6, y7, y8, y9, y10⟩ := RowIs.abox (RowIs.below HG.out (bvia (drB _) hb5)); have hb5' := bvia (drB _) hb5))
      have HG5 : Aside (RowIs w5 wB.heap.size (C.ask G)) := RowIs.below HG.out hb5'
      have HB5 : Aside (Below wB.heap.size wB w5) := bvia HB.out hb5'
      have HR5 : Aside (RowIs w5 w.heap.size (C.ask P.zeroA)) := RowIs.below HR0.out HB5.out
      clear k0 k1 k2 k3 k4 k5 k6 k7 k8 k9 k10 y0 y1 y2 y3 y4 y5 y6 y7 y8 y9 y10 hb5 hb5'
      have hx4 := size_le x
      by_cases hrem : l.length - c < P.size x
      · have HV : Aside (P.askOfE l = 1 ∧ P.askOfA l = P.zeroA) := by
          have : P.parsed l = none := by rw [HPD.out, ← HP.out, HD.out, P.parse, if_pos (by rw [List.length_drop]; exact hrem)]
          show _ ∧ _
          simp [P.askOfE, P.askOfA, this]
        have hrem' : (l.length : Int) - (c : Int) < (P.size x : Int) := by omega
        go_wp2_with (refine wpList_stC rfl 25 _ _ (by rfl) w.heap.size (C.ask P.zeroA) (C.ask P.zeroA) Tryd.sizeAsk (by rfl) (by rfl) HR5.out rfl (ask_one _) ?_; intro w9 hr9 hg9)
        refine bodyPost_ret (v := .tuple #[V.ask P.zeroA, .int .i64 1]) (res2 Tryd.results9 hr9 _ (by rfl) (by rfl) Tryd.underlying25 rfl Tryd.sizeAsk) rfl ?_
        exact ⟨by rw [HV.out.1, HV.out.2], below_gr (bvia HB0.out HB5.out) (bvia HB0.out HB5.out).size hg9 (Nat.le_refl _)⟩
      · have hrem' : ¬ (l.length : Int) - (c : Int) < (P.size x : Int) := by omega
        have HLD : Aside (¬ (l.drop c).length < P.size x) := by show ¬ _; rw [List.length_drop]; exact hrem
        go_wp2
        go_loopg [11, 6, 12] (P.size x) (fun g sn sc i ww => ∃ (j q : Nat), j ≤ P.size x ∧ g = P.size x - j ∧ i = .int .i64 j ∧ Aside (q = c + j) ∧ sc = .int .i64 q ∧ sn = .int .i64 (P.wh ((l.drop c).take j)) ∧ w5 = ww)
        case atStart => exact ⟨0, c, by omega, rfl, rfl, rfl, rfl, rfl, rfl⟩
        case round =>
          obtain ⟨j, q, hj, rfl, rfl, HQ, rfl, rfl, rfl⟩ := hrel
          by_cases hjl : j < P.size x
          · have hq : q = c + j := HQ.out
            have hql : q < l.length := by omega
            obtain ⟨b, hbb0, HT, hm1, hm2, vb, hw9⟩ := step_facts hq hql (by omega)
            have hcj : q < (ByteArray.mk l.toArray).size := by rw [hsz]; exact hql
            have hbb := hbb0 hcj
            have HT2 : Aside (wrap64 (P.wh ((l.drop c).take (j + 1)) : Int) = (P.wh ((l.drop c).take (j + 1)) : Int)) := hw9
            clear hw9
            have hcl : (q : Int) < (l.length : Int) := by omega
            have HQ2 : Aside (q + 1 = c + (j + 1)) := by show _ = _; omega
            clear hq HQ hbb0
            go_wp2
            go_roundg (P.size x - (j + 1))
            case measure => omega
            case rel => exact ⟨j + 1, q + 1, by omega, rfl, by go_num, HQ2, by go_num, congrArg (Value.int .i64) HT2.out, rfl⟩
          · obtain rfl : j = P.size x := by omega
            have hq : q = c + P.size x := HQ.out
            have HQL : Aside (q ≤ l.length ∧ q = c + P.size x) := by show _ ∧ _; omega
            clear hq HQ
            generalize hv : P.wh ((l.drop c).take (P.size x)) = v at *
            have HVV := show Aside (P.wh ((l.drop c).take (P.size x)) = v) from hv
            have HDR : Aside ((l.drop c).drop (P.size x) = l.drop q) := by show _ = _; rw [List.drop_drop, HQL.out.2]
            clear hv hjl hrem
            by_cases hx6 : x = 6
            · subst hx6
              by_cases hv1 : 1 < v
              · have HV : Aside (P.askOfE l = 1 ∧ P.askOfA l = P.zeroA) := by
                  have : P.parsed l = none := by rw [HPD.out, ← HP.out, HD.out, P.parse, if_neg HLD.out, if_pos ⟨rfl, by rw [HVV.out]; exact hv1⟩]
                  show _ ∧ _
                  simp [P.askOfE, P.askOfA, this]
                have hv1' : (1 : Int) < (v : Int) := by omega
                have hl6 : P.letter 6 = 108 := rfl
                rw [hl6] at hak
                clear hl6
                go_wp2_with (refine wpList_stC rfl 25 _ _ (by rfl) w.heap.size (C.ask P.zeroA) (C.ask P.zeroA) Tryd.sizeAsk (by rfl) (by rfl) HR5.out rfl (ask_one _) ?_; intro w9 hr9 hg9)
                refine bodyPost_ret (v := .tuple #[V.ask P.zeroA, .int .i64 1]) (res2 Tryd.results9 hr9 _ (by rfl) (by rfl) Tryd.underlying25 rfl Tryd.sizeAsk) rfl ?_
                exact ⟨by rw [HV.out.1, HV.out.2], below_gr (bvia HB0.out HB5.out) (bvia HB0.out HB5.out).size hg9 (Nat.le_refl _)⟩
              · have hv1' : ¬ (1 : Int) < (v : Int) := by omega
                have hl6 : P.letter 6 = 108 := rfl
                rw [hl6] at hak
                have HP2 : Aside (P.parse (ps.drop (k + 1)) (l.drop q) (P.set n' 6 v) = P.parse ps (l.drop 3) (fun _ => 0)) := by
                  show _ = _
                  rw [← HP.out, HD.out, parse_on HLD.out (by rw [HVV.out]; exact fun h => hv1 h.2), HVV.out, HDR.out]
                have HG6 : Aside (RowIs (w5.setCell ⟨wB.heap.size, 4, none⟩ (.bool ((v : Int) == 1))) wB.heap.size (C.ask (P.gath KI NI (P.set n' 6 v)))) := put_level v hv1 (by rw [HGG.out]; exact HG5.out)
                have fc : w5.cell? ⟨wB.heap.size, 4, none⟩ = some (.bool G.level) := HG5.out.cell 4
                have ff := HG5.out.free 4
                clear hl6 hv1
                go_wp2
                go_roundg (ps.length - (k + 1))
                case measure => omega
                case rel => exact ⟨k + 1, q, P.set n' 6 v, by omega, rfl, by go_num, rfl, HQL.out.1, HP2, HG6, asd (below_set HB5.out (Nat.le_refl _))⟩
            · have HP2 : Aside (P.parse (ps.drop (k + 1)) (l.drop q) (P.set n' x v) = P.parse ps (l.drop 3) (fun _ => 0)) := by
                show _ = _
                rw [← HP.out, HD.out, parse_on HLD.out (fun h => hx6 h.1), HVV.out, HDR.out]
              have HG6 : Aside (RowIs (w5.setCell ⟨wB.heap.size, P.offOf x, none⟩ (.int .i64 v)) wB.heap.size (C.ask (P.gath KI NI (P.set n' x v)))) := put_gath x v hx6 hx9 (by rw [HGG.out]; exact HG5.out)
              clear HD HVV HDR HLD HIN hx4
              match x, hx6, hx9 with
              | 0, _, _ =>
                have hl6 : P.letter 0 = 105 := rfl
                rw [hl6] at hak
                have fc : w5.cell? ⟨wB.heap.size, 2, none⟩ = some (.int .i64 G.id) := HG5.out.cell 2
                have ff := HG5.out.free 2
                clear hl6
                go_wp2
                go_roundg (ps.length - (k + 1))
                case measure => omega
                case rel => exact ⟨k + 1, q, P.set n' 0 v, by omega, rfl, by go_num, rfl, HQL.out.1, HP2, HG6, asd (below_set HB5.out (Nat.le_refl _))⟩
              | 1, _, _ =>
                have hl6 : P.letter 1 = 103 := rfl
                rw [hl6] at hak
                have fc : w5.cell? ⟨wB.heap.size, 3, none⟩ = some (.int .i64 G.guests) := HG5.out.cell 3
                have ff := HG5.out.free 3
                clear hl6
                go_wp2
                go_roundg (ps.length - (k + 1))
                case measure => omega
                case rel => exact ⟨k + 1, q, P.set n' 1 v, by omega, rfl, by go_num, rfl, HQL.out.1, HP2, HG6, asd (below_set HB5.out (Nat.le_refl _))⟩
              | 2, _, _ =>
                have hl6 : P.letter 2 = 99 := rfl
                rw [hl6] at hak
                have fc : w5.cell? ⟨wB.heap.size, 5, none⟩ = some (.int .i64 G.cabin) := HG5.out.cell 5
                have ff := HG5.out.free 5
                clear hl6
                go_wp2
                go_roundg (ps.length - (k + 1))
                case measure => omega
                case rel => exact ⟨k + 1, q, P.set n' 2 v, by omega, rfl, by go_num, rfl, HQL.out.1, HP2, HG6, asd (below_set HB5.out (Nat.le_refl _))⟩
              | 3, _, _ =>
                have hl6 : P.letter 3 = 107 := rfl
                rw [hl6] at hak
                have fc : w5.cell? ⟨wB.heap.size, 6, none⟩ = some (.int .i64 G.category) := HG5.out.cell 6
                have ff := HG5.out.free 6
                clear hl6
                go_wp2
                go_roundg (ps.length - (k + 1))
                case measure => omega
                case rel => exact ⟨k + 1, q, P.set n' 3 v, by omega, rfl, by go_num, rfl, HQL.out.1, HP2, HG6, asd (below_set HB5.out (Nat.le_refl _))⟩
              | 4, _, _ =>
                have hl6 : P.letter 4 = 102 := rfl
                rw [hl6] at hak
                have fc : w5.cell? ⟨wB.heap.size, 7, none⟩ = some (.int .i64 G.f) := HG5.out.cell 7
                have ff := HG5.out.free 7
                clear hl6
                go_wp2
                go_roundg (ps.length - (k + 1))
                case measure => omega
                case rel => exact ⟨k + 1, q, P.set n' 4 v, by omega, rfl, by go_num, rfl, HQL.out.1, HP2, HG6, asd (below_set HB5.out (Nat.le_refl _))⟩
              | 5, _, _ =>
                have hl6 : P.letter 5 = 116 := rfl
                rw [hl6] at hak
                have fc : w5.cell? ⟨wB.heap.size, 8, none⟩ = some (.int .i64 G.t) := HG5.out.cell 8
                have ff := HG5.out.free 8
                clear hl6
                go_wp2
                go_roundg (ps.length - (k + 1))
                case measure => omega
                case rel => exact ⟨k + 1, q, P.set n' 5 v, by omega, rfl, by go_num, rfl, HQL.out.1, HP2, HG6, asd (below_set HB5.out (Nat.le_refl _))⟩
              | 7, _, _ =>
                have hl6 : P.letter 7 = 117 := rfl
                rw [hl6] at hak
                have fc : w5.cell? ⟨wB.heap.size, 9, none⟩ = some (.int .i64 G.til) := HG5.out.cell 9
                have ff := HG5.out.free 9
                clear hl6
                go_wp2
                go_roundg (ps.length - (k + 1))
                case measure => omega
                case rel => exact ⟨k + 1, q, P.set n' 7 v, by omega, rfl, by go_num, rfl, HQL.out.1, HP2, HG6, asd (below_set HB5.out (Nat.le_refl _))⟩
              | 8, _, _ =>
                have hl6 : P.letter 8 = 97 := rfl
                rw [hl6] at hak
                have fc : w5.cell? ⟨wB.heap.size, 10, none⟩ = some (.int .i64 G.amount) := HG5.out.cell 10
                have ff := HG5.out.free 10
                clear hl6
                go_wp2
                go_roundg (ps.length - (k + 1))
                case measure => omega
                case rel => exact ⟨k + 1, q, P.set n' 8 v, by omega, rfl, by go_num, rfl, HQL.out.1, HP2, HG6, asd (below_set HB5.out (Nat.le_refl _))⟩
              | 6, h6, _ => exact absurd rfl h6
    · obtain rfl : k = ps.length := by omega
      have HP2 : Aside ((if l.drop c = [] then some n' else none) = P.parsed l) := by
        show _ = _
        rw [HPD.out, ← HP.out, List.drop_of_length_le (Nat.le_refl _), P.parse]
      have HRw : Aside (RowIs wr w.heap.size (C.ask P.zeroA)) := RowIs.below HR0.out HB.out
      by_cases hcl : c < l.length
      · have HV : Aside (P.askOfE l = 1 ∧ P.askOfA l = P.zeroA) := by
          have : P.parsed l = none := by rw [← HP2.out, if_neg (by intro e; have := congrArg List.length e; rw [List.length_drop] at this; simp at this; omega)]
          show _ ∧ _
          simp [P.askOfE, P.askOfA, this]
        have hcl' : (c : Int) < (l.length : Int) := by omega
        go_wp2_with (refine wpList_stC rfl 25 _ _ (by rfl) w.heap.size (C.ask P.zeroA) (C.ask P.zeroA) Tryd.sizeAsk (by rfl) (by rfl) HRw.out rfl (ask_one _) ?_; intro w9 hr9 hg9)
        refine bodyPost_ret (v := .tuple #[V.ask P.zeroA, .int .i64 1]) (res2 Tryd.results9 hr9 _ (by rfl) (by rfl) Tryd.underlying25 rfl Tryd.sizeAsk) rfl ?_
        exact ⟨by rw [HV.out.1, HV.out.2], below_gr (bvia HB0.out HB.out) (bvia HB0.out HB.out).size hg9 (Nat.le_refl _)⟩
      · have hcl' : ¬ (c : Int) < (l.length : Int) := by omega
        have hpd : P.parsed l = some n' := by rw [← HP2.out, if_pos (List.drop_of_length_le (by omega))]
        have HV : Aside (P.askOfE l = P.askE (P.gath KI NI n') ∧ P.askOfA l = if P.askE (P.gath KI NI n') = 0 then P.gath KI NI n' else P.zeroA) := by
          show _ ∧ _
          rw [P.askOfE, P.askOfA, hpd, ek, en]
          exact ⟨rfl, rfl⟩
        clear hpd hcl
        generalize P.gath KI NI n' = G at *
        obtain ⟨k0, k1, k2, k3, k4, k5, k6, k7, k8, k9, k10⟩ := RowIs.abox HG.out
        by_cases he : P.askE G = 0
        · have HE : Aside (P.askE G = 0) := he
          clear he
          go_wp2_with fail
          refine (checkAsk_any G _).mono ?_
          rintro e w5 ⟨rfl, hb5⟩
          rw [HE.out]
          obtain ⟨y0, y1, y2, y3, y4, y5, y6, y7, y8, y9, y10⟩ := RowIs.abox (RowIs.below HG.out hb5)
          have HR5 : Aside (RowIs w5 w.heap.size (C.ask P.zeroA)) := RowIs.below HRw.out hb5
          have HB5 : Aside (Below wB.heap.size wB w5) := bvia HB.out hb5
          clear hb5 k0 k1 k2 k3 k4 k5 k6 k7 k8 k9 k10
          go_wp2_with (refine wpList_stC rfl 25 _ _ (by rfl) w.heap.size (C.ask P.zeroA) (C.ask G) Tryd.sizeAsk (by rfl) (by rfl) HR5.out rfl (ask_one _) ?_; intro w9 hr9 hg9)
          refine bodyPost_ret (v := .tuple #[V.ask G, .int .i64 0]) (res2 Tryd.results9 hr9 _ (by rfl) (by rfl) Tryd.underlying25 rfl Tryd.sizeAsk) rfl ?_
          exact ⟨by rw [HV.out.1, HV.out.2, HE.out, if_pos rfl], below_gr (bvia HB0.out HB5.out) (bvia HB0.out HB5.out).size hg9 (Nat.le_refl _)⟩
        · have he' : (P.askE G != 0) = true := by simpa using he
          have HV2 : Aside (P.askOfA l = P.zeroA) := by show _ = _; rw [HV.out.2, if_neg he]
          clear he
          go_wp2_with fail
          refine (checkAsk_any G _).mono ?_
          rintro e w5 ⟨rfl, hb5⟩
          have HR5 : Aside (RowIs w5 w.heap.size (C.ask P.zeroA)) := RowIs.below HRw.out hb5
          have HB5 : Aside (Below wB.heap.size wB w5) := bvia HB.out hb5
          clear hb5 k0 k1 k2 k3 k4 k5 k6 k7 k8 k9 k10
          go_wp2_with (refine wpList_stC rfl 25 _ _ (by rfl) w.heap.size (C.ask P.zeroA) (C.ask P.zeroA) Tryd.sizeAsk (by rfl) (by rfl) HR5.out rfl (ask_one _) ?_; intro w9 hr9 hg9)
          refine bodyPost_ret (v := .tuple #[V.ask P.zeroA, .int .i64 (P.askE G)]) (res2 Tryd.results9 hr9 _ (by rfl) (by rfl) Tryd.underlying25 rfl Tryd.sizeAsk) rfl ?_
          exact ⟨by rw [HV.out.1, HV2.out], below_gr (bvia HB0.out HB5.out) (bvia HB0.out HB5.out).size hg9 (Nat.le_refl _)⟩

end Go.Proofs.YtfiaeokdcbmedafDoor
