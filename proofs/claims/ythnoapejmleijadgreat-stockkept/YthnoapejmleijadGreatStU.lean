/- The walk of StockKept. -/
import Derived.Test.YthnoapejmleijadGreatStT
namespace Go.Proofs.YthnoapejmleijadGreat.St
open Go.RowKit Bk
set_option linter.unusedSimpArgs false
set_option linter.unusedVariables false
set_option maxRecDepth 10000

theorem getD' {l : List Bkg} {k : Nat} {y : Bkg} (hd : l.drop k = y :: l.drop (k + 1)) : l[k]? = some y := by
  rw [← List.head?_drop, hd]
  rfl

set_option maxHeartbeats 8000000 in
theorem stockKept_walk (x : Sail) (a : SailA) (w : World) (hs : SailAt w x a) :
    Calls Tryz.prog 5 #[V.sail x a] w fun e w' => e = .returned (.bool true) ∧ Below w.heap.size w w' := by
  have hsx := SBox.new w x a
  have hsb := sail_below w x a
  have hle := hs.bks.le
  have hmx := hs.bks.max
  unfold maxLen at hmx
  have hcle := hs.ship.cabs.le
  have hcmx := hs.ship.cabs.max
  unfold maxLen at hcmx
  go_enter Tryz.func5, Tryz.ntmps5
  go_wp2_with fail
  refine (stockBegun_any _).mono ?_
  rintro e w1 ⟨rfl, hb1⟩
  go_wp2_with fail
  refine (Ma.matchBegun_any _).mono ?_
  rintro e w2 ⟨rfl, hb2⟩
  go_wp2_with fail
  refine (bookBegun_any _).mono ?_
  rintro e w3 ⟨rfl, hb3⟩
  have hb13 := bvia hb1 (bvia hb2 hb3)
  have HX3 : Aside (SBox w3 w.heap.size x a) := hsx.below hb13
  have hB3 := bvia hsb hb13
  obtain ⟨d0, d1, d2, d3, d4, d5, d6, d7, d8, d9, d10, d11, d12⟩ := HX3.out
  clear hsx hsb hb1 hb2 hb3 hb13
  go_wp2_with fail
  refine (stockCheck_any x a _ (hs.below hB3)).mono ?_
  rintro e w4 ⟨r, rfl, hr, hb4⟩
  have HX4 : Aside (SBox w4 w.heap.size x a) := HX3.out.below hb4
  have hB4 := bvia hB3 hb4
  clear d0 d1 d2 d3 d4 d5 d6 d7 d8 d9 d10 d11 d12
  cases hz : (r != 0)
  rotate_left
  · clear hr
    go_wp2
    go_ret
    exact ⟨rfl, hB4⟩
  obtain rfl : r = 0 := by simpa using hz
  have HE : Aside (P.SailE x 0) := hr
  obtain ⟨_, _, h0, hbk, h16, _, hmn, _⟩ := sail_ok hr
  obtain ⟨hl1, hl7, hs1, hs60, _, _, _, hbs⟩ := shp_size h0
  have H0 : Aside (P.shp x.s = 0) := h0
  have HBK : Aside (∀ b ∈ x.bks, P.bkE x.s b = 0) := hbk
  have hov : P.over (P.soulsL x.s.legs.toNat x.bks) = false := by
    cases ho : P.over (P.soulsL x.s.legs.toNat x.bks)
    · rfl
    · have := over_many hs60 hs1 ho
      rw [hmn] at this
      cases this
  have HSO : Aside (P.soE x.s x.bks = 0 ∧ P.soL x.s x.bks = P.soulsL x.s.legs.toNat x.bks) := by
    have e1 : P.soE x.s x.bks = 0 := by rw [P.soE, if_pos (by rw [P.allE, if_pos h0]; exact bksE_zero hbk), if_neg (by simp [hov])]
    exact ⟨e1, by rw [P.soL, if_pos e1]⟩
  have HSM : Aside (∀ y ∈ P.soulsL x.s.legs.toNat x.bks, y ≤ x.s.souls) := by
    have h1 : (P.soulsL x.s.legs.toNat x.bks).any (fun y => decide (x.s.souls < y)) = false := by rw [mst_any (by omega)]; exact hmn
    intro y hy
    have := List.any_eq_false.1 h1 y hy
    simp at this
    exact this
  have HG : Aside (Ma.P.graphE ((P.pids x.bks).length : Nat) (x.s.bs.length : Nat) (P.pedg x.s x.bks 0 x.bks) = 0) := pedg_graph h16 hbs
  have HKL : Aside (∀ k, Ma.MaxM (P.pedg x.s x.bks 0 x.bks) k → k = (P.pids x.bks).length) := fun k hk => kept_len hr hk
  obtain ⟨d0, d1, d2, d3, d4, d5, d6, d7, d8, d9, d10, d11, d12⟩ := HX4.out
  clear hr hz h0 hbk hmn hov hl1 hl7 hs1 hs60
  go_wp2_with fail
  refine (stockPromises_any x a _ (hs.below hB4)).mono ?_
  rintro e w5 ⟨r, v1, v2, rfl, hr, own1, own2, hb5⟩
  obtain rfl : r = 0 := SailE.one hr HE.out
  rw [P.ok, if_pos rfl] at own1 own2
  obtain ⟨ao1, cap1, rfl, l1⟩ := OwnJ.at own1
  obtain ⟨ao2, cap2, rfl, l2⟩ := OwnC.at cellsG_len own2
  have hle1 := l1.le
  have hmx1 := l1.max
  unfold maxLen at hmx1
  have HX5 : Aside (SBox w5 w.heap.size x a) := HX4.out.below hb5
  have hB5 := bvia hB4 hb5
  clear d0 d1 d2 d3 d4 d5 d6 d7 d8 d9 d10 d11 d12 hr own1 own2 l1
  generalize hPE : P.pedg x.s x.bks 0 x.bks = E at HG HKL l2 ⊢
  generalize hPI : (P.pids x.bks).length = ni at HG HKL hle1 ⊢
  clear hPE hPI
  have d3 := HX5.out.c3
  go_wp2_with fail
  refine (Ma.most_any ao2 cap2 E ni x.s.bs.length _ l2).mono ?_
  rintro e w6 ⟨v6, k6, rfl, own6, hb6, _, hok6⟩
  rw [HG.out]
  obtain ⟨_, _, hmx6⟩ := hok6 HG.out
  have hk6 : k6.length = ni := HKL.out _ hmx6
  obtain ⟨ao6, cap6, hv6⟩ : ∃ ao6 cap6, v6 = .slice ao6 k6.length cap6 := by obtain ⟨ao6, cap6, hv, -⟩ := Ma.OwnE.at own6; exact ⟨_, _, hv⟩
  rw [hv6, hk6]
  have HX6 : Aside (SBox w6 w.heap.size x a) := HX5.out.below hb6
  have hB6 := bvia hB5 hb6
  obtain ⟨d0, d1, d2, d3', d4, d5, d6, d7, d8, d9, d10, d11, d12⟩ := HX6.out
  clear own6 hok6 hmx6 hk6 hv6 d3 l2 HG HKL
  go_wp2_with fail
  refine (souls_any x.s a.v a.ao a.cap x.bks _ (hs.below hB6).ship (SlAt.below RBk.mono hs.bks hB6) (by omega)).mono ?_
  rintro e w7 ⟨v7, rfl, own7, hb7⟩
  rw [HSO.out.1]
  rw [HSO.out.2] at own7
  obtain ⟨ao7, cap7, rfl, l7⟩ := Ma.OwnI.at own7
  generalize P.soulsL x.s.legs.toNat x.bks = SL at HSM l7 own7 ⊢
  have hle7 := l7.le
  have hmx7 := l7.max
  unfold maxLen at hmx7
  have HX7 : Aside (SBox w7 w.heap.size x a) := HX6.out.below hb7
  have hB7 := bvia hB6 hb7
  clear d0 d1 d2 d3' d4 d5 d6 d7 d8 d9 d10 d11 d12 own7 HSO
  go_wp2
  go_loopg [10] SL.length (fun g i wr => ∃ (k : Nat), k ≤ SL.length ∧ g = SL.length - k ∧ i = .int .i64 k ∧ Below w7.heap.size w7 wr)
  case atStart => exact ⟨0, Nat.zero_le _, rfl, rfl, Below.refl _ _⟩
  case round =>
    obtain ⟨k, hk, rfl, rfl, hB⟩ := hrel
    have hbx := HX7.out.below hB
    by_cases hlt : k < SL.length
    · obtain ⟨b, off, y, rfl, hbw, hd, hc0⟩ := IntsAt.get l7 hB k hlt
      have hys : ¬ x.s.souls < y := by have := HSM.out y (mem_of_drop hd); omega
      have hds : decide (x.s.souls < y) = false := by simpa using hys
      have hkl : (k : Int) < SL.length := by omega
      have hk0 : (0 : Int) ≤ (k : Int) := by omega
      have d1 := hbx.c1
      clear hd hbx
      go_wp2
      go_quiet (fail)
      go_wp2
      go_roundg (SL.length - (k + 1))
      case measure => omega
      case rel => exact ⟨k + 1, by omega, rfl, by go_num, below_drewN hB _⟩
    · obtain rfl : k = SL.length := by omega
      have HX8 : Aside (SBox wr w.heap.size x a) := hbx
      have hB8 := bvia hB7 hB
      clear hbx hB HX7 hB7 HSM l7
      go_wp2
      go_loopg [11] x.bks.length (fun g i wx => ∃ (k : Nat), k ≤ x.bks.length ∧ g = x.bks.length - k ∧ i = .int .i64 k ∧ SBox wx w.heap.size x a ∧ Below w.heap.size w wx)
      case atStart => exact ⟨0, Nat.zero_le _, rfl, rfl, HX8.out, hB8⟩
      case round =>
        clear HX8 hB8
        obtain ⟨i, hi, rfl, rfl, hbx, hB⟩ := hrel
        have HBX : Aside (SBox wr w.heap.size x a) := hbx
        have d11 := hbx.c11
        by_cases hil : i < x.bks.length
        · obtain ⟨b, off, y, fo, fc, hao, hbw, hdy, hy, hfy⟩ := BksAt.get hs.bks (Below.refl _ w) i hil
          have HY : Aside (BkAt w b (off + i * 11) y fo fc ∧ x.bks[i]? = some y ∧ a.ao = some ⟨b, off, none⟩) := ⟨hy, getD' hdy, hao⟩
          have hili : (i : Int) < x.bks.length := by omega
          have hi0 : (0 : Int) ≤ (i : Int) := by omega
          clear hbx hdy hy hfy hao
          go_wp2
          go_loopg [12] i (fun g j wx => ∃ (k : Nat), k ≤ i ∧ g = i - k ∧ j = .int .i64 k ∧ SBox wx w.heap.size x a ∧ Below w.heap.size w wx)
          case atStart => exact ⟨0, Nat.zero_le _, rfl, rfl, HBX.out, hB⟩
          case round =>
            clear HBX d11 hB
            obtain ⟨j, hj, rfl, rfl, hbx, hB⟩ := hrel
            have HBX : Aside (SBox wr w.heap.size x a) := hbx
            by_cases hjl : j < i
            · obtain ⟨b', off', z, zo, zc, hao', _, hdz, hz, hfz⟩ := BksAt.get hs.bks (Below.refl _ w) j (by omega)
              obtain ⟨hyc, hyi, hao⟩ := HY.out
              obtain ⟨rfl, rfl⟩ : b' = b ∧ off' = off := by
                rw [hao] at hao'
                simp at hao'
                exact ⟨hao'.1.symm, hao'.2.symm⟩
              have hzi := getD' hdz
              have HAP : Aside (P.live y = true → P.live z = true → 0 ≤ y.cabin → y.cabin = z.cabin → Sp.P.meet y.frm y.to z.frm z.to = false) := fun e1 e2 e3 e4 => apart_of HE.out hjl hyi hzi e1 e2 e3 e4
              have HM0 : Aside (Sp.P.meets y.frm y.to z.frm z.to = 0) := meets_zero H0.out (HBK.out y (List.mem_of_getElem? hyi)) (HBK.out z (List.mem_of_getElem? hzi))
              obtain ⟨y0, y1, y2, y3, y4, y5, y6, y7, y8, y9, y10⟩ := hyc.below hB
              obtain ⟨z0, z1, z2, z3, z4, z5, z6, z7, z8, z9, z10⟩ := hz.below hB
              have d11 := hbx.c11
              rw [hao'] at d11
              have hbl : b' < wr.heap.size := World.block_lt_of_cell? wr _ y0
              have hwl : w.heap.size < wr.heap.size := hbx.lt
              have hjli : (j : Int) < i := by omega
              have hjlb : (j : Int) < x.bks.length := by omega
              have hj0 : (0 : Int) ≤ (j : Int) := by omega
              clear hbx hdz hz hfz hyc hyi hzi hao hao'
              go_wp2_with fail
              go_region_held3 (fun u => u.cell? ⟨w.heap.size, 11, none⟩ = some (.slice (some ⟨b', off', none⟩) x.bks.length a.cap) ∧ u.cell? ⟨b', off' + i * 11, none⟩ = some (.int .i64 y.id) ∧ u.cell? ⟨b', off' + i * 11 + 1, none⟩ = some (.int .i64 y.kind) ∧ u.cell? ⟨b', off' + i * 11 + 2, none⟩ = some (.int .i64 y.state) ∧ u.cell? ⟨b', off' + i * 11 + 3, none⟩ = some (.int .i64 y.guests) ∧ u.cell? ⟨b', off' + i * 11 + 4, none⟩ = some (.bool y.level) ∧ u.cell? ⟨b', off' + i * 11 + 5, none⟩ = some (.int .i64 y.cabin) ∧ u.cell? ⟨b', off' + i * 11 + 6, none⟩ = some (.int .i64 y.cat) ∧ u.cell? ⟨b', off' + i * 11 + 7, none⟩ = some (.int .i64 y.frm) ∧ u.cell? ⟨b', off' + i * 11 + 8, none⟩ = some (.int .i64 y.to) ∧ u.cell? ⟨b', off' + i * 11 + 9, none⟩ = some (.int .i64 y.til) ∧ u.cell? ⟨b', off' + i * 11 + 10, none⟩ = some (.slice fo y.fol.length fc) ∧ u.cell? ⟨b', off' + j * 11, none⟩ = some (.int .i64 z.id) ∧ u.cell? ⟨b', off' + j * 11 + 1, none⟩ = some (.int .i64 z.kind) ∧ u.cell? ⟨b', off' + j * 11 + 2, none⟩ = some (.int .i64 z.state) ∧ u.cell? ⟨b', off' + j * 11 + 3, none⟩ = some (.int .i64 z.guests) ∧ u.cell? ⟨b', off' + j * 11 + 4, none⟩ = some (.bool z.level) ∧ u.cell? ⟨b', off' + j * 11 + 5, none⟩ = some (.int .i64 z.cabin) ∧ u.cell? ⟨b', off' + j * 11 + 6, none⟩ = some (.int .i64 z.cat) ∧ u.cell? ⟨b', off' + j * 11 + 7, none⟩ = some (.int .i64 z.frm) ∧ u.cell? ⟨b', off' + j * 11 + 8, none⟩ = some (.int .i64 z.to) ∧ u.cell? ⟨b', off' + j * 11 + 9, none⟩ = some (.int .i64 z.til) ∧ u.cell? ⟨b', off' + j * 11 + 10, none⟩ = some (.slice zo z.fol.length zc))
                (first
                  | with_reducible exact ⟨d11, y0, y1, y2, y3, y4, y5, y6, y7, y8, y9, y10, z0, z1, z2, z3, z4, z5, z6, z7, z8, z9, z10⟩
                  | go_keep)
                (fail)
              all_goals
                clear d11 y0 y1 y2 y3 y4 y5 y6 y7 y8 y9 y10 z0 z1 z2 z3 z4 z5 z6 z7 z8 z9 z10
                cases h1 : (y.state == 3)
                · cases h2 : (z.state == 3)
                  · by_cases h3 : y.cabin < 0
                    · go_wp2
                      go_roundg (i - (j + 1))
                      case measure => omega
                      case rel => exact ⟨j + 1, by omega, rfl, by go_num, HBX.out.below (by go_grown), bvia hB (by go_grown)⟩
                    · cases h4 : (y.cabin != z.cabin)
                      · have HMT : Aside (Sp.P.meet y.frm y.to z.frm z.to = false) := HAP.out (by simp at h1; simp [P.live, h1]) (by simp at h2; simp [P.live, h2]) (by omega) (by simpa using h4)
                        go_wp2_with fail
                        refine (Sp.meets_any y.frm y.to z.frm z.to _).mono ?_
                        rintro e wm ⟨rfl, hbm⟩
                        rw [HM0.out, HMT.out]
                        have hbm' : Below wr.heap.size wr wm := bvia (by go_grown) hbm
                        go_wp2
                        go_roundg (i - (j + 1))
                        case measure => omega
                        case rel => exact ⟨j + 1, by omega, rfl, by go_num, HBX.out.below hbm', bvia hB hbm'⟩
                      · go_wp2
                        go_roundg (i - (j + 1))
                        case measure => omega
                        case rel => exact ⟨j + 1, by omega, rfl, by go_num, HBX.out.below (by go_grown), bvia hB (by go_grown)⟩
                  · go_wp2
                    go_roundg (i - (j + 1))
                    case measure => omega
                    case rel => exact ⟨j + 1, by omega, rfl, by go_num, HBX.out.below (by go_grown), bvia hB (by go_grown)⟩
                · go_wp2
                  go_roundg (i - (j + 1))
                  case measure => omega
                  case rel => exact ⟨j + 1, by omega, rfl, by go_num, HBX.out.below (by go_grown), bvia hB (by go_grown)⟩
            · obtain rfl : j = i := by omega
              clear hbx
              go_wp2
              go_roundg (x.bks.length - (j + 1))
              case measure => omega
              case rel => exact ⟨j + 1, by omega, rfl, by go_num, HBX.out, hB⟩
        · obtain rfl : i = x.bks.length := by omega
          clear hbx
          go_wp2
          go_ret
          exact ⟨rfl, hB⟩

end Go.Proofs.YthnoapejmleijadGreat.St
