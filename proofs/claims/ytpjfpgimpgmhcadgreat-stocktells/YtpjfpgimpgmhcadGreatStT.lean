/- StockKept: its mathematics, and its walk. -/
import Derived.Test.YtpjfpgimpgmhcadGreatStS
namespace Go.Proofs.YtpjfpgimpgmhcadGreat.St
open Go.RowKit Bk
set_option linter.unusedSimpArgs false
set_option linter.unusedVariables false
set_option maxRecDepth 10000

theorem isM_le {E m : List (Int × Int)} {n : Nat} (hE : ∀ x ∈ E, 0 ≤ x.1 ∧ x.1 < (n : Int)) (hm : Ma.IsM E m) : m.length ≤ n := by
  have hnd : (m.map (fun z => z.1)).Nodup := by
    rw [List.nodup_iff_pairwise_ne, List.pairwise_map]
    refine (List.pairwise_iff_getElem.2 fun i j hi hj hij => ?_)
    exact (List.pairwise_iff_getElem.1 hm.2 i j hi hj hij).1
  have := Ma.pigeon n _ hnd (fun x hx => by
    obtain ⟨z, hz, rfl⟩ := List.mem_map.1 hx
    exact hE z (hm.1 z hz))
  simpa using this
theorem pedg_left {x : Sail} : ∀ z ∈ P.pedg x.s x.bks 0 x.bks, 0 ≤ z.1 ∧ z.1 < ((P.pids x.bks).length : Int) := fun z hz => by
  have := pedg_mem hz
  rw [pids_len]
  omega
/-- As many promises as the greatest matching has edges. -/
theorem kept_len {x : Sail} {k : Nat} (h : P.SailE x 0) (hk : Ma.MaxM (P.pedg x.s x.bks 0 x.bks) k) : k = (P.pids x.bks).length := by
  obtain ⟨_, _, _, _, _, _, _, c, hc, hle⟩ := sail_ok h
  have e := Ma.MaxM.one hk hc
  obtain ⟨m, hm, hml⟩ := hk.1
  have := isM_le pedg_left hm
  omega
theorem meet_comm (a b c d : Int) : Sp.P.meet a b c d = Sp.P.meet c d a b := by rw [Sp.P.meet, Sp.P.meet, Bool.and_comm]
theorem adds_apart {n : Int} {acc r : List (Int × Int)} (h : P.addsE n acc r = 0) : (∀ z ∈ acc, ∀ y ∈ r, Sp.P.meet z.1 z.2 y.1 y.2 = false) ∧ r.Pairwise (fun a b => Sp.P.meet a.1 a.2 b.1 b.2 = false) := by
  induction r generalizing acc with
  | nil => simp
  | cons y r ih =>
    rw [P.addsE] at h
    split at h
    · rename_i he
      obtain ⟨_, _, h3, h4⟩ := Sp.add_ok he
      rw [h4] at h
      obtain ⟨i1, i2⟩ := ih h
      refine ⟨fun z hz u hu => ?_, List.pairwise_cons.2 ⟨fun u hu => i1 (y.1, y.2) (Sp.mem_ins.2 (.inl rfl)) u hu, i2⟩⟩
      rcases List.mem_cons.1 hu with rfl | hu
      · exact h3 z hz
      · exact i1 z (Sp.mem_ins.2 (.inr hz)) u hu
    · contradiction
/-- Two that have one cabin do not meet. -/
theorem apart_of {x : Sail} (h : P.SailE x 0) {i k : Nat} {a b : Bkg} (hk : k < i) (hi : x.bks[i]? = some a) (hk2 : x.bks[k]? = some b) (ha : P.live a = true) (hb : P.live b = true) (hc : 0 ≤ a.cabin) (e : a.cabin = b.cabin) : Sp.P.meet a.frm a.to b.frm b.to = false := by
  obtain ⟨_, _, h0, hbk, _, ht, _⟩ := sail_ok h
  have hma : a ∈ x.bks := List.mem_of_getElem? hi
  obtain ⟨c1, c2, c3, c4, c5, c6, c7, c8⟩ := bk_ok (hbk a hma)
  have hcb : a.cabin < x.s.bs.length := by
    rcases c7 with h1 | h1
    · have := kind_named c6 h1
      simp [P.cabB, P.btw] at this; omega
    · rcases (kind_prom c6 h1).2.2.2.2 with h2 | ⟨h2, _⟩
      · omega
      · simp [P.cabB, P.btw] at h2; omega
  obtain ⟨n, hn⟩ : ∃ n : Nat, a.cabin = n := ⟨a.cabin.toNat, by omega⟩
  have hB : P.addsB x.s.legs (P.mine n x.bks) = true := by
    apply Classical.byContradiction
    intro hh
    have := twice_hit (x := x) (c := n) (by omega) (by simpa using hh)
    rw [ht] at this
    cases this
  have hz : P.addsE x.s.legs [] (P.mine n x.bks) = 0 := by simpa [P.addsB] using hB
  have hp := (adds_apart hz).2
  rw [P.mine, List.pairwise_map, List.pairwise_filter] at hp
  obtain ⟨hil, rfl⟩ := List.getElem?_eq_some_iff.1 hi
  obtain ⟨hkl, rfl⟩ := List.getElem?_eq_some_iff.1 hk2
  have := List.pairwise_iff_getElem.1 hp k i hkl hil hk (by simp [P.hasC, hb]; omega) (by simp [P.hasC, ha]; omega)
  rw [meet_comm]
  exact this
theorem meets_zero {s : Vsl} {a b : Bkg} (h0 : P.shp s = 0) (ha : P.bkE s a = 0) (hb : P.bkE s b = 0) : Sp.P.meets a.frm a.to b.frm b.to = 0 := by
  have h7 := (shp_size h0).2.1
  have f : ∀ c : Bkg, P.bkE s c = 0 → P.chk c.frm c.to 7 = 0 := fun c hc => by
    have h := (bk_ok hc).1
    unfold P.chk at h ⊢
    split at h
    · omega
    · split at h
      · omega
      · rename_i h1 h2
        rw [if_neg, if_neg h2]
        intro h3
        rcases h3 with h3 | h3 | h3
        · simp [P.sails] at h3
        · exact h1 (.inr (.inl h3))
        · exact h1 (.inr (.inr (by omega)))
  rw [Sp.P.meets, if_pos (f a ha), f b hb]

end Go.Proofs.YtpjfpgimpgmhcadGreat.St
