/- Walks of put, whole. -/
import Derived.Test.YtfiaeokdcbmedafDoorCdA
import Derived.Deep.LoopGhost
namespace Go.Proofs.YtfiaeokdcbmedafDoor
open Go.RowKit
set_option linter.unusedSimpArgs false
set_option linter.unusedVariables false

/-- Lists of bytes. -/
abbrev CByte (n : UInt8) : List Value := [.int .u8 (n.toNat : Int)]
abbrev OwnB (w : World) (base : Nat) (v : Value) (l : List UInt8) : Prop := OwnC CByte 1 5 w base v l

theorem byte_wrap (n : Int) : IntKind.u8.wrap n = ((P.byte n).toNat : Int) := by
  have h : IntKind.u8.wrap n = n % 256 := by simp [IntKind.wrap, IntKind.signed, IntKind.bits]
  rw [h, P.byte]
  have h1 := Int.emod_nonneg n (show (256 : Int) ≠ 0 by decide)
  have h2 := Int.emod_lt_of_pos n (show (0 : Int) < 256 by decide)
  simp
  omega

theorem cellsB_len (n : UInt8) : (CByte n).length = 1 := rfl
theorem cellsB_one (n : UInt8) : ∀ u ∈ CByte n, u.oneCell' = true := by simp [CByte, Value.oneCell']
theorem Tryd.infoB : (Tryd.prog.info? 5).map (fun i => (i.zero, i.size, i.bytes)) = some (some (.int .u8 0), 1, 1) := by kernel_rfl

theorem wpList_app_byte {ops : Array Oper} {rest : List Oper} {o : Oper} {a : Act} {Q : Exit → Act → World → Prop} {W0 : World} (hgd : o.guard = none) (s x : Operand)
    (ho : o.op = .call { callee := .builtin .append, args := #[s, x], argTypes := #[54, 54] }) (base : Nat) (v : Value) (l : List UInt8) (y : UInt8) (z : Int) (hz : z = (y.toNat : Int)) (hs : a.eval s = v) (hown : OwnB W0 base v l)
    (H : Nat) (hH : W0.heap.size = H) (hx : a.eval x = .slice (some ⟨H, 0, none⟩) 1 1) (hb : base ≤ W0.heap.size) (hn : l.length ≤ 1000000)
    (h : ∀ v' w', OwnB w' base v' (l ++ [y]) → W0.grownBy w' v.ownBlock → wpList Tryd.prog ops Q rest (a.put o.dst v') w') : wpList Tryd.prog ops Q (o :: rest) a (W0.alloc (.cells #[.int .u8 z] 5)) := by
  subst hz
  exact wpList_app_one Tryd.infoB Tryd.underlying54 rfl (by decide) cellsB_len cellsB_one (by decide) hgd s x ho base v l y _ rfl hs hown H hH hx hb hn h

/-- What is no list of bytes stays as it is. -/
def FarB (w w' : World) : Prop := ∀ (g : Nat) (arr : Array Value) (t : TypeId) (z : Nat × Nat), w.heap[g]? = some (.cells arr t z) → t ≠ 5 → w'.heap[g]? = some (.cells arr t z)
theorem FarB.refl (w : World) : FarB w w := fun _ _ _ _ h _ => h
theorem FarB.trans {a b c : World} (h : FarB a b) (k : FarB b c) : FarB a c := fun g arr t z hg ht => k g arr t z (h g arr t z hg ht) ht
theorem FarB.below {w w' : World} (hb : Below w.heap.size w w') : FarB w w' := fun g arr t z hg _ => by rw [hb.block g (Array.getElem?_eq_some_iff.1 hg).1]; exact hg
theorem FarB.grown {w w' : World} {base : Nat} {v : Value} {l : List UInt8} (h : OwnB w base v l) (hg : w.grownBy w' v.ownBlock) : FarB w w' := by
  intro g arr t z hgt ht
  rw [hg.block g (Array.getElem?_eq_some_iff.1 hgt).1 (fun e => ?_)]
  · exact hgt
  · rcases h.2 with ⟨rfl, _⟩ | ⟨g', cap, cur, rfl, _, hg', _⟩
    · simp [Value.ownBlock] at e
    · simp [Value.ownBlock] at e
      subst e
      rw [hg'] at hgt
      simp at hgt
      exact ht hgt.2.1.symm
theorem NatsB.far {w w' : World} {ao : Option Addr} {l : List Nat} (h : NatsB w ao l) (hf : FarB w w') : NatsB w' ao l := by
  rcases h with h | ⟨g, rfl, hg⟩
  · exact .inl h
  · exact .inr ⟨g, rfl, hf g _ _ _ hg (by decide)⟩

theorem take_on {α : Type} {l : List α} {k : Nat} {x : α} (h : l[k]? = some x) : l.take k ++ [x] = l.take (k + 1) := by
  have hk := (List.getElem?_eq_some_iff.1 h).1
  rw [List.take_add_one, h]
  rfl
theorem two_256 (j : Nat) : (2 : Int) ^ (8 * j) = 256 ^ j := by rw [Int.pow_mul]; rfl

set_option maxHeartbeats 2000000 in
theorem put_any (v : Value) (l : List UInt8) (n : Int) (m : Nat) (base : Nat) (w : World) (hown : OwnB w base v l) (hb : base ≤ w.heap.size) (hl : l.length ≤ 1000) (hm : m ≤ 4) :
    Calls Tryd.prog 25 #[v, .int .i64 n, .int .i64 m] w fun e w' => ∃ v', e = .returned v' ∧ OwnB w' base v' (l ++ P.be n m) ∧ Below base w w' ∧ FarB w w' := by
  go_enter Tryd.func25, Tryd.ntmps25
  go_wp2
  go_loopg [0, 9] m (fun g s i wr => ∃ (k : Nat), k ≤ m ∧ g = m - k ∧ i = .int .i64 k ∧ OwnB wr base s (l ++ (P.be n m).take k) ∧ Below base w wr ∧ base ≤ wr.heap.size ∧ FarB w wr)
  case atStart => exact ⟨0, Nat.zero_le _, rfl, rfl, by simpa using hown, Below.refl _ _, hb, FarB.refl _⟩
  case round =>
    obtain ⟨k, hk, rfl, rfl, hO, hB, hS, hF⟩ := hrel
    have HO : Aside (OwnB wr base u0 (l ++ (P.be n m).take k)) := hO
    have HF : Aside (FarB w wr) := hF
    clear hO hF
    by_cases hlt : k < m
    · have hy : n / 2 ^ (8 * (m - 1 - k)) % 256 = ((P.byte (n / (256 : Int) ^ (m - 1 - k))).toNat : Int) := by rw [← byte_wrap, two_256]; simp [IntKind.wrap, IntKind.signed, IntKind.bits]
      have HT : Aside (l ++ (P.be n m).take k ++ [P.byte (n / (256 : Int) ^ (m - 1 - k))] = l ++ (P.be n m).take (k + 1)) := by show _ = _; rw [List.append_assoc, take_on (be_get m n k hlt)]
      have HL : Aside ((l ++ (P.be n m).take k).length ≤ 1000000) := by show _ ≤ _; simp; omega
      go_wp2_with (at_builtin; refine wpList_app_byte rfl (.tmp 12) (.tmp 21) rfl base _ _ _ _ rfl rfl HO.out _ rfl rfl hS HL.out ?_; intro v2 w2 hown2 hgr2)
      have HO2 : Aside (OwnB w2 base v2 (l ++ (P.be n m).take (k + 1))) := by rw [HT.out] at hown2; exact hown2
      have hB2 : Below base w w2 := hB.grown hgr2 hS (fun j hj => (World.ownsRow.lt HO.out j hj).1)
      have hS2 := Nat.le_trans hS hgr2.size
      have HF2 : Aside (FarB w w2) := HF.out.trans (FarB.grown HO.out hgr2)
      clear hown2 hgr2
      go_wp2
      go_roundg (m - (k + 1))
      case measure => omega
      case rel => exact ⟨k + 1, by omega, rfl, by go_num, HO2.out, hB2, hS2, HF2.out⟩
    · obtain rfl : k = m := by omega
      go_wp2
      go_ret
      exact ⟨_, rfl, by have := HO.out; rwa [List.take_of_length_le (by rw [be_len]; omega)] at this, hB, HF.out⟩

/-- The number that bytes are, the greatest first. -/
def P.wh (l : List UInt8) : Nat := l.foldl (fun n b => n * 256 + b.toNat) 0
theorem wh_snoc (l : List UInt8) (b : UInt8) : P.wh (l ++ [b]) = P.wh l * 256 + b.toNat := by simp [P.wh]
theorem wh_bound : ∀ (n : Nat) (l : List UInt8), l.length = n → P.wh l < 256 ^ n := by
  intro n
  induction n with
  | zero => intro l h; obtain rfl := List.eq_nil_of_length_eq_zero h; simp [P.wh]
  | succ n ih =>
    intro l h
    obtain ⟨l', b, rfl⟩ : ∃ l' b, l = l' ++ [b] := ⟨l.dropLast, l.getLast (by intro e; simp [e] at h), (List.dropLast_concat_getLast _).symm⟩
    simp at h
    have h1 := ih l' h
    have hb : b.toNat < 256 := b.toNat_lt
    rw [wh_snoc, Nat.pow_succ]
    generalize 256 ^ n = X at *
    omega
theorem wh_lt4 (l : List UInt8) (h : l.length ≤ 4) : P.wh l < 4294967296 := by
  have h1 := wh_bound _ l rfl
  have h2 : 256 ^ l.length ≤ 256 ^ 4 := Nat.pow_le_pow_right (by decide) h
  omega
theorem ofInt_64 (i : Nat) (h : i < 18446744073709551616) : (BitVec.ofInt 64 (i : Int)).toNat = i := by
  rw [BitVec.ofInt_natCast, BitVec.toNat_ofNat]; exact Nat.mod_eq_of_lt (by omega)
theorem wrap_small (n : Nat) (h : n < 9223372036854775808) : IntKind.i64.wrap (n : Int) = (n : Int) := by
  have e : (n : Int) % 2 ^ 64 = n := Int.emod_eq_of_lt (by omega) (by omega)
  simp only [IntKind.wrap, IntKind.bits, IntKind.signed, e]
  rw [if_neg]
  simp
  omega
theorem or_bytes (x b : Nat) (hx : x < 4294967296) (hb : b < 256) : bits .or .i64 ((x * 256 : Nat) : Int) (b : Int) = ((x * 256 + b : Nat) : Int) := by
  show IntKind.i64.wrap ((BitVec.ofInt 64 ((x * 256 : Nat) : Int) ||| BitVec.ofInt 64 (b : Int)).toNat : Int) = _
  rw [BitVec.toNat_or, ofInt_64 _ (by omega), ofInt_64 _ (by omega)]
  have e : x * 256 ||| b = x * 256 + b := by
    have := Nat.shiftLeft_add_eq_or_of_lt (i := 8) (b := b) (by omega) x
    rw [Nat.shiftLeft_eq] at this
    exact this.symm
  rw [e]
  exact wrap_small _ (by omega)
theorem wh_or (l : List UInt8) (k : Nat) (hk : k < l.length) (h4 : l.length ≤ 4) (h : k < (ByteArray.mk l.toArray).size) :
    bits .or .i64 (wrap64 ((P.wh (l.take k) : Int) * 256)) (wrap64 (((ByteArray.mk l.toArray)[k]'h).toNat : Int)) = (P.wh (l.take (k + 1)) : Int) := by
  have e : (ByteArray.mk l.toArray)[k]'h = l[k] := by simp [ByteArray.getElem_eq_getElem_data]
  have hw := wh_lt4 (l.take k) (by simp; omega)
  have hb : l[k].toNat < 256 := l[k].toNat_lt
  rw [e, ← take_on (List.getElem?_eq_getElem hk), wh_snoc, ← or_bytes _ _ hw hb]
  congr 1
  · unfold wrap64; omega
  · unfold wrap64; omega

set_option maxHeartbeats 2000000 in
theorem whole_any (l : List UInt8) (w : World) (hl : l.length ≤ 4) :
    Calls Tryd.prog 27 #[.string ⟨l.toArray⟩] w fun e w' => e = .returned (.int .i64 (P.wh l)) ∧ w = w' := by
  go_enter Tryd.func27, Tryd.ntmps27
  go_wp2
  go_loopg [3, 7] l.length (fun g s i wr => ∃ (k : Nat), k ≤ l.length ∧ g = l.length - k ∧ i = .int .i64 k ∧ s = .int .i64 (P.wh (l.take k)) ∧ wr = w)
  case atStart => exact ⟨0, Nat.zero_le _, rfl, rfl, rfl, rfl⟩
  case round =>
    obtain ⟨k, hk, rfl, rfl, rfl, rfl⟩ := hrel
    by_cases hlt : k < l.length
    · have hsz : k < (ByteArray.mk l.toArray).size := by simpa [ByteArray.size] using hlt
      go_wp2
      go_roundg (l.length - (k + 1))
      case measure => omega
      case rel => exact ⟨k + 1, by omega, rfl, by go_num, congrArg (Value.int .i64) (wh_or l k hlt hl hsz), rfl⟩
    · obtain rfl : k = l.length := by omega
      have e : l.take l.length = l := List.take_of_length_le (Nat.le_refl _)
      rw [e]
      go_wp2
      go_ret
      exact ⟨rfl, rfl⟩

end Go.Proofs.YtfiaeokdcbmedafDoor
