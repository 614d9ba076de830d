import Derived.Test.YtpeidccpplfbaaeDoorHoA
import Derived.Test.YtpeidccpplfbaaeDoorHqD
import Derived.Test.YtpeidccpplfbaaeDoorHsG
namespace Go.Proofs.YtpeidccpplfbaaeDoor
open Go.ChangeShapes Go.WideShapes Go.ChangeAt Go.RowKit Go.Maps

/-! WHAT THE LAW HarqOnce HOLDS: the names handed over, the count of what was told. -/

def DArr (w : World) (gd : Nat) (ds : List ByteArray) : Prop := w.heap[gd]? = some (.cells (ds.map Value.string).toArray 49 (0, 0))
theorem DArr.lt {w : World} {g : Nat} {ds : List ByteArray} (h : DArr w g ds) : g < w.heap.size := (Array.getElem?_eq_some_iff.1 h).1
theorem DArr.kept {w w' : World} {g : Nat} {ds : List ByteArray} {S : List Nat} (h : DArr w g ds) (hk : Kept S w w') (h1 : g ∉ S) : DArr w' g ds := (hk.block g h.lt h1).trans h
theorem DArr.free {w : World} {g : Nat} {ds : List ByteArray} (h : DArr w g ds) (k : Nat) : w.frozen? ⟨g, k, none⟩ = false := frozen_of_row w g k _ _ h
theorem DArr.cell {w : World} {g : Nat} {ds : List ByteArray} (h : DArr w g ds) (hl : ds.length = 8) {k : Nat} (hk : k < 8) : w.cell? ⟨g, k, none⟩ = some (.string (ds.getD k ByteArray.empty)) := by
  rw [cell_of_row _ _ _ _ _ _ h]
  have hk' : k < ds.length := by omega
  simp [List.getD, hk']
theorem DArr.set {w : World} {g : Nat} {ds : List ByteArray} (h : DArr w g ds) (k : Nat) (s : ByteArray) : DArr (w.setCell ⟨g, k, none⟩ (.string s)) g (ds.set k s) := by
  refine (heap_setCell_same w g k _ _ (.string s) h).trans ?_
  simp [List.map_set]

theorem Tryd.lawS : Keyed Tryd.prog 9 := string_keyed Tryd.underlying9
theorem Tryd.zeroI (w : World) : (zeroValue 3).run Tryd.prog w = .ok (.int .i64 0) w := by kernel_rfl
def nameL (i : Nat) : Lit := .string (nameB i).data.toList
theorem keyN (i : Nat) : keyOf Tryd.prog 9 (.string (nameB i)) = some (nameL i) := Go.WideMaps.keyOf_string_mk Tryd.underlying9 (by rw [nameB_size]; unfold maxLen; omega)
theorem nameL_inj {i j : Nat} (hi : i < 4294967296) (hj : j < 4294967296) (h : nameL i = nameL j) : i = j := by
  injection h with h
  refine nameB_inj hi hj ?_
  have : (nameB i).data = (nameB j).data := Array.toList_inj.1 h
  cases hi' : nameB i
  cases hj' : nameB j
  rw [hi', hj'] at this
  simp only at this
  rw [this]
theorem nameL_key (i : Nat) : WideAt.IsKeyLit (nameL i) := by simp [WideAt.IsKeyLit, nameL]
/-- The map that counts how often a name was told. -/
def TMap (w : World) (gt : Nat) (T : Nat → Bool) (c : Nat) : Prop := ∃ D : DataW Unit, w.ownsMap Tryd.prog 9 (plainElem Tryd.prog 3) gt c D ∧ ∀ i, i < 4294967296 → D.atKey (nameL i) (.lit (.int .i64 0)) = .lit (.int .i64 (if T i then 1 else 0))
theorem TMap.lt {w : World} {gt : Nat} {T : Nat → Bool} {c : Nat} (h : TMap w gt T c) : gt < w.heap.size := by
  obtain ⟨D, h, _⟩ := h
  exact World.ownsMap.lt h
theorem TMap.same {w w' : World} {gt : Nat} {T : Nat → Bool} {c : Nat} (h : TMap w gt T c) (e : w'.heap[gt]? = w.heap[gt]?) : TMap w' gt T c := by
  obtain ⟨D, ⟨es, clock, hb, F, hs, hD⟩, r⟩ := h
  exact ⟨D, ⟨es, clock, by rw [e]; exact hb, F, hs, hD⟩, r⟩
theorem TMap.kept {w w' : World} {gt : Nat} {T : Nat → Bool} {c : Nat} {S : List Nat} (h : TMap w gt T c) (hk : Kept S w w') (h1 : gt ∉ S) : TMap w' gt T c := h.same (hk.block gt h.lt h1)
theorem TMap.mono {w : World} {gt : Nat} {T : Nat → Bool} {c c' : Nat} (h : TMap w gt T c) (hc : c ≤ c') : TMap w gt T c' := by
  obtain ⟨D, h, r⟩ := h
  exact ⟨D, h.mono hc, r⟩
theorem TMap.made (w : World) : TMap (w.alloc (.map #[] 0)) w.heap.size (fun _ => false) 0 := ⟨.map [], World.ownsMap_made w _ _ _, fun _ _ => rfl⟩
theorem TMap.look {w : World} {gt : Nat} {T : Nat → Bool} {c : Nat} (h : TMap w gt T c) {i : Nat} (hi : i < 4294967296) : (Instr.lookup 50 (.map (some gt)) (.string (nameB i)) false).run Tryd.prog w = .ok (.int .i64 (if T i then 1 else 0)) w := by
  obtain ⟨D, ho, hD⟩ := h
  obtain ⟨x, hrun, hat, _⟩ := ho.lookup_int Tryd.lawS Tryd.underlying50 Tryd.underlying3 (Tryd.zeroI w) (keyN i)
  rw [hD i hi] at hat
  have e : (if T i then 1 else 0 : Int) = x := by simpa using hat
  rw [e]
  exact hrun
theorem TMap.put {w : World} {gt : Nat} {T : Nat → Bool} {c : Nat} (h : TMap w gt T c) {i : Nat} (hi : i < 4294967296) (hc : c < maxLen) : ∃ w', (Instr.mapUpdate 50 (.map (some gt)) (.string (nameB i)) (.int .i64 1)).run Tryd.prog w = .ok () w' ∧ TMap w' gt (fun j => T j || decide (j = i)) (c + 1) ∧ Kept [gt] w w' := by
  obtain ⟨D, ho, hD⟩ := h
  obtain ⟨w', hrun, h1, h2⟩ := ho.update Tryd.lawS Tryd.underlying50 hc (keyN i) (plainElem_int Tryd.underlying3 (by decide) : plainElem Tryd.prog 3 (.int .i64 1) = some (.lit (.int .i64 1), []))
  refine ⟨w', hrun, ⟨_, h1, fun j hj => ?_⟩, kept_grownH h2 (by simp)⟩
  by_cases e : j = i
  · subst e
    rw [atKey_put_same ho.isMap (nameL_key _)]
    simp
  · rw [atKey_put_other (fun e2 => e (nameL_inj hj hi e2)), hD j hj]
    simp [e]

theorem and_lowH (x : Int) (i : Nat) (hi : i ≤ 62) : bits BinOp.and IntKind.i64 x (2 ^ i - 1) = x % 2 ^ i := by
  have hp : (0 : Int) < 2 ^ i := Int.pow_pos (by decide)
  have hle : (2 : Int) ^ i ≤ 2 ^ 62 := by exact_mod_cast Nat.pow_le_pow_right (by decide) hi
  have hnat : 2 ^ i - 1 < 2 ^ 64 := by
    have : 2 ^ i ≤ 2 ^ 62 := Nat.pow_le_pow_right (by decide) hi
    omega
  have hc : ((2 : Int) ^ i - 1) = ((2 ^ i - 1 : Nat) : Int) := by
    rw [Int.natCast_sub (Nat.two_pow_pos i)]; simp
  rw [hc]
  have hb : bits BinOp.and IntKind.i64 x ((2 ^ i - 1 : Nat) : Int) = IntKind.i64.wrap (((x % ((2 ^ 64 : Nat) : Int)).toNat % 2 ^ i : Nat) : Int) := by
    have e1 : (BitVec.ofInt 64 x &&& BitVec.ofInt 64 ((2 ^ i - 1 : Nat) : Int)).toNat = (x % ((2 ^ 64 : Nat) : Int)).toNat % 2 ^ i := by
      rw [BitVec.toNat_and, BitVec.ofInt_natCast, BitVec.toNat_ofNat, BitVec.toNat_ofInt, Nat.mod_eq_of_lt hnat, Nat.and_two_pow_sub_one_eq_mod]
    exact congrArg (fun n : Nat => IntKind.i64.wrap (n : Int)) e1
  rw [hb]
  have h0 : 0 ≤ x % ((2 ^ 64 : Nat) : Int) := Int.emod_nonneg _ (by decide)
  have e : (((x % ((2 ^ 64 : Nat) : Int)).toNat % 2 ^ i : Nat) : Int) = x % 2 ^ i := by
    rw [Int.natCast_emod, Int.toNat_of_nonneg h0]
    have hd : ((2 ^ i : Nat) : Int) ∣ ((2 ^ 64 : Nat) : Int) := Int.natCast_dvd_natCast.2 (Nat.pow_dvd_pow 2 (by omega))
    rw [Int.emod_emod_of_dvd _ hd]
    simp
  rw [e, IntKind.wrap_i64]
  have h1 := Int.emod_nonneg x (Int.ne_of_gt hp)
  have h2 := Int.emod_lt_of_pos x hp
  omega
theorem run_leqL {ρ : Operand → Value} (w : World) {o : Oper} {x y : Operand} {p q : Int} (ho : o.op = .binOp .leq 3 x y 3) (h : ρ x = .int .i64 p) (h' : ρ y = .int .i64 q) : (execOp ρ o).run Tryd.prog w = .ok (.value (.bool (decide (p ≤ q)))) w := by
  unfold execOp
  simp only [ho, h, h']
  simp [go_sem]
theorem name_of (n : Nat) (hn : n ≤ 1048576) : ({ data := #[98, 108, 111, 99, 107, 32] } : ByteArray) ++ strOfNums [(n : Int) / 16777216, (n : Int) / 65536, (n : Int) / 256 % 256, (n : Int) % 256] = nameB n := by
  have e1 : ((n : Int) / 16777216).toNat = n / 16777216 := by omega
  have e2 : ((n : Int) / 65536).toNat = n / 65536 := by omega
  have e3 : UInt8.ofNat ((n : Int) / 256 % 256).toNat = UInt8.ofNat (n / 256) := by
    rw [show ((n : Int) / 256 % 256).toNat = n / 256 % 256 by omega]
    apply UInt8.toNat_inj.1
    simp
  have e4 : UInt8.ofNat ((n : Int) % 256).toNat = UInt8.ofNat n := by
    rw [show ((n : Int) % 256).toNat = n % 256 by omega]
    apply UInt8.toNat_inj.1
    simp
  unfold strOfNums nameB
  simp [e1, e2, e3, e4]
  rfl
theorem sub_full {m : SendM} (n : Nat) (h : m.least = 8) : m.sub (nameB n) = ⟨0, 7, m⟩ := by
  unfold SendM.sub
  rw [if_neg (by rw [nameB_size]; omega), if_pos h]
theorem sub_good {m : SendM} (n : Nat) (h : m.least ≠ 8) : m.sub (nameB n) = ⟨(m.least : Int), 0, m.set m.least ((m.tat m.least).given (nameB n))⟩ := by
  unfold SendM.sub
  rw [if_neg (by rw [nameB_size]; omega), if_neg h]
theorem ans_good {m : SendM} (hl : m.p.length = 8) {k : Nat} (hk : k < 8) (hb : (m.tat k).busy = true) (yes : Bool) : (m.set k (m.tat k).tried).ans (k : Int) yes = ⟨(m.set k (m.tat k).tried).done k yes, 0, m.set k ((m.set k (m.tat k).tried).answered k yes)⟩ := by
  have hp : ¬ procErr (k : Int) = 1 := by unfold procErr; rw [if_pos (by omega)]; decide
  unfold SendM.ans
  rw [if_neg hp, Int.toNat_natCast, tat_same hl hk, if_neg (by show ¬ (m.tat k).busy = false; rw [hb]; decide), if_neg (by show ¬ true = false; decide), set_set]
theorem ans_flag {m : SendM} (hl : m.p.length = 8) {k : Nat} (hk : k < 8) (yes : Bool) : ((m.set k (m.tat k).tried).answered k yes).flag = (m.tat k).flag ∧ ((m.set k (m.tat k).tried).answered k yes).data = (m.tat k).data := by
  unfold SendM.answered
  rw [tat_same hl hk]
  exact ⟨rfl, rfl⟩
end Go.Proofs.YtpeidccpplfbaaeDoor
