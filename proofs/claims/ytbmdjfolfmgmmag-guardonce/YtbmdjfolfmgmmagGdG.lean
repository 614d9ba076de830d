import Derived.Test.YtbmdjfolfmgmmagGdF
import Derived.Maps.OwnSet
import Derived.Maps.Keyed
namespace Go.Proofs.Ytbmdjfolfmgmmag
open Go.ChangeShapes Go.WideShapes Go.ChangeAt Go.RowKit Go.Maps

/-! PACKETS: what came and was not told, by its counts. -/

def updM (M : Nat → Option ByteArray) (k : Nat) (x : Option ByteArray) : Nat → Option ByteArray := fun j => if j = k then x else M j
theorem updM_same (M : Nat → Option ByteArray) (k : Nat) (x : Option ByteArray) : updM M k x k = x := if_pos rfl
theorem updM_other (M : Nat → Option ByteArray) {j k : Nat} (x : Option ByteArray) (h : j ≠ k) : updM M k x j = M j := if_neg h
/-- How many are there, of the first n counts. -/
def cntM (M : Nat → Option ByteArray) : Nat → Nat
  | 0 => 0
  | n + 1 => cntM M n + if (M n).isSome then 1 else 0
theorem cntM_le (M : Nat → Option ByteArray) : ∀ n, cntM M n ≤ n
  | 0 => Nat.le_refl _
  | n + 1 => by have := cntM_le M n; rw [cntM]; split <;> omega
theorem cntM_above (M : Nat → Option ByteArray) {k : Nat} (x : Option ByteArray) : ∀ n, n ≤ k → cntM (updM M k x) n = cntM M n
  | 0, _ => rfl
  | n + 1, h => by
    have e : n ≠ k := by omega
    rw [cntM, cntM, cntM_above M x n (by omega), updM_other M x e]
theorem cntM_upd (M : Nat → Option ByteArray) {k : Nat} (x : Option ByteArray) : ∀ n, k < n → cntM (updM M k x) n + (if (M k).isSome then 1 else 0) = cntM M n + if x.isSome then 1 else 0
  | 0, h => by omega
  | n + 1, h => by
    by_cases e : n = k
    · subst e
      rw [cntM, cntM, cntM_above M x n (Nat.le_refl _), updM_same]
      omega
    · have ih := cntM_upd M (k := k) x n (by omega)
      rw [cntM, cntM, updM_other M x e]
      omega
theorem cntM_none (n : Nat) : cntM (fun _ => none) n = 0 := by
  induction n with
  | zero => rfl
  | succ n ih => rw [cntM, ih]; rfl
/-- So many counts there are. -/
def manyC : Nat := 16777216
def heldG (v : Value) : Option (DataW Value × List MemPlace) := some (.held v, [])
theorem Try.lawG : Keyed Try.prog 3 := int_keyed Try.underlying3
theorem Try.zeroG (w : World) : (zeroValue 9).run Try.prog w = .ok (.string { data := #[] }) w := by kernel_rfl
theorem keyG {k : Nat} (h : k ≤ 33554432) : keyOf Try.prog 3 (.int .i64 (k : Int)) = some (.int .i64 (k : Int)) := keyOf_int_mk Try.underlying3 (WalkArith.wf_i64 (by omega))
theorem keyLitG (k : Int) : WideAt.IsKeyLit (.int .i64 k) := by simp [WideAt.IsKeyLit]
theorem litG_ne {j k : Int} (h : j ≠ k) : Lit.int .i64 j ≠ Lit.int .i64 k := by
  intro e
  injection e with _ e
  exact h e
theorem ownsMap_tightG {w : World} {P : Program} {k : TypeId} {R : Value → Option (DataW Value × List MemPlace)} {b n n' : Nat} {D : DataW Value} (h : w.ownsMap P k R b n D) (hs : Maps.size D ≤ n') : w.ownsMap P k R b n' D := by
  obtain ⟨es, clock, hb, F, _, rfl⟩ := h
  refine ⟨es, clock, hb, F, ?_, rfl⟩
  simpa [Maps.size, length_sorted] using hs
/-- What a map tells. -/
structure Tells (D : DataW Value) (M : Nat → Option ByteArray) : Prop where
  size : Maps.size D = cntM M manyC
  has : ∀ k : Nat, k ≤ 33554432 → Maps.has D (.int .i64 (k : Int)) = (M k).isSome
  val : ∀ k : Nat, k ≤ 33554432 → ∀ x, M k = some x → ∀ z, D.atKey (.int .i64 (k : Int)) z = .held (.string x)
  keys : ∀ z : Int, Maps.has D (.int .i64 z) = true → 0 ≤ z ∧ z < 16777216
def StMap (w : World) (bm : Nat) (M : Nat → Option ByteArray) : Prop := ∃ D : DataW Value, w.ownsMap Try.prog 3 heldG bm manyC D ∧ Tells D M
theorem StMap.same {w w' : World} {bm : Nat} {M : Nat → Option ByteArray} (h : StMap w bm M) (e : w'.heap[bm]? = w.heap[bm]?) : StMap w' bm M := by
  obtain ⟨D, ⟨es, clock, hb, F, hs, hD⟩, r⟩ := h
  exact ⟨D, ⟨es, clock, by rw [e]; exact hb, F, hs, hD⟩, r⟩
theorem StMap.lt {w : World} {bm : Nat} {M : Nat → Option ByteArray} (h : StMap w bm M) : bm < w.heap.size := by
  obtain ⟨D, h, _⟩ := h
  exact World.ownsMap.lt h
theorem StMap.kept {w w' : World} {bm : Nat} {M : Nat → Option ByteArray} {S : List Nat} (h : StMap w bm M) (hk : Kept S w w') (hn : bm ∉ S) : StMap w' bm M := h.same (hk.block bm h.lt hn)
theorem StMap.made (w : World) : StMap (w.alloc (.map #[] 0)) w.heap.size (fun _ => none) :=
  ⟨.map [], ownsMap_tightG (World.ownsMap_made w _ _ _) (by simp [Maps.size]), ⟨by rw [cntM_none]; rfl, fun _ _ => rfl, fun _ _ _ hx => absurd hx (by simp), fun _ hz => absurd hz (by simp [Maps.has])⟩⟩
theorem heldG_inj {v : Value} {x : DataW Value} {ps : List MemPlace} (h : heldG v = some (x, ps)) : x = .held v := by
  unfold heldG at h
  simp at h
  exact h.1.symm
theorem StMap.look {w : World} {bm : Nat} {M : Nat → Option ByteArray} (h : StMap w bm M) {k : Nat} (hk : k ≤ 33554432) (c : Bool) :
    (∀ x, M k = some x → (Instr.lookup 59 (.map (some bm)) (.int .i64 (k : Int)) c).run Try.prog w = .ok (if c then .tuple #[.string x, .bool true] else .string x) w) ∧
    (M k = none → (Instr.lookup 59 (.map (some bm)) (.int .i64 (k : Int)) c).run Try.prog w = .ok (if c then .tuple #[.string { data := #[] }, .bool false] else .string { data := #[] }) w) := by
  obtain ⟨D, ho, hT⟩ := h
  cases c with
  | true =>
    obtain ⟨v, ps, hrun, hR⟩ := ho.look_ok Try.lawG Try.underlying59 (Try.zeroG w) (zd := .held (.string { data := #[] })) (zp := []) rfl (keyG hk)
    have h1 := heldG_inj hR
    rw [hT.has k hk] at hrun
    refine ⟨fun x hx => ?_, fun hx => ?_⟩
    · rw [hT.val k hk x hx] at h1
      have h1 := DataW.held.inj h1
      rw [hx, ← h1] at hrun
      exact hrun
    · rw [atKey_of_not_has (by rw [hT.has k hk, hx]; rfl)] at h1
      have h1 := DataW.held.inj h1
      rw [hx, ← h1] at hrun
      exact hrun
  | false =>
    obtain ⟨v, ps, hrun, hR⟩ := ho.lookup Try.lawG Try.underlying59 (Try.zeroG w) (zd := .held (.string { data := #[] })) (zp := []) rfl (keyG hk)
    have h1 := heldG_inj hR
    refine ⟨fun x hx => ?_, fun hx => ?_⟩
    · rw [hT.val k hk x hx] at h1
      have h1 := DataW.held.inj h1
      rw [← h1] at hrun
      exact hrun
    · rw [atKey_of_not_has (by rw [hT.has k hk, hx]; rfl)] at h1
      have h1 := DataW.held.inj h1
      rw [← h1] at hrun
      exact hrun
theorem grown_keptG {w w' : World} {g : Nat} (h : w.grownBy w' (some g)) : Kept [g] w w' := ⟨h.os, h.tape, h.output, h.size, fun k hk hn => h.block k hk (fun e => hn (by simp only [Option.some.injEq] at e; simp [e]))⟩
theorem StMap.put {w : World} {bm : Nat} {M : Nat → Option ByteArray} (h : StMap w bm M) {k : Nat} (hk : k < 16777216) (x : ByteArray) (hM : M k = none) :
    ∃ w', (Instr.mapUpdate 59 (.map (some bm)) (.int .i64 (k : Int)) (.string x)).run Try.prog w = .ok () w' ∧ StMap w' bm (updM M k (some x)) ∧ Kept [bm] w w' := by
  obtain ⟨D, ho, hT⟩ := h
  obtain ⟨w', hrun, h1, h2⟩ := ho.update Try.lawG Try.underlying59 (by unfold maxLen manyC; omega) (keyG (k := k) (by omega)) (show heldG (.string x) = some (.held (.string x), []) from rfl)
  refine ⟨w', hrun, ?_, grown_keptG h2⟩
  have hsz : Maps.size (D.put (.int .i64 (k : Int)) (.held (.string x))) = cntM (updM M k (some x)) manyC := by
    have h3 := cntM_upd M (k := k) (some x) manyC hk
    rw [hM] at h3
    rw [size_put (ho.tidy Try.lawG), hT.has k (by omega), hM, hT.size]
    simp at h3 ⊢
    omega
  refine ⟨_, ownsMap_tightG h1 (by rw [hsz]; exact cntM_le _ _), hsz, fun j hj => ?_, fun j hj y hy z => ?_, fun z hz => ?_⟩
  · by_cases e : j = k
    · subst e
      rw [has_put_same ho.isMap (keyLitG _), updM_same]
      rfl
    · rw [has_put_other (litG_ne (by omega)), updM_other M _ e]
      exact hT.has j hj
  · by_cases e : j = k
    · subst e
      rw [updM_same] at hy
      have hy := Option.some.inj hy
      rw [atKey_put_same ho.isMap (keyLitG _), hy]
    · rw [updM_other M _ e] at hy
      rw [atKey_put_other (litG_ne (by omega))]
      exact hT.val j hj y hy z
  · by_cases e : z = (k : Int)
    · omega
    · rw [has_put_other (litG_ne e)] at hz
      exact hT.keys z hz
theorem StMap.del {w : World} {bm : Nat} {M : Nat → Option ByteArray} (h : StMap w bm M) {k : Nat} (hk : k < 16777216) (ty : TypeId) :
    ∃ w', (Builtin.delete_ #[59, 3] ty #[.map (some bm), .int .i64 (k : Int)]).run Try.prog w = .ok (.tuple #[]) w' ∧ StMap w' bm (updM M k none) ∧ Kept [bm] w w' := by
  obtain ⟨D, ho, hT⟩ := h
  obtain ⟨w', hrun, h1, h2⟩ := ho.drop Try.lawG Try.underlying59 (keyG (k := k) (by omega)) ty
  refine ⟨w', hrun, ?_, grown_keptG h2.grown⟩
  have hsz : Maps.size (D.del (.int .i64 (k : Int))) = cntM (updM M k none) manyC := by
    have h3 := cntM_upd M (k := k) none manyC hk
    have h4 := size_del (k := .int .i64 (k : Int)) (ho.tidy Try.lawG)
    rw [hT.has k (by omega), hT.size] at h4
    simp at h3 h4
    omega
  refine ⟨_, ownsMap_tightG h1 (by rw [hsz]; exact cntM_le _ _), hsz, fun j hj => ?_, fun j hj y hy z => ?_, fun z hz => ?_⟩
  · by_cases e : j = k
    · subst e
      rw [has_del_same, updM_same]
      rfl
    · rw [has_del_other (litG_ne (by omega)), updM_other M _ e]
      exact hT.has j hj
  · by_cases e : j = k
    · subst e
      rw [updM_same] at hy
      cases hy
    · rw [updM_other M _ e] at hy
      rw [atKey_del_other (litG_ne (by omega))]
      exact hT.val j hj y hy z
  · by_cases e : z = (k : Int)
    · subst e
      rw [has_del_same] at hz
      cases hz
    · rw [has_del_other (litG_ne e)] at hz
      exact hT.keys z hz
end Go.Proofs.Ytbmdjfolfmgmmag
