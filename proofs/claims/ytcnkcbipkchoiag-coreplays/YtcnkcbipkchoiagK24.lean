import Derived.Test.YtcnkcbipkchoiagK22
import Derived.Test.YtcnkcbipkchoiagK23
import Derived.Deep.RegionWith
import Derived.Test.YtcnkcbipkchoiagK01
import Derived.OrdersIn
import Derived.OwnWalkIn
import Derived.Great.Frames
namespace Go.Proofs.Ytcnkcbipkchoiag
open Go.ChangeShapes Go.WideShapes Go.ChangeAt Go.RowKit
theorem RCo.kept {w w' : World} {r : Nat} {F : List Nat} {m : CoM} {n : Nat} {T : List Nat} (h : RCo w r F m n) (hk : Kept T w w') (hd : ∀ x ∈ F, x ∉ T) : RCo w' r F m n := by
  obtain ⟨la, lc, pe, rfl, h⟩ := h
  exact ⟨la, lc, pe, rfl, h.kept hk hd⟩
theorem RCo.mono {w : World} {r : Nat} {F : List Nat} {m : CoM} {n n' : Nat} (h : RCo w r F m n) (hn : n ≤ n') : RCo w r F m n' := by
  obtain ⟨la, lc, pe, rfl, h⟩ := h
  exact ⟨la, lc, pe, rfl, h.mono hn⟩
theorem RCo.lt {w : World} {r : Nat} {F : List Nat} {m : CoM} {n : Nat} (h : RCo w r F m n) : ∀ x ∈ F, x < w.heap.size := by
  obtain ⟨la, lc, pe, rfl, h⟩ := h
  exact h.lt
/-- Both, and a block that is neither's. -/
structure DdF (w0 w : World) (c r : Nat) (F G : List Nat) (db : Nat) (T : TypeId) (cur : List Value) (m1 m2 : CoM) (n1 n2 : Nat) : Prop where
  co : PCo w c F m1 n1
  rc : RCo w r G m2 n2
  dj : ∀ x ∈ F, x ∉ G
  lf : ∀ x ∈ F, w0.heap.size ≤ x
  lg : ∀ x ∈ G, w0.heap.size ≤ x
  bl : Below w0.heap.size w0 w
  da : At w db T cur
  df : db ∉ F
  dg : db ∉ G
def Dd (w0 w : World) (c r db : Nat) (T : TypeId) (cur : List Value) (m1 m2 : CoM) (n1 n2 : Nat) : Prop := ∃ F G, DdF w0 w c r F G db T cur m1 m2 n1 n2
theorem DdF.prog {w0 w w' : World} {c r db n1 n2 n' : Nat} {T : TypeId} {cur : List Value} {F G F' : List Nat} {m1 m2 m' : CoM} (k : DdF w0 w c r F G db T cur m1 m2 n1 n2) (hk : Kept F w w') (co : PCo w' c F' m' n') (hg : Grown w.heap.size F F') : Dd w0 w' c r db T cur m' m2 n' n2 := by
  refine ⟨F', G, co, k.rc.kept hk (fun x hx hf => k.dj x hf hx), fun x hx hG => ?_, hg.low k.lf k.bl.size, k.lg, keptLow k.bl hk k.lf, k.da.kept hk k.df, hg.out k.df k.da.lt, k.dg⟩
  rcases hg x hx with h | h
  · exact k.dj x h hG
  · have := k.rc.lt x hG
    omega
theorem DdF.ref {w0 w w' : World} {c r db n1 n2 n' : Nat} {T : TypeId} {cur : List Value} {F G G' : List Nat} {m1 m2 m' : CoM} (k : DdF w0 w c r F G db T cur m1 m2 n1 n2) (hk : Kept G w w') (rc : RCo w' r G' m' n') (hg : Grown w.heap.size G G') : Dd w0 w' c r db T cur m1 m' n1 n' := by
  refine ⟨F, G', k.co.kept hk k.dj, rc, fun x hx hG => ?_, k.lf, hg.low k.lg k.bl.size, keptLow k.bl hk k.lg, k.da.kept hk k.dg, k.df, hg.out k.dg k.da.lt⟩
  rcases hg x hG with h | h
  · exact k.dj x hx h
  · have := k.co.lt x hx
    omega
theorem Dd.idle {w0 w w' : World} {c r db n1 n2 : Nat} {T : TypeId} {cur : List Value} {m1 m2 : CoM} (k : Dd w0 w c r db T cur m1 m2 n1 n2) (hk : Kept [] w w') : Dd w0 w' c r db T cur m1 m2 n1 n2 := by
  obtain ⟨F, G, k⟩ := k
  exact k.prog (hk.wider (by simp)) (k.co.kept hk (by simp)) (fun x hx => .inl hx)
theorem Dd.mono {w0 w : World} {c r db n1 n2 n1' n2' : Nat} {T : TypeId} {cur : List Value} {m1 m2 : CoM} (k : Dd w0 w c r db T cur m1 m2 n1 n2) (h1 : n1 ≤ n1') (h2 : n2 ≤ n2') : Dd w0 w c r db T cur m1 m2 n1' n2' := by
  obtain ⟨F, G, k⟩ := k
  exact ⟨F, G, k.co.mono h1, k.rc.mono h2, k.dj, k.lf, k.lg, k.bl, k.da, k.df, k.dg⟩
theorem Dd.bl {w0 w : World} {c r db n1 n2 : Nat} {T : TypeId} {cur : List Value} {m1 m2 : CoM} (k : Dd w0 w c r db T cur m1 m2 n1 n2) : Below w0.heap.size w0 w := by
  obtain ⟨F, G, k⟩ := k
  exact k.bl
theorem Dd.at {w0 w : World} {c r db n1 n2 : Nat} {T : TypeId} {cur : List Value} {m1 m2 : CoM} (k : Dd w0 w c r db T cur m1 m2 n1 n2) : At w db T cur := by
  obtain ⟨F, G, k⟩ := k
  exact k.da
/-- Both, and nothing else. -/
def Du (w0 w : World) (c r : Nat) (m : CoM) (n : Nat) : Prop := ∃ F G, PCo w c F m n ∧ RCo w r G m n ∧ (∀ x ∈ F, x ∉ G) ∧ (∀ x ∈ F, w0.heap.size ≤ x) ∧ (∀ x ∈ G, w0.heap.size ≤ x) ∧ Below w0.heap.size w0 w
theorem Dd.du {w0 w : World} {c r db n : Nat} {T : TypeId} {cur : List Value} {m : CoM} (k : Dd w0 w c r db T cur m m n n) : Du w0 w c r m n := by
  obtain ⟨F, G, k⟩ := k
  exact ⟨F, G, k.co, k.rc, k.dj, k.lf, k.lg, k.bl⟩
theorem Du.lay {w0 w : World} {c r n : Nat} {m : CoM} (k : Du w0 w c r m n) (U : TypeId) (new : List Value) : Dd w0 (w.alloc (.cells new.toArray U)) c r w.heap.size U new m m n n := by
  obtain ⟨F, G, k1, k2, k3, k4, k5, k6⟩ := k
  have hk : Kept [] w (w.alloc (.cells new.toArray U)) := (Kept.refl _ w).alloc _
  exact ⟨F, G, k1.kept hk (by simp), k2.kept hk (by simp), k3, k4, k5, keptLow k6 hk (by simp), at_alloc w U new, fun e => Nat.lt_irrefl _ (k1.lt _ e), fun e => Nat.lt_irrefl _ (k2.lt _ e)⟩
theorem Du.bl {w0 w : World} {c r n : Nat} {m : CoM} (k : Du w0 w c r m n) : Below w0.heap.size w0 w := by
  obtain ⟨F, G, -, -, -, -, -, h⟩ := k
  exact h
/-- Another block is laid beside. -/
theorem Dd.lay {w0 w : World} {c r db n1 n2 : Nat} {T : TypeId} {cur : List Value} {m1 m2 : CoM} (k : Dd w0 w c r db T cur m1 m2 n1 n2) (U : TypeId) (new : List Value) : Dd w0 (w.alloc (.cells new.toArray U)) c r w.heap.size U new m1 m2 n1 n2 := by
  obtain ⟨F, G, k⟩ := k
  have hk : Kept [] w (w.alloc (.cells new.toArray U)) := (Kept.refl _ w).alloc _
  exact ⟨F, G, k.co.kept hk (by simp), k.rc.kept hk (by simp), k.dj, k.lf, k.lg, keptLow k.bl hk (by simp), at_alloc w U new, fun e => Nat.lt_irrefl _ (k.co.lt _ e), fun e => Nat.lt_irrefl _ (k.rc.lt _ e)⟩
/-- A block that was there, and is still; no one's. -/
theorem Dd.other {w0 w : World} {c r db n1 n2 : Nat} {T : TypeId} {cur : List Value} {m1 m2 : CoM} (k : Dd w0 w c r db T cur m1 m2 n1 n2) {eb : Nat} {U : TypeId} {new : List Value} (hA : At w0 eb U new) : Dd w0 w c r eb U new m1 m2 n1 n2 := by
  obtain ⟨F, G, k⟩ := k
  have hl := hA.lt
  exact ⟨F, G, k.co, k.rc, k.dj, k.lf, k.lg, k.bl, (k.bl.block eb hl).trans hA, fun e => by have := k.lf _ e; omega, fun e => by have := k.lg _ e; omega⟩
theorem dp_lend {w0 w : World} {c r db n1 n2 : Nat} {T : TypeId} {cur : List Value} {m1 m2 : CoM} (k : Dd w0 w c r db T cur m1 m2 n1 n2) {z : Int} (hk : In64 z) (hn : n1 < manyN) : Calls Try.prog 33 #[ptrV c, .int .i64 z] w fun e w' => e = .returned (.tuple #[.int .i64 (m1.lendG z : Nat), .int .i64 (m1.lendX z : Nat), .int .i64 (m1.lendErr z)]) ∧ Dd w0 w' c r db T cur (m1.lent' z) m2 (n1 + 1) n2 := by
  obtain ⟨F, G, k⟩ := k
  refine (clend_any k.co hk hn).mono ?_
  rintro e w' ⟨h1, h2, F', h3, h4⟩
  exact ⟨h1, k.prog h2 h3 h4⟩
theorem dr_lend {w0 w : World} {c r db n1 n2 : Nat} {T : TypeId} {cur : List Value} {m1 m2 : CoM} (k : Dd w0 w c r db T cur m1 m2 n1 n2) {z : Int} (hn : n2 < 3518437208880) : Calls Try.prog 73 #[ptrV r, .int .i64 z] w fun e w' => e = .returned (.tuple #[.int .i64 (m2.lendG z : Nat), .int .i64 (m2.lendX z : Nat), .int .i64 (m2.lendErr z)]) ∧ Dd w0 w' c r db T cur m1 (m2.lent' z) n1 (n2 + 1) := by
  obtain ⟨F, G, k⟩ := k
  refine (rlend_any k.rc hn).mono ?_
  rintro e w' ⟨h1, h2, F', h3, h4⟩
  exact ⟨h1, k.ref h2 h3 h4⟩
theorem dp_record {w0 w : World} {c r db n1 n2 : Nat} {T : TypeId} {cur : List Value} {m1 m2 : CoM} (k : Dd w0 w c r db T cur m1 m2 n1 n2) {z : Int} (hk : In64 z) : Calls Try.prog 26 #[ptrV c, .int .i64 z] w fun e w' => e = .returned (.tuple #[recV m1 z, .int .i64 (m1.recErr z)]) ∧ Below w.heap.size w w' := by
  obtain ⟨F, G, k⟩ := k
  exact crecord_any k.co hk
theorem dr_record {w0 w : World} {c r db n1 n2 : Nat} {T : TypeId} {cur : List Value} {m1 m2 : CoM} (k : Dd w0 w c r db T cur m1 m2 n1 n2) {z : Int} (hn : n2 ≤ manyN) : Calls Try.prog 27 #[ptrV r, .int .i64 z] w fun e w' => e = .returned (.tuple #[recV m2 z, .int .i64 (m2.recErr z)]) ∧ Below w.heap.size w w' := by
  obtain ⟨F, G, k⟩ := k
  exact rrecord_any k.rc hn
theorem dp_page {w0 w : World} {c r db n1 n2 : Nat} {T : TypeId} {cur : List Value} {m1 m2 : CoM} (k : Dd w0 w c r db T cur m1 m2 n1 n2) {z : Int} (hk : In64 z) : Calls Try.prog 28 #[ptrV c, .int .i64 z] w (PagePost w m1 z) := by
  obtain ⟨F, G, k⟩ := k
  exact cpage_any k.co hk
theorem dr_page {w0 w : World} {c r db n1 n2 : Nat} {T : TypeId} {cur : List Value} {m1 m2 : CoM} (k : Dd w0 w c r db T cur m1 m2 n1 n2) {z : Int} : Calls Try.prog 29 #[ptrV r, .int .i64 z] w (PagePost w m2 z) := by
  obtain ⟨F, G, k⟩ := k
  exact rpage_any k.rc
end Go.Proofs.Ytcnkcbipkchoiag
namespace Go.Proofs.Ytcnkcbipkchoiag
open Go.ChangeShapes Go.WideShapes Go.ChangeAt Go.RowKit
/-- Operation i waits for operation j. -/
def waitsFor (ops : Array Oper) (i j : Nat) : Bool := ((ops[i]?).map fun o => o.after.any fun e => e.on == j && Region.binds .any e).getD false
/-- Operation i waits for none behind it. -/
def laterNone (ops : Array Oper) (i : Nat) : Bool := ((ops[i]?).map fun o => o.after.all fun e => !Region.binds .any e || decide (e.on < i)).getD true
theorem ready_waits {ops : Array Oper} {listed : Array Bool} {i j : Nat} (h : i ∈ Region.ready .any ops listed) (hw : waitsFor ops i j = true) : listed.getD j false = true := by
  unfold Region.ready at h
  rw [List.mem_filter] at h
  obtain ⟨_, h⟩ := h
  unfold waitsFor at hw
  cases ho : ops[i]? with
  | none => rw [ho] at hw; simp at hw
  | some o =>
    rw [ho] at h hw
    simp only [Option.map_some, Option.getD_some, Bool.and_eq_true, Array.any_eq_true, Array.all_eq_true] at h hw
    obtain ⟨x, hx, he⟩ := hw
    have h2 := h.2 x hx
    simp only [beq_iff_eq, Bool.or_eq_true, Bool.not_eq_true'] at he h2
    rw [← he.1]
    rcases h2 with h2 | h2
    · rw [he.2] at h2; cases h2
    · exact h2
theorem ready_un {ops : Array Oper} {listed : Array Bool} {i : Nat} (h : i ∈ Region.ready .any ops listed) : i < ops.size ∧ listed.getD i true = false := by
  unfold Region.ready at h
  rw [List.mem_filter] at h
  simp only [List.mem_range, Bool.and_eq_true, Bool.not_eq_true'] at h
  exact ⟨h.1, h.2.1⟩
/-- The first that is not listed is ready. -/
theorem ready_first {ops : Array Oper} {listed : Array Bool} {i : Nat} (hi : i < ops.size) (hl : listed.getD i true = false) (hp : ∀ j, j < i → listed.getD j false = true) (ht : laterNone ops i = true) : i ∈ Region.ready .any ops listed := by
  unfold Region.ready
  rw [List.mem_filter]
  refine ⟨List.mem_range.2 hi, ?_⟩
  unfold laterNone at ht
  have ho : ops[i]? = some ops[i] := Array.getElem?_eq_getElem hi
  rw [ho] at ht ⊢
  simp only [Option.map_some, Option.getD_some, Array.all_eq_true, decide_eq_true_eq, Bool.and_eq_true, Bool.not_eq_true', Bool.or_eq_true] at ht ⊢
  exact ⟨hl, fun x hx => (ht x hx).imp id (hp _)⟩
theorem ready_done {ops : Array Oper} {listed : Array Bool} (h : ∀ i, i < ops.size → listed.getD i true = true) : Region.ready .any ops listed = [] := by
  unfold Region.ready
  rw [List.filter_eq_nil_iff]
  intro i hi
  rw [List.mem_range] at hi
  rw [h i hi]
  simp
theorem getD_set (L : Array Bool) (i j : Nat) (b : Bool) : (L.setIfInBounds i true).getD j b = if i = j ∧ j < L.size then true else L.getD j b := by
  simp only [Array.getD_eq_getD_getElem?, Array.getElem?_setIfInBounds]
  by_cases h : i = j
  · subst h
    by_cases h2 : i < L.size
    · simp [h2]
    · simp [h2]
  · simp [h]
theorem count_set (L : Array Bool) (i : Nat) (h : L.getD i true = false) : (L.setIfInBounds i true).toList.count false + 1 = L.toList.count false := by
  have hi : i < L.size := by
    rcases Nat.lt_or_ge i L.size with h' | h'
    · exact h'
    · rw [Array.getD_eq_getD_getElem?, Array.getElem?_eq_none h'] at h; cases h
  have he : L.toList[i]'(by simpa using hi) = false := by
    rw [Array.getD_eq_getD_getElem?, Array.getElem?_eq_getElem hi] at h
    simpa using h
  rw [Array.toList_setIfInBounds, List.count_set (by simpa using hi), he]
  have : 0 < L.toList.count false := List.count_pos_iff.2 (he ▸ List.getElem_mem _)
  show L.toList.count false - 1 + 0 + 1 = L.toList.count false
  omega
theorem least {p : Nat → Prop} : ∀ n, p n → ∃ m, p m ∧ ∀ j, j < m → ¬ p j := by
  intro n
  induction n using Nat.strongRecOn with
  | ind n ih =>
    intro hn
    by_cases h : ∃ j, j < n ∧ p j
    · obtain ⟨j, hj, hp⟩ := h
      exact ih j hj hp
    · exact ⟨n, hn, fun j hj hp => h ⟨j, hj, hp⟩⟩
end Go.Proofs.Ytcnkcbipkchoiag
namespace Go.Proofs.Ytcnkcbipkchoiag
open Go.ChangeShapes Go.WideShapes Go.ChangeAt Go.RowKit
theorem any_inv {P : Program} {ops : Array Oper} {Q : Exit → Act → World → Prop} (k : Nat) (Inv : (Nat → Bool) → Act → World → Prop) (hk : ops.size = k) (htopo : ∀ i, i < k → laterNone ops i = true)
    (hstep : ∀ (L : Nat → Bool) (a : Act) (w : World) (i : Nat), Inv L a w → i < k → L i = false → (∀ j, waitsFor ops i j = true → L j = true) → wpOp P ops Q i (fun a' w' => Inv (fun j => if j = i then true else L j) a' w') a w)
    (hdone : ∀ (L : Nat → Bool) (a : Act) (w : World), (∀ j, j < k → L j = true) → Inv L a w → Q .normal a w) :
    ∀ (fuel : Nat) (listed : Array Bool) (a : Act) (w : World), listed.size = k → listed.toList.count false ≤ fuel → Inv (fun j => listed.getD j false) a w → wpAny P .any ops Q fuel listed a w := by
  have hdn : ∀ (listed : Array Bool) (a : Act) (w : World), listed.size = k → Region.ready .any ops listed = [] → Inv (fun j => listed.getD j false) a w → Q .normal a w := by
    intro listed a w hls hr hi
    refine hdone _ a w (fun j hj => ?_) hi
    show listed.getD j false = true
    by_cases hex : ∃ i, i < k ∧ listed.getD i true = false
    · obtain ⟨i0, hi0⟩ := hex
      obtain ⟨i, ⟨hi1, hf⟩, hmin⟩ := least (p := fun i => i < k ∧ listed.getD i true = false) i0 hi0
      have : i ∈ Region.ready .any ops listed := ready_first (by omega) hf (fun j hj => by
        have hjs : j < listed.size := by omega
        cases hb : listed.getD j false with
        | true => rfl
        | false =>
          have h2 : listed.getD j true = false := by
            rw [Array.getD_eq_getD_getElem?, Array.getElem?_eq_getElem hjs] at hb ⊢
            simpa using hb
          exact absurd (show j < k ∧ listed.getD j true = false from ⟨by omega, h2⟩) (hmin j hj)) (htopo i hi1)
      rw [hr] at this
      cases this
    · have hjs : j < listed.size := by omega
      have h2 : listed.getD j true ≠ false := fun h => hex ⟨j, hj, h⟩
      rw [Array.getD_eq_getD_getElem?, Array.getElem?_eq_getElem hjs] at h2 ⊢
      simpa using h2
  intro fuel
  induction fuel with
  | zero =>
    intro listed a w hls hc hi
    have hr : Region.ready .any ops listed = [] := ready_done fun j hj => by
      have hjs : j < listed.size := by omega
      cases hb : listed.getD j true with
      | true => rfl
      | false =>
        have := count_set listed j hb
        omega
    exact ⟨hr, hdn listed a w hls hr hi⟩
  | succ fuel ih =>
    intro listed a w hls hc hi
    refine ⟨fun hr => hdn listed a w hls hr hi, fun i hir => ?_⟩
    obtain ⟨his, hiu⟩ := ready_un hir
    have hil : i < listed.size := by omega
    refine wpOp_mono (fun a' w' h => ?_) (hstep _ a w i hi (by omega) (by
      rw [Array.getD_eq_getD_getElem?, Array.getElem?_eq_getElem hil] at hiu
      show listed.getD i false = false
      rw [Array.getD_eq_getD_getElem?, Array.getElem?_eq_getElem hil]
      simpa using hiu) (fun j hj => ready_waits hir hj))
    refine ih _ a' w' (by rw [Array.size_setIfInBounds]; exact hls) (by have := count_set listed i hiu; omega) ?_
    have e : (fun j => (listed.setIfInBounds i true).getD j false) = fun j => if j = i then true else listed.getD j false := by
      funext j
      rw [getD_set]
      by_cases h1 : j = i
      · subst h1
        rw [if_pos ⟨rfl, hil⟩, if_pos rfl]
      · rw [if_neg (fun h => h1 h.1.symm), if_neg h1]
    rw [e]
    exact h
theorem region_inv {P : Program} {ops : Array Oper} {Q : Exit → Act → World → Prop} {id : Nat} (k : Nat) (Inv : (Nat → Bool) → Act → World → Prop) (a0 : Act) (w : World) (hm : P.follows .mixedOrders = true) (hk : ops.size = k) (htopo : ((List.range k).all fun i => laterNone ops i) = true)
    (h0 : Inv (fun _ => false) a0 w.drew)
    (hstep : ∀ (L : Nat → Bool) (a : Act) (w : World) (i : Nat), Inv L a w → i < k → L i = false → (∀ j, waitsFor ops i j = true → L j = true) → wpOp P ops Q i (fun a' w' => Inv (fun j => if j = i then true else L j) a' w') a w)
    (hdone : ∀ (L : Nat → Bool) (a : Act) (w : World), (∀ j, j < k → L j = true) → Inv L a w → Q .normal a w) : (Code.region id ops true).wp P Q a0 w := by
  refine wp_region_any hm ?_
  show wpAny P .any ops Q ops.size (Array.replicate ops.size false) a0 w.drew
  rw [hk]
  refine any_inv k Inv hk (fun i hi => List.all_eq_true.1 htopo i (List.mem_range.2 hi)) hstep hdone k _ a0 w.drew (by simp) (by simp) ?_
  have e : (fun j => (Array.replicate k false).getD j false) = fun _ : Nat => false := by
    funext j
    rw [Array.getD_eq_getD_getElem?, Array.getElem?_replicate]
    split <;> rfl
  rw [e]
  exact h0
theorem act_known (a : Act) (lst : List Value) (hs : a.tmps.size = lst.length) (hd : a.defers = []) (h : ∀ s : Nat, s < lst.length → a.eval (.tmp s) = lst.getD s undef) : a = { tmps := lst.toArray, defers := [] } := by
  obtain ⟨t, d⟩ := a
  simp only at hs hd
  subst hd
  congr 1
  refine Array.ext (by simpa using hs) fun i i1 i2 => ?_
  have hti : t[i] = t.getD i undef := by simp [Array.getD, i1]
  have := h i (by omega)
  have hev : ({ tmps := t, defers := [] } : Act).eval (.tmp i) = t.getD i undef := rfl
  rw [hti, ← hev, this]
  simp [List.getD, show i < lst.length by omega]
def setAll (l : List Value) : List (Nat × Value) → List Value
  | [] => l
  | q :: t => setAll (l.set q.1 q.2) t
theorem setAll_length (t : List (Nat × Value)) : ∀ l : List Value, (setAll l t).length = l.length := by
  induction t with
  | nil => intro l; rfl
  | cons q t ih => intro l; rw [setAll, ih, List.length_set]
theorem beq_ne {a b : Nat} (h : a ≠ b) : Nat.beq a b = false := by
  cases hb : Nat.beq a b with
  | false => rfl
  | true => exact absurd (Nat.eq_of_beq_eq_true hb) h
/-- What a slot holds behind it all. -/
def lkp (l0 : List Value) : List (Nat × Value) → Nat → Value
  | [], s => l0.getD s undef
  | q :: t, s => match Nat.beq q.1 s with
    | true => q.2
    | false => lkp l0 t s
theorem lkp_set {l0 : List Value} {i : Nat} {v : Value} : ∀ (t : List (Nat × Value)) (s : Nat), i ≠ s → lkp (l0.set i v) t s = lkp l0 t s
  | [], s, h => by simp [lkp, List.getD, h]
  | q :: t, s, h => by
    rw [lkp, lkp, lkp_set t s h]
theorem lkp_none {l0 : List Value} : ∀ (t : List (Nat × Value)) (s : Nat), (∀ q ∈ t, q.1 ≠ s) → lkp l0 t s = l0.getD s undef
  | [], s, _ => rfl
  | q :: t, s, h => by
    have h1 : Nat.beq q.1 s = false := beq_ne (h q (by simp))
    rw [lkp, h1]
    exact lkp_none t s (fun q hq => h q (List.mem_cons_of_mem _ hq))
theorem setAll_lkp (t : List (Nat × Value)) : ∀ (l0 : List Value) (s : Nat), (t.map (·.1)).Nodup → (∀ q ∈ t, q.1 < l0.length) → (setAll l0 t).getD s undef = lkp l0 t s := by
  induction t with
  | nil => intro l0 s _ _; rfl
  | cons q t ih =>
    intro l0 s hn hl
    rw [List.map_cons, List.nodup_cons] at hn
    rw [setAll, ih _ s hn.2 (fun p hp => by rw [List.length_set]; exact hl p (List.mem_cons_of_mem _ hp)), lkp]
    by_cases e : q.1 = s
    · subst e
      have h1 : Nat.beq q.1 q.1 = true := Nat.beq_refl q.1
      rw [h1, lkp_none t _ (fun p hp he => hn.1 (List.mem_map.2 ⟨p, hp, he⟩))]
      simp [List.getD, hl q (by simp)]
    · have h1 : Nat.beq q.1 s = false := beq_ne e
      rw [h1]
      exact lkp_set t s e
theorem lkp_at (l0 : List Value) (t : List (Nat × Value)) (hn : (t.map (·.1)).Nodup) : ∀ i, i < t.length → lkp l0 t (t.getD i (0, undef)).1 = (t.getD i (0, undef)).2 := by
  induction t with
  | nil => intro i hi; simp at hi
  | cons q t ih =>
    intro i hi
    rw [List.map_cons, List.nodup_cons] at hn
    cases i with
    | zero => simp [lkp, List.getD]
    | succ i =>
      have hi' : i < t.length := by simpa using hi
      have e : (q :: t).getD (i + 1) (0, undef) = t.getD i (0, undef) := by simp [List.getD]
      rw [e, lkp]
      have hm : (t.getD i (0, undef)) ∈ t := by
        have e2 : t.getD i (0, undef) = t[i] := by simp [List.getD, hi']
        rw [e2]
        exact List.getElem_mem hi'
      have h1 : Nat.beq q.1 (t.getD i (0, undef)).1 = false := beq_ne (fun h => hn.1 (List.mem_map.2 ⟨_, hm, h.symm⟩))
      rw [h1]
      exact ih hn.2 i hi'
theorem op_value {P : Program} {ops : Array Oper} {Q : Exit → Act → World → Prop} {i : Nat} {o : Oper} {a : Act} {w w' : World} {v : Value} {K : Act → World → Prop} (hi : ops[i]? = some o) (hg : o.guard = none)
    (hrun : (execOp a.eval o).run P w = .ok (.value v) w') (hK : K (a.put o.dst v) w') : wpOp P ops Q i K a w := by
  unfold wpOp
  rw [hi]
  have hw : Region.wanted o (yielded ops a.tmps) = true := by simp [Region.wanted, hg]
  simp only [hw, if_true, Oper.wp]
  left
  rw [hrun]
  exact hK
end Go.Proofs.Ytcnkcbipkchoiag
